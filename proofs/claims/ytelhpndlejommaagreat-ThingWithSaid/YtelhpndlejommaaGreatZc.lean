/- The order of things: mathematics. -/
import Derived.Test.YtelhpndlejommaaGreatZa
namespace Go.Proofs.YtelhpndlejommaaGreat
open Go.RowKit Go.Shelf

def cmpI (a b : Int) : Int := if a < b then -1 else if b < a then 1 else 0

/-- Lists compared element by element. -/
def lexL {α : Type} (c : α → α → Int) : List α → List α → Int
  | [], [] => 0
  | [], _ :: _ => -1
  | _ :: _, [] => 1
  | a :: la, b :: bs => if c a b = 0 then lexL c la bs else c a b

def vcmp (v u : Va) : Int := lexL cmpI v.nums u.nums

mutual
def Th.cmp : Th → Th → Int
  | .mk cs vs ps, .mk cs' vs' ps' => if lexL cmpI cs cs' = 0 then (if lexL vcmp vs vs' = 0 then Th.cmpL ps ps' else lexL vcmp vs vs') else lexL cmpI cs cs'
def Th.cmpL : List Th → List Th → Int
  | [], [] => 0
  | [], _ :: _ => -1
  | _ :: _, [] => 1
  | a :: la, b :: bs => if Th.cmp a b = 0 then Th.cmpL la bs else Th.cmp a b
end

theorem Th.cmpL_lex : ∀ (la bs : List Th), Th.cmpL la bs = lexL Th.cmp la bs := by
  intro la
  induction la with
  | nil => intro bs; cases bs <;> rfl
  | cons a la ih =>
    intro bs
    cases bs with
    | nil => rfl
    | cons b bs => rw [Th.cmpL, lexL, ih]

theorem Th.cmp_eq (a b : Th) : Th.cmp a b = if lexL cmpI a.cs b.cs = 0 then (if lexL vcmp a.vs b.vs = 0 then lexL Th.cmp a.ps b.ps else lexL vcmp a.vs b.vs) else lexL cmpI a.cs b.cs := by
  cases a; cases b
  rw [Th.cmp, Th.cmpL_lex]
  rfl

theorem cmpI_self (a : Int) : cmpI a a = 0 := by unfold cmpI; simp

theorem cmpI_zero {a b : Int} : cmpI a b = 0 ↔ a = b := by
  unfold cmpI
  constructor
  · intro h
    split at h
    · omega
    · split at h <;> omega
  · rintro rfl; simp

theorem cmpI_anti (a b : Int) : cmpI b a = - cmpI a b := by
  unfold cmpI
  split <;> split <;> (try split) <;> omega

theorem cmpI_range (a b : Int) : -1 ≤ cmpI a b ∧ cmpI a b ≤ 1 := by
  unfold cmpI
  split
  · omega
  · split <;> omega

theorem lexL_range {α : Type} {c : α → α → Int} : ∀ (la bs : List α), (∀ a ∈ la, ∀ b ∈ bs, -1 ≤ c a b ∧ c a b ≤ 1) → -1 ≤ lexL c la bs ∧ lexL c la bs ≤ 1
  | [], [], _ => by simp [lexL]
  | [], _ :: _, _ => by simp [lexL]
  | _ :: _, [], _ => by simp [lexL]
  | a :: la, b :: bs, h => by
    rw [lexL]
    split
    · exact lexL_range la bs fun x hx y hy => h x (List.mem_cons_of_mem _ hx) y (List.mem_cons_of_mem _ hy)
    · exact h a (List.mem_cons_self ..) b (List.mem_cons_self ..)

theorem lexL_anti {α : Type} {c : α → α → Int} : ∀ (la bs : List α), (∀ a ∈ la, ∀ b ∈ bs, c b a = - c a b) → lexL c bs la = - lexL c la bs
  | [], [], _ => by simp [lexL]
  | [], _ :: _, _ => by simp [lexL]
  | _ :: _, [], _ => by simp [lexL]
  | a :: la, b :: bs, h => by
    have h1 := h a (List.mem_cons_self ..) b (List.mem_cons_self ..)
    have h2 := lexL_anti la bs fun x hx y hy => h x (List.mem_cons_of_mem _ hx) y (List.mem_cons_of_mem _ hy)
    rw [lexL, lexL, h1, h2]
    by_cases h0 : c a b = 0
    · rw [if_pos (by omega), if_pos h0]
    · rw [if_neg (by omega), if_neg h0]

theorem lexL_zero {α : Type} {c : α → α → Int} : ∀ (la bs : List α), (∀ a ∈ la, ∀ b ∈ bs, c a b = 0 → a = b) → lexL c la bs = 0 → la = bs
  | [], [], _, _ => rfl
  | [], _ :: _, _, h => by simp [lexL] at h
  | _ :: _, [], _, h => by simp [lexL] at h
  | a :: la, b :: bs, h, h0 => by
    rw [lexL] at h0
    by_cases h1 : c a b = 0
    · rw [if_pos h1] at h0
      rw [h a (List.mem_cons_self ..) b (List.mem_cons_self ..) h1, lexL_zero la bs (fun x hx y hy => h x (List.mem_cons_of_mem _ hx) y (List.mem_cons_of_mem _ hy)) h0]
    · rw [if_neg h1] at h0
      exact absurd h0 h1

theorem lexL_self {α : Type} {c : α → α → Int} : ∀ (la : List α), (∀ a ∈ la, c a a = 0) → lexL c la la = 0
  | [], _ => rfl
  | a :: la, h => by
    rw [lexL, if_pos (h a (List.mem_cons_self ..))]
    exact lexL_self la fun x hx => h x (List.mem_cons_of_mem _ hx)

/-- What an order has to do: not greater, twice. -/
theorem lexL_trans {α : Type} {c : α → α → Int} : ∀ (la bs cs : List α), (∀ a ∈ la, ∀ b ∈ bs, c a b = 0 → a = b) → (∀ b ∈ bs, ∀ d ∈ cs, c b d = 0 → b = d) → (∀ a ∈ la, ∀ b ∈ bs, ∀ d ∈ cs, c a b ≤ 0 → c b d ≤ 0 → c a d ≤ 0) →
    (∀ a ∈ la, ∀ d ∈ cs, c a d = 0 → ∀ b ∈ bs, c a b ≤ 0 → c b d ≤ 0 → c a b = 0) → lexL c la bs ≤ 0 → lexL c bs cs ≤ 0 → lexL c la cs ≤ 0
  | [], _, [], _, _, _, _, _, _ => by simp [lexL]
  | [], _, _ :: _, _, _, _, _, _, _ => by simp [lexL]
  | _ :: _, [], _, _, _, _, _, h, _ => by simp [lexL] at h
  | _, _ :: _, [], _, _, _, _, _, h => by simp [lexL] at h
  | a :: la, b :: bs, d :: ds, hz, hz2, ht, he, h1, h2 => by
    have ma : a ∈ a :: la := List.mem_cons_self ..
    have mb : b ∈ b :: bs := List.mem_cons_self ..
    have md : d ∈ d :: ds := List.mem_cons_self ..
    rw [lexL] at h1 h2 ⊢
    have l1 : c a b ≤ 0 := by
      by_cases h : c a b = 0
      · omega
      · rw [if_neg h] at h1; exact h1
    have l2 : c b d ≤ 0 := by
      by_cases h : c b d = 0
      · omega
      · rw [if_neg h] at h2; exact h2
    have l3 := ht a ma b mb d md l1 l2
    by_cases h : c a d = 0
    · rw [if_pos h]
      have e1 := he a ma d md h b mb l1 l2
      obtain rfl := hz a ma b mb e1
      rw [if_pos e1] at h1
      rw [if_pos h] at h2
      exact lexL_trans la bs ds (fun x hx y hy => hz x (List.mem_cons_of_mem _ hx) y (List.mem_cons_of_mem _ hy)) (fun x hx y hy => hz2 x (List.mem_cons_of_mem _ hx) y (List.mem_cons_of_mem _ hy)) (fun x hx y hy z hzz => ht x (List.mem_cons_of_mem _ hx) y (List.mem_cons_of_mem _ hy) z (List.mem_cons_of_mem _ hzz)) (fun x hx z hzz e y hy => he x (List.mem_cons_of_mem _ hx) z (List.mem_cons_of_mem _ hzz) e y (List.mem_cons_of_mem _ hy)) h1 h2
    · rw [if_neg h]; exact l3

/-- A comparison that is an order. -/
structure IsOrd {α : Type} (c : α → α → Int) : Prop where
  range : ∀ a b, -1 ≤ c a b ∧ c a b ≤ 1
  anti : ∀ a b, c b a = - c a b
  zero : ∀ a b, c a b = 0 → a = b
  self : ∀ a, c a a = 0
  trans : ∀ a b d, c a b ≤ 0 → c b d ≤ 0 → c a d ≤ 0

theorem IsOrd.lex {α : Type} {c : α → α → Int} (h : IsOrd c) : IsOrd (lexL c) where
  range la bs := lexL_range la bs fun a _ b _ => h.range a b
  anti la bs := lexL_anti la bs fun a _ b _ => h.anti a b
  zero la bs := lexL_zero la bs fun a _ b _ => h.zero a b
  self la := lexL_self la fun a _ => h.self a
  trans la bs cs := lexL_trans la bs cs (fun a _ b _ => h.zero a b) (fun a _ b _ => h.zero a b) (fun a _ b _ d _ => h.trans a b d) (fun a _ d _ e b _ h1 h2 => by
    obtain rfl := h.zero a d e
    have := h.anti a b
    omega)

theorem cmpI_ord : IsOrd cmpI where
  range := cmpI_range
  anti := cmpI_anti
  zero a b h := cmpI_zero.1 h
  self := cmpI_self
  trans a b d h1 h2 := by
    unfold cmpI at *
    split at h1 <;> split at h2 <;> split <;> (try split) <;> (try split at h1) <;> (try split at h2) <;> omega

theorem vcmp_ord : IsOrd vcmp where
  range a b := cmpI_ord.lex.range _ _
  anti a b := cmpI_ord.lex.anti _ _
  zero a b h := by
    have := cmpI_ord.lex.zero _ _ h
    cases a; cases b
    simp only [Va.nums, List.cons.injEq] at this
    obtain ⟨rfl, rfl, rfl, _⟩ := this
    rfl
  self a := cmpI_ord.lex.self _
  trans a b d := cmpI_ord.lex.trans _ _ _

/-- The order of two of three things, one behind the other. -/
theorem two_trans {A B : Type} {c : A → A → Int} {d : B → B → Int} (hc : IsOrd c) {a1 a2 a3 : A} {b1 b2 b3 : B} (hd : d b1 b2 ≤ 0 → d b2 b3 ≤ 0 → d b1 b3 ≤ 0)
    (h1 : (if c a1 a2 = 0 then d b1 b2 else c a1 a2) ≤ 0) (h2 : (if c a2 a3 = 0 then d b2 b3 else c a2 a3) ≤ 0) : (if c a1 a3 = 0 then d b1 b3 else c a1 a3) ≤ 0 := by
  by_cases e1 : c a1 a2 = 0
  · rw [if_pos e1] at h1
    obtain rfl := hc.zero _ _ e1
    by_cases e2 : c a1 a3 = 0
    · rw [if_pos e2] at h2 ⊢
      exact hd h1 h2
    · rw [if_neg e2] at h2 ⊢
      exact h2
  · rw [if_neg e1] at h1
    by_cases e2 : c a2 a3 = 0
    · obtain rfl := hc.zero _ _ e2
      rw [if_neg e1]
      exact h1
    · rw [if_neg e2] at h2
      have h3 := hc.trans _ _ _ h1 h2
      by_cases e3 : c a1 a3 = 0
      · obtain rfl := hc.zero _ _ e3
        have := hc.anti a1 a2
        omega
      · rw [if_neg e3]; exact h3

theorem Th.cmp_range : ∀ (m : Nat) (a : Th), a.size ≤ m → ∀ b, -1 ≤ Th.cmp a b ∧ Th.cmp a b ≤ 1 := by
  intro m
  induction m with
  | zero => intro a h; have := a.size_pos; omega
  | succ m ih =>
    intro a h b
    rw [Th.cmp_eq]
    have hs := a.size_eq
    split
    · split
      · exact lexL_range _ _ fun x hx y _ => ih x (by have := Th.sizes_mem hx; omega) y
      · exact vcmp_ord.lex.range _ _
    · exact cmpI_ord.lex.range _ _

theorem Th.cmp_anti : ∀ (m : Nat) (a : Th), a.size ≤ m → ∀ b, Th.cmp b a = - Th.cmp a b := by
  intro m
  induction m with
  | zero => intro a h; have := a.size_pos; omega
  | succ m ih =>
    intro a h b
    have hs := a.size_eq
    rw [Th.cmp_eq, Th.cmp_eq a b, cmpI_ord.lex.anti a.cs b.cs, vcmp_ord.lex.anti a.vs b.vs, lexL_anti a.ps b.ps fun x hx y _ => ih x (by have := Th.sizes_mem hx; omega) y]
    by_cases h1 : lexL cmpI a.cs b.cs = 0
    · rw [if_pos (by omega), if_pos h1]
      by_cases h2 : lexL vcmp a.vs b.vs = 0
      · rw [if_pos (by omega), if_pos h2]
      · rw [if_neg (by omega), if_neg h2]
    · rw [if_neg (by omega), if_neg h1]

theorem Th.cmp_zero : ∀ (m : Nat) (a : Th), a.size ≤ m → ∀ b, Th.cmp a b = 0 → a = b := by
  intro m
  induction m with
  | zero => intro a h; have := a.size_pos; omega
  | succ m ih =>
    intro a h b h0
    have hs := a.size_eq
    rw [Th.cmp_eq] at h0
    by_cases h1 : lexL cmpI a.cs b.cs = 0
    · rw [if_pos h1] at h0
      by_cases h2 : lexL vcmp a.vs b.vs = 0
      · rw [if_pos h2] at h0
        have e1 := cmpI_ord.lex.zero _ _ h1
        have e2 := vcmp_ord.lex.zero _ _ h2
        have e3 := lexL_zero a.ps b.ps (fun x hx y _ => ih x (by have := Th.sizes_mem hx; omega) y) h0
        cases a; cases b
        simp only [Th.cs, Th.vs, Th.ps] at e1 e2 e3
        rw [e1, e2, e3]
      · rw [if_neg h2] at h0; exact absurd h0 h2
    · rw [if_neg h1] at h0; exact absurd h0 h1

theorem Th.cmp_self : ∀ (m : Nat) (a : Th), a.size ≤ m → Th.cmp a a = 0 := by
  intro m
  induction m with
  | zero => intro a h; have := a.size_pos; omega
  | succ m ih =>
    intro a h
    have hs := a.size_eq
    rw [Th.cmp_eq, if_pos (cmpI_ord.lex.self _), if_pos (vcmp_ord.lex.self _)]
    exact lexL_self a.ps fun x hx => ih x (by have := Th.sizes_mem hx; omega)

theorem Th.cmp_trans : ∀ (m : Nat) (a : Th), a.size ≤ m → ∀ b d, Th.cmp a b ≤ 0 → Th.cmp b d ≤ 0 → Th.cmp a d ≤ 0 := by
  intro m
  induction m with
  | zero => intro a h; have := a.size_pos; omega
  | succ m ih =>
    intro a h b d h1 h2
    have hs := a.size_eq
    rw [Th.cmp_eq] at h1 h2 ⊢
    refine two_trans cmpI_ord.lex (d := fun (x y : Th) => if lexL vcmp x.vs y.vs = 0 then lexL Th.cmp x.ps y.ps else lexL vcmp x.vs y.vs) (b1 := a) (b2 := b) (b3 := d) (fun g1 g2 => ?_) h1 h2
    refine two_trans vcmp_ord.lex (d := fun (x y : Th) => lexL Th.cmp x.ps y.ps) (b1 := a) (b2 := b) (b3 := d) (fun g1 g2 => ?_) g1 g2
    refine lexL_trans _ _ _ (fun x _ y _ => Th.cmp_zero _ x (Nat.le_refl _) y) (fun x _ y _ => Th.cmp_zero _ x (Nat.le_refl _) y) (fun x hx y _ z _ => ih x (by have := Th.sizes_mem hx; omega) y z) (fun x _ z _ e y _ k1 k2 => ?_) g1 g2
    obtain rfl := Th.cmp_zero _ x (Nat.le_refl _) z e
    have := Th.cmp_anti _ x (Nat.le_refl _) y
    omega

theorem Th.ord : IsOrd Th.cmp where
  range a := Th.cmp_range _ a (Nat.le_refl _)
  anti a := Th.cmp_anti _ a (Nat.le_refl _)
  zero a := Th.cmp_zero _ a (Nat.le_refl _)
  self a := Th.cmp_self _ a (Nat.le_refl _)
  trans a := Th.cmp_trans _ a (Nat.le_refl _)

/-- The reference compares the numbers of values. -/
theorem numsL_lex : ∀ (la bs : List Va), lexL cmpI (numsL la) (numsL bs) = lexL vcmp la bs
  | [], [] => rfl
  | [], b :: bs => rfl
  | a :: la, [] => rfl
  | a :: la, b :: bs => by
    have ih := numsL_lex la bs
    unfold numsL at ih ⊢
    simp only [List.flatMap_cons, Va.nums, List.cons_append, List.nil_append, lexL, vcmp, ih]
    by_cases h1 : cmpI a.t b.t = 0
    · by_cases h2 : cmpI a.n b.n = 0
      · by_cases h3 : cmpI a.d b.d = 0
        · simp [h1, h2, h3]
        · simp [h1, h2, h3]
      · simp [h1, h2]
    · simp [h1]

end Go.Proofs.YtelhpndlejommaaGreat
