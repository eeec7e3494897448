import Derived.Test.YtgnloodmbgdgdaaGreatFB09
import Derived.Test.YtgnloodmbgdgdaaGreatFB04
import Derived.Test.YtgnloodmbgdgdaaGreatFB01
import Derived.RangeFuncNested
import Derived.RangeFuncBound
import Derived.RangeFuncCalls
import Derived.RangeFuncLeaves
import Derived.Shelf.Abstract
import Derived.WalkKit
import Derived.OwnWalkIn
import Derived.TacticsInMore
import Derived.LoopNIn
import Derived.LoopIn
namespace Go.Proofs.YtgnloodmbgdgdaaGreat
open Go.RowKit Go.Shelf
def cmpI (a b : Int) : Int := if a < b then -1 else if b < a then 1 else 0
def lexL {α : Type} (c : α → α → Int) : List α → List α → Int
 | [], [] => 0
 | [], _ :: _ => -1
 | _ :: _, [] => 1
 | a :: la, b :: bs => if c a b = 0 then lexL c la bs else c a b
def vcmp (v u : Va) : Int := lexL cmpI v.nums u.nums
mutual
def Th.cmp : Th → Th → Int
 | .mk cs vs ps, .mk cs' vs' ps' => if lexL cmpI cs cs' = 0 then (if lexL vcmp vs vs' = 0 then Th.cmpL ps ps' else lexL vcmp vs vs') else lexL cmpI cs cs'
def Th.cmpL : List Th → List Th → Int
 | [], [] => 0
 | [], _ :: _ => -1
 | _ :: _, [] => 1
 | a :: la, b :: bs => if Th.cmp a b = 0 then Th.cmpL la bs else Th.cmp a b
end
theorem Th.cmpL_lex : ∀ (la bs : List Th), Th.cmpL la bs = lexL Th.cmp la bs := by
 intro la
 induction la with
 | nil => intro bs; cases bs <;> rfl
 | cons a la ih =>
  intro bs
  cases bs with
  | nil => rfl
  | cons b bs => rw [Th.cmpL, lexL, ih]
theorem Th.cmp_eq (a b : Th) : Th.cmp a b = if lexL cmpI a.cs b.cs = 0 then (if lexL vcmp a.vs b.vs = 0 then lexL Th.cmp a.ps b.ps else lexL vcmp a.vs b.vs) else lexL cmpI a.cs b.cs := by
 cases a; cases b
 rw [Th.cmp, Th.cmpL_lex]
 rfl
theorem cmpI_self (a : Int) : cmpI a a = 0 := by unfold cmpI; simp
theorem cmpI_zero {a b : Int} : cmpI a b = 0 ↔ a = b := by
 unfold cmpI
 constructor
 ·intro h
  split at h
  ·omega
  ·split at h <;> omega
 ·rintro rfl; simp
theorem cmpI_anti (a b : Int) : cmpI b a = - cmpI a b := by
 unfold cmpI
 split <;> split <;> (try split) <;> omega
theorem cmpI_range (a b : Int) : -1 ≤ cmpI a b ∧ cmpI a b ≤ 1 := by
 unfold cmpI
 split
 ·omega
 ·split <;> omega
theorem lexL_range {α : Type} {c : α → α → Int} : ∀ (la bs : List α), (∀ a ∈ la, ∀ b ∈ bs, -1 ≤ c a b ∧ c a b ≤ 1) → -1 ≤ lexL c la bs ∧ lexL c la bs ≤ 1
 | [], [], _ => by simp [lexL]
 | [], _ :: _, _ => by simp [lexL]
 | _ :: _, [], _ => by simp [lexL]
 | a :: la, b :: bs, h => by
  rw [lexL]
  split
  ·exact lexL_range la bs fun x hx y hy => h x (List.mem_cons_of_mem _ hx) y (List.mem_cons_of_mem _ hy)
  ·exact h a (List.mem_cons_self ..) b (List.mem_cons_self ..)
theorem lexL_anti {α : Type} {c : α → α → Int} : ∀ (la bs : List α), (∀ a ∈ la, ∀ b ∈ bs, c b a = - c a b) → lexL c bs la = - lexL c la bs
 | [], [], _ => by simp [lexL]
 | [], _ :: _, _ => by simp [lexL]
 | _ :: _, [], _ => by simp [lexL]
 | a :: la, b :: bs, h => by
  have h1 := h a (List.mem_cons_self ..) b (List.mem_cons_self ..)
  have h2 := lexL_anti la bs fun x hx y hy => h x (List.mem_cons_of_mem _ hx) y (List.mem_cons_of_mem _ hy)
  rw [lexL, lexL, h1, h2]
  by_cases h0 : c a b = 0
  ·rw [if_pos (by omega), if_pos h0]
  ·rw [if_neg (by omega), if_neg h0]
theorem lexL_zero {α : Type} {c : α → α → Int} : ∀ (la bs : List α), (∀ a ∈ la, ∀ b ∈ bs, c a b = 0 → a = b) → lexL c la bs = 0 → la = bs
 | [], [], _, _ => rfl
 | [], _ :: _, _, h => by simp [lexL] at h
 | _ :: _, [], _, h => by simp [lexL] at h
 | a :: la, b :: bs, h, h0 => by
  rw [lexL] at h0
  by_cases h1 : c a b = 0
  ·rw [if_pos h1] at h0
   rw [h a (List.mem_cons_self ..) b (List.mem_cons_self ..) h1, lexL_zero la bs (fun x hx y hy => h x (List.mem_cons_of_mem _ hx) y (List.mem_cons_of_mem _ hy)) h0]
  ·rw [if_neg h1] at h0
   exact absurd h0 h1
theorem lexL_self {α : Type} {c : α → α → Int} : ∀ (la : List α), (∀ a ∈ la, c a a = 0) → lexL c la la = 0
 | [], _ => rfl
 | a :: la, h => by
  rw [lexL, if_pos (h a (List.mem_cons_self ..))]
  exact lexL_self la fun x hx => h x (List.mem_cons_of_mem _ hx)
theorem lexL_trans {α : Type} {c : α → α → Int} : ∀ (la bs cs : List α), (∀ a ∈ la, ∀ b ∈ bs, c a b = 0 → a = b) → (∀ b ∈ bs, ∀ d ∈ cs, c b d = 0 → b = d) → (∀ a ∈ la, ∀ b ∈ bs, ∀ d ∈ cs, c a b ≤ 0 → c b d ≤ 0 → c a d ≤ 0) →
  (∀ a ∈ la, ∀ d ∈ cs, c a d = 0 → ∀ b ∈ bs, c a b ≤ 0 → c b d ≤ 0 → c a b = 0) → lexL c la bs ≤ 0 → lexL c bs cs ≤ 0 → lexL c la cs ≤ 0
 | [], _, [], _, _, _, _, _, _ => by simp [lexL]
 | [], _, _ :: _, _, _, _, _, _, _ => by simp [lexL]
 | _ :: _, [], _, _, _, _, _, h, _ => by simp [lexL] at h
 | _, _ :: _, [], _, _, _, _, _, h => by simp [lexL] at h
 | a :: la, b :: bs, d :: ds, hz, hz2, ht, he, h1, h2 => by
  have ma : a ∈ a :: la := List.mem_cons_self ..
  have mb : b ∈ b :: bs := List.mem_cons_self ..
  have md : d ∈ d :: ds := List.mem_cons_self ..
  rw [lexL] at h1 h2 ⊢
  have l1 : c a b ≤ 0 := by
   by_cases h : c a b = 0
   ·omega
   ·rw [if_neg h] at h1; exact h1
  have l2 : c b d ≤ 0 := by
   by_cases h : c b d = 0
   ·omega
   ·rw [if_neg h] at h2; exact h2
  have l3 := ht a ma b mb d md l1 l2
  by_cases h : c a d = 0
  ·rw [if_pos h]
   have e1 := he a ma d md h b mb l1 l2
   obtain rfl := hz a ma b mb e1
   rw [if_pos e1] at h1
   rw [if_pos h] at h2
   exact lexL_trans la bs ds (fun x hx y hy => hz x (List.mem_cons_of_mem _ hx) y (List.mem_cons_of_mem _ hy)) (fun x hx y hy => hz2 x (List.mem_cons_of_mem _ hx) y (List.mem_cons_of_mem _ hy)) (fun x hx y hy z hzz => ht x (List.mem_cons_of_mem _ hx) y (List.mem_cons_of_mem _ hy) z (List.mem_cons_of_mem _ hzz)) (fun x hx z hzz e y hy => he x (List.mem_cons_of_mem _ hx) z (List.mem_cons_of_mem _ hzz) e y (List.mem_cons_of_mem _ hy)) h1 h2
  ·rw [if_neg h]; exact l3
structure IsOrd {α : Type} (c : α → α → Int) : Prop where
 range : ∀ a b, -1 ≤ c a b ∧ c a b ≤ 1
 anti : ∀ a b, c b a = - c a b
 zero : ∀ a b, c a b = 0 → a = b
 self : ∀ a, c a a = 0
 trans : ∀ a b d, c a b ≤ 0 → c b d ≤ 0 → c a d ≤ 0
theorem IsOrd.lex {α : Type} {c : α → α → Int} (h : IsOrd c) : IsOrd (lexL c) where
 range la bs := lexL_range la bs fun a _ b _ => h.range a b
 anti la bs := lexL_anti la bs fun a _ b _ => h.anti a b
 zero la bs := lexL_zero la bs fun a _ b _ => h.zero a b
 self la := lexL_self la fun a _ => h.self a
 trans la bs cs := lexL_trans la bs cs (fun a _ b _ => h.zero a b) (fun a _ b _ => h.zero a b) (fun a _ b _ d _ => h.trans a b d) (fun a _ d _ e b _ h1 h2 => by
  obtain rfl := h.zero a d e
  have := h.anti a b
  omega)
theorem cmpI_ord : IsOrd cmpI where
 range := cmpI_range
 anti := cmpI_anti
 zero a b h := cmpI_zero.1 h
 self := cmpI_self
 trans a b d h1 h2 := by
  unfold cmpI at *
  split at h1 <;> split at h2 <;> split <;> (try split) <;> (try split at h1) <;> (try split at h2) <;> omega
theorem vcmp_ord : IsOrd vcmp where
 range a b := cmpI_ord.lex.range _ _
 anti a b := cmpI_ord.lex.anti _ _
 zero a b h := by
  have := cmpI_ord.lex.zero _ _ h
  cases a; cases b
  simp only [Va.nums, List.cons.injEq] at this
  obtain ⟨rfl, rfl, rfl, _⟩ := this
  rfl
 self a := cmpI_ord.lex.self _
 trans a b d := cmpI_ord.lex.trans _ _ _
theorem two_trans {A B : Type} {c : A → A → Int} {d : B → B → Int} (hc : IsOrd c) {a1 a2 a3 : A} {b1 b2 b3 : B} (hd : d b1 b2 ≤ 0 → d b2 b3 ≤ 0 → d b1 b3 ≤ 0)
  (h1 : (if c a1 a2 = 0 then d b1 b2 else c a1 a2) ≤ 0) (h2 : (if c a2 a3 = 0 then d b2 b3 else c a2 a3) ≤ 0) : (if c a1 a3 = 0 then d b1 b3 else c a1 a3) ≤ 0 := by
 by_cases e1 : c a1 a2 = 0
 ·rw [if_pos e1] at h1
  obtain rfl := hc.zero _ _ e1
  by_cases e2 : c a1 a3 = 0
  ·rw [if_pos e2] at h2 ⊢
   exact hd h1 h2
  ·rw [if_neg e2] at h2 ⊢
   exact h2
 ·rw [if_neg e1] at h1
  by_cases e2 : c a2 a3 = 0
  ·obtain rfl := hc.zero _ _ e2
   rw [if_neg e1]
   exact h1
  ·rw [if_neg e2] at h2
   have h3 := hc.trans _ _ _ h1 h2
   by_cases e3 : c a1 a3 = 0
   ·obtain rfl := hc.zero _ _ e3
    have := hc.anti a1 a2
    omega
   ·rw [if_neg e3]; exact h3
theorem Th.cmp_range : ∀ (m : Nat) (a : Th), a.size ≤ m → ∀ b, -1 ≤ Th.cmp a b ∧ Th.cmp a b ≤ 1 := by
 intro m
 induction m with
 | zero => intro a h; have := a.size_pos; omega
 | succ m ih =>
  intro a h b
  rw [Th.cmp_eq]
  have hs := a.size_eq
  split
  ·split
   ·exact lexL_range _ _ fun x hx y _ => ih x (by have := Th.sizes_mem hx; omega) y
   ·exact vcmp_ord.lex.range _ _
  ·exact cmpI_ord.lex.range _ _
theorem Th.cmp_anti : ∀ (m : Nat) (a : Th), a.size ≤ m → ∀ b, Th.cmp b a = - Th.cmp a b := by
 intro m
 induction m with
 | zero => intro a h; have := a.size_pos; omega
 | succ m ih =>
  intro a h b
  have hs := a.size_eq
  rw [Th.cmp_eq, Th.cmp_eq a b, cmpI_ord.lex.anti a.cs b.cs, vcmp_ord.lex.anti a.vs b.vs, lexL_anti a.ps b.ps fun x hx y _ => ih x (by have := Th.sizes_mem hx; omega) y]
  by_cases h1 : lexL cmpI a.cs b.cs = 0
  ·rw [if_pos (by omega), if_pos h1]
   by_cases h2 : lexL vcmp a.vs b.vs = 0
   ·rw [if_pos (by omega), if_pos h2]
   ·rw [if_neg (by omega), if_neg h2]
  ·rw [if_neg (by omega), if_neg h1]
theorem Th.cmp_zero : ∀ (m : Nat) (a : Th), a.size ≤ m → ∀ b, Th.cmp a b = 0 → a = b := by
 intro m
 induction m with
 | zero => intro a h; have := a.size_pos; omega
 | succ m ih =>
  intro a h b h0
  have hs := a.size_eq
  rw [Th.cmp_eq] at h0
  by_cases h1 : lexL cmpI a.cs b.cs = 0
  ·rw [if_pos h1] at h0
   by_cases h2 : lexL vcmp a.vs b.vs = 0
   ·rw [if_pos h2] at h0
    have e1 := cmpI_ord.lex.zero _ _ h1
    have e2 := vcmp_ord.lex.zero _ _ h2
    have e3 := lexL_zero a.ps b.ps (fun x hx y _ => ih x (by have := Th.sizes_mem hx; omega) y) h0
    cases a; cases b
    simp only [Th.cs, Th.vs, Th.ps] at e1 e2 e3
    rw [e1, e2, e3]
   ·rw [if_neg h2] at h0; exact absurd h0 h2
  ·rw [if_neg h1] at h0; exact absurd h0 h1
theorem Th.cmp_self : ∀ (m : Nat) (a : Th), a.size ≤ m → Th.cmp a a = 0 := by
 intro m
 induction m with
 | zero => intro a h; have := a.size_pos; omega
 | succ m ih =>
  intro a h
  have hs := a.size_eq
  rw [Th.cmp_eq, if_pos (cmpI_ord.lex.self _), if_pos (vcmp_ord.lex.self _)]
  exact lexL_self a.ps fun x hx => ih x (by have := Th.sizes_mem hx; omega)
theorem Th.cmp_trans : ∀ (m : Nat) (a : Th), a.size ≤ m → ∀ b d, Th.cmp a b ≤ 0 → Th.cmp b d ≤ 0 → Th.cmp a d ≤ 0 := by
 intro m
 induction m with
 | zero => intro a h; have := a.size_pos; omega
 | succ m ih =>
  intro a h b d h1 h2
  have hs := a.size_eq
  rw [Th.cmp_eq] at h1 h2 ⊢
  refine two_trans cmpI_ord.lex (d := fun (x y : Th) => if lexL vcmp x.vs y.vs = 0 then lexL Th.cmp x.ps y.ps else lexL vcmp x.vs y.vs) (b1 := a) (b2 := b) (b3 := d) (fun g1 g2 => ?_) h1 h2
  refine two_trans vcmp_ord.lex (d := fun (x y : Th) => lexL Th.cmp x.ps y.ps) (b1 := a) (b2 := b) (b3 := d) (fun g1 g2 => ?_) g1 g2
  refine lexL_trans _ _ _ (fun x _ y _ => Th.cmp_zero _ x (Nat.le_refl _) y) (fun x _ y _ => Th.cmp_zero _ x (Nat.le_refl _) y) (fun x hx y _ z _ => ih x (by have := Th.sizes_mem hx; omega) y z) (fun x _ z _ e y _ k1 k2 => ?_) g1 g2
  obtain rfl := Th.cmp_zero _ x (Nat.le_refl _) z e
  have := Th.cmp_anti _ x (Nat.le_refl _) y
  omega
theorem Th.ord : IsOrd Th.cmp where
 range a := Th.cmp_range _ a (Nat.le_refl _)
 anti a := Th.cmp_anti _ a (Nat.le_refl _)
 zero a := Th.cmp_zero _ a (Nat.le_refl _)
 self a := Th.cmp_self _ a (Nat.le_refl _)
 trans a := Th.cmp_trans _ a (Nat.le_refl _)
end Go.Proofs.YtgnloodmbgdgdaaGreat
namespace Go.Proofs.YtgnloodmbgdgdaaGreat
open Go.RowKit Go.Shelf
set_option maxHeartbeats 1000000 in
theorem isNaN_c (x : Int) (w : World) :
  Calls Tryz.prog 140 #[.int .i64 x] w fun e w' => e = .returned (.bool false) ∧ w = w' := by
 go_enter Tryz.func140, Tryz.ntmps140
 go_wp2
 go_ret
 exact ⟨by simp, rfl⟩
set_option maxHeartbeats 1000000 in
theorem compare_c (x y : Int) (w : World) :
  Calls Tryz.prog 78 #[.int .i64 x, .int .i64 y] w fun e w' => e = .returned (.int .i64 (if x < y then -1 else if y < x then 1 else 0)) ∧ w = w' := by
 have K1 := Lib.hid (fun x w => isNaN_c x w)
 by_cases h1 : x < y
 ·rw [if_pos h1]
  go_enter Tryz.func78, Tryz.ntmps78
  go_wp2_with fail
  refine (K1.out _ _).mono ?_
  rintro e w' ⟨rfl, rfl⟩
  go_wp2_with fail
  refine (K1.out _ _).mono ?_
  rintro e w' ⟨rfl, rfl⟩
  go_wp2
  go_ret
  exact ⟨rfl, rfl⟩
 ·rw [if_neg h1]
  by_cases h2 : y < x
  ·rw [if_pos h2]
   go_enter Tryz.func78, Tryz.ntmps78
   go_wp2_with fail
   refine (K1.out _ _).mono ?_
   rintro e w' ⟨rfl, rfl⟩
   go_wp2_with fail
   refine (K1.out _ _).mono ?_
   rintro e w' ⟨rfl, rfl⟩
   go_wp2
   go_ret
   exact ⟨rfl, rfl⟩
  ·rw [if_neg h2]
   go_enter Tryz.func78, Tryz.ntmps78
   go_wp2_with fail
   refine (K1.out _ _).mono ?_
   rintro e w' ⟨rfl, rfl⟩
   go_wp2_with fail
   refine (K1.out _ _).mono ?_
   rintro e w' ⟨rfl, rfl⟩
   go_wp2
   go_ret
   exact ⟨rfl, rfl⟩
theorem cmpc_any (x y : Int) (w : World) :
  Calls Tryz.prog 78 #[.int .i64 x, .int .i64 y] w fun e w' => e = .returned (.int .i64 (cmpI x y)) ∧ w = w' :=
 (compare_c x y w).mono fun _ _ hh => hh
end Go.Proofs.YtgnloodmbgdgdaaGreat
namespace Go.Proofs.YtgnloodmbgdgdaaGreat
open Go.RowKit
inductive Fo where
 | mk (op n : Int) (is : List Iv) (ks : List Fo)
def Fo.op : Fo → Int | .mk op _ _ _ => op
def Fo.n : Fo → Int | .mk _ n _ _ => n
def Fo.is : Fo → List Iv | .mk _ _ is _ => is
def Fo.ks : Fo → List Fo | .mk _ _ _ ks => ks
mutual
def Fo.size : Fo → Nat
 | .mk _ _ _ ks => 1 + Fo.sizes ks
def Fo.sizes : List Fo → Nat
 | [] => 0
 | t :: ts => t.size + Fo.sizes ts
end
mutual
def Fo.deep : Fo → Nat
 | .mk _ _ _ ks => Fo.deeps ks + 1
def Fo.deeps : List Fo → Nat
 | [] => 0
 | t :: ts => max t.deep (Fo.deeps ts)
end
theorem Fo.size_pos (t : Fo) : 1 ≤ t.size := by
 cases t
 rw [Fo.size]
 omega
theorem Fo.sizes_append (a b : List Fo) : Fo.sizes (a ++ b) = Fo.sizes a + Fo.sizes b := by
 induction a with
 | nil => simp [Fo.sizes]
 | cons t ts ih => rw [List.cons_append, Fo.sizes, Fo.sizes, ih]; omega
theorem Fo.deeps_append (a b : List Fo) : Fo.deeps (a ++ b) = max (Fo.deeps a) (Fo.deeps b) := by
 induction a with
 | nil => simp [Fo.deeps]
 | cons t ts ih => rw [List.cons_append, Fo.deeps, Fo.deeps, ih]; omega
theorem Fo.sizes_mem {ts : List Fo} {t : Fo} (h : t ∈ ts) : t.size ≤ Fo.sizes ts := by
 induction ts with
 | nil => cases h
 | cons u us ih =>
  rw [Fo.sizes]
  rcases List.mem_cons.1 h with rfl | h
  ·omega
  ·have := ih h; omega
theorem Fo.sizes_take (ts : List Fo) (k : Nat) : Fo.sizes (ts.take k) ≤ Fo.sizes ts := by
 have := Fo.sizes_append (ts.take k) (ts.drop k)
 rw [List.take_append_drop] at this
 omega
theorem Fo.sizes_len (ts : List Fo) : ts.length ≤ Fo.sizes ts := by
 induction ts with
 | nil => simp
 | cons u us ih =>
  rw [Fo.sizes, List.length_cons]
  have := u.size_pos
  omega
theorem Fo.sizes_snoc {ts : List Fo} {k : Nat} {t : Fo} (h : ts[k]? = some t) : Fo.sizes (ts.take (k + 1)) = Fo.sizes (ts.take k) + t.size := by
 rw [List.take_add_one, h, Fo.sizes_append]
 simp [Fo.sizes]
theorem Fo.deeps_snoc {ts : List Fo} {k : Nat} {t : Fo} (h : ts[k]? = some t) : Fo.deeps (ts.take (k + 1)) = max (Fo.deeps (ts.take k)) t.deep := by
 rw [List.take_add_one, h, Fo.deeps_append]
 simp [Fo.deeps]
mutual
def FAt (B : Nat) (w : World) : Fo → Value → Value → Prop
 | .mk _ _ is ks, c, d => (REls RIv w c is ∧ LowEls B c) ∧ ((Emp d ∧ ks = []) ∨ ∃ g cap, g < B ∧ g < w.heap.size ∧ d = .slice (some ⟨g, 0, none⟩) ks.length cap ∧ ks.length ≤ cap ∧ FRow B w ks g 0)
def FRow (B : Nat) (w : World) : List Fo → Nat → Nat → Prop
 | [], _, _ => True
 | t :: ts, g, o => (∃ c d, w.cell? ⟨g, o, none⟩ = some (.int .i64 t.op) ∧ w.cell? ⟨g, o + 1, none⟩ = some (.int .i64 t.n) ∧ w.cell? ⟨g, o + 2, none⟩ = some c ∧ w.cell? ⟨g, o + 3, none⟩ = some d ∧ FAt B w t c d) ∧ FRow B w ts g (o + 4)
end
def Fs (B : Nat) (w : World) (d : Value) (ks : List Fo) : Prop := (Emp d ∧ ks = []) ∨ ∃ g cap, g < B ∧ g < w.heap.size ∧ d = .slice (some ⟨g, 0, none⟩) ks.length cap ∧ ks.length ≤ cap ∧ FRow B w ks g 0
theorem FAt.parts {B : Nat} {w : World} {op n : Int} {is : List Iv} {ks : List Fo} {c d : Value} (h : FAt B w (.mk op n is ks) c d) : (REls RIv w c is ∧ LowEls B c) ∧ Fs B w d ks := h
theorem FAt.of {B : Nat} {w : World} {op n : Int} {is : List Iv} {ks : List Fo} {c d : Value} (h2 : REls RIv w c is) (l2 : LowEls B c) (h3 : Fs B w d ks) : FAt B w (.mk op n is ks) c d := ⟨⟨h2, l2⟩, h3⟩
mutual
theorem FAt.low {B : Nat} {w W : World} (hB : Below B w W) : ∀ (t : Fo) {c d : Value}, FAt B w t c d → FAt B W t c d
 | .mk op n is ks, c, d, h => by
  obtain ⟨⟨h2, l2⟩, h3⟩ := h.parts
  refine FAt.of (h2.low l2 hB) l2 ?_
  rcases h3 with h3 | ⟨g, cap, hg, hgs, e, hl, hp⟩
  ·exact .inl h3
  ·exact .inr ⟨g, cap, hg, Nat.lt_of_lt_of_le hgs hB.size, e, hl, FRow.low hB ks hg hp⟩
theorem FRow.low {B : Nat} {w W : World} (hB : Below B w W) : ∀ (ts : List Fo) {g o : Nat}, g < B → FRow B w ts g o → FRow B W ts g o
 | [], _, _, _, _ => trivial
 | t :: ts, g, o, hg, h => by
  obtain ⟨⟨c, d, h0, h1, h2, h3, h4⟩, h5⟩ := h
  exact ⟨⟨c, d, (hB.cell (p := ⟨g, o, none⟩) hg).trans h0, (hB.cell (p := ⟨g, o + 1, none⟩) hg).trans h1, (hB.cell (p := ⟨g, o + 2, none⟩) hg).trans h2, (hB.cell (p := ⟨g, o + 3, none⟩) hg).trans h3, FAt.low hB t h4⟩, FRow.low hB ts hg h5⟩
end
theorem Fs.low {B : Nat} {w W : World} (hB : Below B w W) {d : Value} {ks : List Fo} (h : Fs B w d ks) : Fs B W d ks := by
 rcases h with h3 | ⟨g, cap, hg, hgs, e, hl, hp⟩
 ·exact .inl h3
 ·exact .inr ⟨g, cap, hg, Nat.lt_of_lt_of_le hgs hB.size, e, hl, FRow.low hB ks hg hp⟩
mutual
theorem FAt.mono {B B' : Nat} {w : World} (hB : B ≤ B') : ∀ (t : Fo) {c d : Value}, FAt B w t c d → FAt B' w t c d
 | .mk op n is ks, c, d, h => by
  obtain ⟨⟨h2, l2⟩, h3⟩ := h.parts
  refine FAt.of h2 (l2.mono hB) ?_
  rcases h3 with h3 | ⟨g, cap, hg, hgs, e, hl, hp⟩
  ·exact .inl h3
  ·exact .inr ⟨g, cap, by omega, hgs, e, hl, FRow.mono hB ks hp⟩
theorem FRow.mono {B B' : Nat} {w : World} (hB : B ≤ B') : ∀ (ts : List Fo) {g o : Nat}, FRow B w ts g o → FRow B' w ts g o
 | [], _, _, _ => trivial
 | t :: ts, g, o, h => by
  obtain ⟨⟨c, d, h0, h1, h2, h3, h4⟩, h5⟩ := h
  exact ⟨⟨c, d, h0, h1, h2, h3, FAt.mono hB t h4⟩, FRow.mono hB ts h5⟩
end
theorem Fs.mono {B B' : Nat} {w : World} (hB : B ≤ B') {d : Value} {ks : List Fo} (h : Fs B w d ks) : Fs B' w d ks := by
 rcases h with h3 | ⟨g, cap, hg, hgs, e, hl, hp⟩
 ·exact .inl h3
 ·exact .inr ⟨g, cap, by omega, hgs, e, hl, FRow.mono hB ks hp⟩
theorem FAt.below {w W : World} (hB : Below w.heap.size w W) {t : Fo} {c d : Value} (h : FAt w.heap.size w t c d) : FAt W.heap.size W t c d := (h.low hB).mono hB.size
theorem Fs.below {w W : World} (hB : Below w.heap.size w W) {d : Value} {ks : List Fo} (h : Fs w.heap.size w d ks) : Fs W.heap.size W d ks := (h.low hB).mono hB.size
theorem FRow.get {B : Nat} {w : World} : ∀ (ts : List Fo) {g o : Nat}, FRow B w ts g o → ∀ j t, ts[j]? = some t → ∃ c d, w.cell? ⟨g, o + j * 4, none⟩ = some (.int .i64 t.op) ∧ w.cell? ⟨g, o + j * 4 + 1, none⟩ = some (.int .i64 t.n) ∧ w.cell? ⟨g, o + j * 4 + 2, none⟩ = some c ∧ w.cell? ⟨g, o + j * 4 + 3, none⟩ = some d ∧ FAt B w t c d
 | [], _, _, _, j, t, hj => by simp at hj
 | u :: us, g, o, h, 0, t, hj => by
  simp at hj
  subst hj
  obtain ⟨⟨c, d, h0, h1, h2, h3, h4⟩, _⟩ := h
  exact ⟨c, d, by simpa using h0, by simpa using h1, by simpa using h2, by simpa using h3, h4⟩
 | u :: us, g, o, h, j + 1, t, hj => by
  rw [List.getElem?_cons_succ] at hj
  have := FRow.get us h.2 j t hj
  rw [show o + 4 + j * 4 = o + (j + 1) * 4 by omega] at this
  exact this
theorem FRow.of_get {B : Nat} {w : World} : ∀ (ts : List Fo) {g o : Nat}, (∀ j t, ts[j]? = some t → ∃ c d, w.cell? ⟨g, o + j * 4, none⟩ = some (.int .i64 t.op) ∧ w.cell? ⟨g, o + j * 4 + 1, none⟩ = some (.int .i64 t.n) ∧ w.cell? ⟨g, o + j * 4 + 2, none⟩ = some c ∧ w.cell? ⟨g, o + j * 4 + 3, none⟩ = some d ∧ FAt B w t c d) → FRow B w ts g o
 | [], _, _, _ => trivial
 | u :: us, g, o, h => by
  refine ⟨?_, FRow.of_get us fun j t hj => ?_⟩
  ·obtain ⟨c, d, h0, h1, h2, h3, h4⟩ := h 0 u rfl
   exact ⟨c, d, by simpa using h0, by simpa using h1, by simpa using h2, by simpa using h3, h4⟩
  ·have := h (j + 1) t (by rw [List.getElem?_cons_succ]; exact hj)
   rw [show o + (j + 1) * 4 = o + 4 + j * 4 by omega] at this
   exact this
theorem Fs.shape {B : Nat} {w : World} {d : Value} {ks : List Fo} (h : Fs B w d ks) : ∃ a cap, d = .slice a ks.length cap := by
 rcases h with ⟨he, rfl⟩ | ⟨g, cap, _, _, he, _⟩
 ·exact he.shape
 ·exact ⟨_, _, he⟩
theorem Fs.len {B : Nat} {w : World} {a : Option Addr} {n cap : Nat} {ks : List Fo} (h : Fs B w (.slice a n cap) ks) : n = ks.length := by
 obtain ⟨a, c, he⟩ := h.shape
 cases he
 rfl
theorem Fs.get {B : Nat} {w : World} {a : Option Addr} {n cap : Nat} {ks : List Fo} (h : Fs B w (.slice a n cap) ks) {j : Nat} (hj : j < n) :
  ∃ g t, a = some ⟨g, 0, none⟩ ∧ g < B ∧ g < w.heap.size ∧ n ≤ cap ∧ ks[j]? = some t ∧ ∃ c d, w.cell? ⟨g, j * 4, none⟩ = some (.int .i64 t.op) ∧ w.cell? ⟨g, j * 4 + 1, none⟩ = some (.int .i64 t.n) ∧ w.cell? ⟨g, j * 4 + 2, none⟩ = some c ∧ w.cell? ⟨g, j * 4 + 3, none⟩ = some d ∧ FAt B w t c d := by
 have hn := h.len
 rcases h with ⟨he, rfl⟩ | ⟨g, cap', hg, hgs, he, hl, hp⟩
 ·simp at hn
  omega
 ·cases he
  obtain ⟨t, ht⟩ : ∃ t, ks[j]? = some t := ⟨ks[j], List.getElem?_eq_getElem (by omega)⟩
  have := FRow.get ks hp j t ht
  rw [Nat.zero_add] at this
  exact ⟨g, t, rfl, hg, hgs, hl, ht, this⟩
theorem FAt.shape {B : Nat} {w : World} {t : Fo} {c d : Value} (h : FAt B w t c d) : ∃ a2 c2 a3 c3, c = .slice a2 t.is.length c2 ∧ d = .slice a3 t.ks.length c3 ∧ REls RIv w c t.is ∧ Fs B w d t.ks ∧ LowEls B c := by
 obtain ⟨op, n, is, ks⟩ := t
 obtain ⟨⟨h2, l2⟩, h3⟩ := h.parts
 obtain ⟨a2, c2, e2⟩ := h2.shape
 obtain ⟨a3, c3, e3⟩ := h3.shape
 exact ⟨a2, c2, a3, c3, e2, e3, h2, h3, l2⟩
theorem Fo.size_eq (t : Fo) : t.size = 1 + Fo.sizes t.ks := by cases t; rfl
theorem Fo.deep_eq (t : Fo) : t.deep = Fo.deeps t.ks + 1 := by cases t; rfl
def Fo.v (t : Fo) (c d : Value) : Value := .agg #[.int .i64 t.op, .int .i64 t.n, c, d]
end Go.Proofs.YtgnloodmbgdgdaaGreat
namespace Go.Proofs.YtgnloodmbgdgdaaGreat
open Go.RowKit Go.Shelf
theorem BoxL.open4 {N : Nat} {a b c d : Value} {W : World} (h : BoxL N [a, b, c, d] W) : W.cell? ⟨N, 0, none⟩ = some a ∧ W.cell? ⟨N, 1, none⟩ = some b ∧ W.cell? ⟨N, 2, none⟩ = some c ∧ W.cell? ⟨N, 3, none⟩ = some d ∧ N < W.heap.size :=
 ⟨(h.2 0 a rfl).1, (h.2 1 b rfl).1, (h.2 2 c rfl).1, (h.2 3 d rfl).1, h.1⟩
theorem FAt.under {w : World} {t : Fo} {c d : Value} (h : FAt w.heap.size w t c d) (o : Obj) : FAt (w.alloc o).heap.size (w.alloc o) t c d := FAt.below ((Below.refl _ _).alloc (Nat.le_refl _) o) h
end Go.Proofs.YtgnloodmbgdgdaaGreat
namespace Go.Proofs.YtgnloodmbgdgdaaGreat
open Go.RowKit Go.Shelf
mutual
def Fo.wf : Fo → Prop
 | .mk _ _ is ks => ((∀ x ∈ is, x.wf) ∧ is.length ≤ 1000000) ∧ Fo.wfs ks
def Fo.wfs : List Fo → Prop
 | [] => True
 | t :: ts => t.wf ∧ Fo.wfs ts
end
theorem Fo.wfs_all {ts : List Fo} : Fo.wfs ts ↔ ∀ t ∈ ts, t.wf := by
 induction ts with
 | nil => simp [Fo.wfs]
 | cons t ts ih => rw [Fo.wfs, ih]; simp
theorem Fo.wf_eq (f : Fo) : f.wf ↔ ((∀ x ∈ f.is, x.wf) ∧ f.is.length ≤ 1000000) ∧ ∀ u ∈ f.ks, u.wf := by
 cases f
 rw [Fo.wf, Fo.wfs_all]
 rfl
structure Nd where
 lev : Nat
 f : Fo
 c : Value
 d : Value
def Nd.encs (x : Nd) : Array Value := #[.int .i64 x.lev, x.f.v x.c x.d]
def rowB : Value → Nat
 | .slice (some a) _ _ => a.block
 | _ => 0
mutual
def ndT (w : World) : Fo → Value → Value → Nat → List Nd
 | .mk op n is ks, c, d, lev => ⟨lev, .mk op n is ks, c, d⟩ :: ndR w ks (rowB d) 0 (lev + 1)
def ndR (w : World) : List Fo → Nat → Nat → Nat → List Nd
 | [], _, _, _ => []
 | t :: ts, g, o, lev => ndT w t ((w.cell? ⟨g, o + 2, none⟩).getD (.bool false)) ((w.cell? ⟨g, o + 3, none⟩).getD (.bool false)) lev ++ ndR w ts g (o + 4) lev
end
theorem ndT_eq (w : World) (f : Fo) (c d : Value) (lev : Nat) : ndT w f c d lev = ⟨lev, f, c, d⟩ :: ndR w f.ks (rowB d) 0 (lev + 1) := by cases f; rw [ndT]; rfl
theorem ndR_append (w : World) (lev g : Nat) (b : List Fo) : ∀ (a : List Fo) (o : Nat), ndR w (a ++ b) g o lev = ndR w a g o lev ++ ndR w b g (o + a.length * 4) lev
 | [], o => by rw [ndR]; simp
 | t :: ts, o => by
  rw [List.cons_append, ndR, ndR, ndR_append w lev g b ts (o + 4), List.append_assoc, List.length_cons, show o + 4 + ts.length * 4 = o + (ts.length + 1) * 4 by omega]
theorem ndR_snoc {w : World} {lev g k : Nat} {ks : List Fo} {t : Fo} {c d : Value} (h : ks[k]? = some t) (hc : w.cell? ⟨g, k * 4 + 2, none⟩ = some c) (hd : w.cell? ⟨g, k * 4 + 3, none⟩ = some d) :
  ndR w (ks.take (k + 1)) g 0 lev = ndR w (ks.take k) g 0 lev ++ ndT w t c d lev := by
 have hk := (List.getElem?_eq_some_iff.1 h).1
 rw [List.take_add_one, h, ndR_append, List.length_take, Nat.min_eq_left (by omega), Nat.zero_add]
 show _ ++ ndR w [t] g (k * 4) lev = _
 rw [ndR, ndR, hc, hd, List.append_nil]
 rfl
mutual
theorem ndT_len (w : World) : ∀ (f : Fo) (c d : Value) (lev : Nat), (ndT w f c d lev).length = f.size
 | .mk op n is ks, c, d, lev => by
  rw [ndT, List.length_cons, ndR_len w ks, Fo.size]
  omega
theorem ndR_len (w : World) : ∀ (ks : List Fo) (g o lev : Nat), (ndR w ks g o lev).length = Fo.sizes ks
 | [], _, _, _ => by rw [ndR, Fo.sizes]; rfl
 | t :: ts, g, o, lev => by rw [ndR, List.length_append, ndT_len w t, ndR_len w ts, Fo.sizes]
end
def KC (n₀ n₁ : Nat) (W W' : World) : Prop := W.heap.size ≤ W'.heap.size ∧ ∀ k, (k < n₀ ∨ n₁ ≤ k) → ∀ o : Obj, W.heap[k]? = some o → o.isCells = true → W'.heap[k]? = some o
theorem KC.refl (n₀ n₁ : Nat) (W : World) : KC n₀ n₁ W W := ⟨Nat.le_refl _, fun _ _ _ h _ => h⟩
theorem KC.trans {n₀ n₁ : Nat} {A B C : World} (h : KC n₀ n₁ A B) (k : KC n₀ n₁ B C) : KC n₀ n₁ A C := ⟨Nat.le_trans h.1 k.1, fun j hj o ho hc => k.2 j hj o (h.2 j hj o ho hc) hc⟩
theorem KC.alloc {n₀ n₁ : Nat} {A W : World} (h : KC n₀ n₁ A W) (o : Obj) : KC n₀ n₁ A (W.alloc o) := h.trans ⟨by simp, fun k _ o' ho _ => (Below.heap_alloc _ _ _ (Array.getElem?_eq_some_iff.1 ho).1).trans ho⟩
theorem KC.put {n₀ n₁ : Nat} (W : World) (l : Nat) (o o' : Obj) (h : W.heap[l]? = some o) (hc : o.isCells = false) : KC n₀ n₁ W (W.putObj l o') := by
 have hg := grownBy_putObj' W l o'
 refine ⟨by simp [World.putObj], fun k _ o2 ho h2 => ?_⟩
 have hne : k ≠ l := fun e => by
  subst e
  rw [h] at ho
  injection ho with ho
  rw [ho] at hc
  rw [hc] at h2
  cases h2
 exact (World.putObj_heap_other (by omega)).trans ho
theorem KC.cell {n₀ n₁ : Nat} {A B : World} (h : KC n₀ n₁ A B) {p : Addr} {v : Value} (hp : p.block < n₀ ∨ n₁ ≤ p.block) (hv : A.cell? p = some v) : B.cell? p = some v := by
 unfold World.cell? at hv ⊢
 cases ho : A.heap[p.block]? with
 | none => rw [ho] at hv; cases hv
 | some o =>
  rw [ho] at hv
  rw [h.2 p.block hp o ho (by cases o <;> first | rfl | (simp at hv))]
  exact hv
def VisOut (J Jx : List Nd → World → Prop) (n₀ n₁ : Nat) (pre l : List Nd) (W : World) (e : Ending) (W' : World) : Prop :=
 (e = .returned (.bool true) ∧ Hid (J (pre ++ l) W') ∧ Hid (KC n₀ n₁ W W')) ∨ (e = .returned (.bool false) ∧ ∃ q, Hid (q <+: l) ∧ Hid (Jx (pre ++ q) W'))
end Go.Proofs.YtgnloodmbgdgdaaGreat
