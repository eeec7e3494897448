import Derived.Test.YtelhpndlejommaaGreatZc
/- The normal form of things: mathematics. -/
namespace Go.Proofs.YtelhpndlejommaaGreat
open Go.RowKit Go.Shelf

theorem or_turn {a b c : Prop} : (a ∨ b ∨ c) ↔ ((b ∨ a) ∨ c) := ⟨fun h => h.elim (fun h => .inl (.inr h)) (fun h => h.elim (fun h => .inl (.inl h)) .inr), fun h => h.elim (fun h => h.elim (fun h => .inr (.inl h)) .inl) (fun h => .inr (.inr h))⟩

/-- Lists in strict order with the same members are equal. -/
theorem strict_unique {α : Type} {r : α → α → Prop} (hi : ∀ a, ¬ r a a) (ht : ∀ a b d, r a b → r b d → r a d) : ∀ l m : List α, l.Pairwise r → m.Pairwise r → (∀ x, x ∈ l ↔ x ∈ m) → l = m
  | [], [], _, _, _ => rfl
  | [], y :: m, _, _, h => by have := (h y).2 (List.mem_cons_self ..); cases this
  | x :: l, [], _, _, h => by have := (h x).1 (List.mem_cons_self ..); cases this
  | x :: l, y :: m, hl, hm, h => by
    rw [List.pairwise_cons] at hl hm
    have hxy : x = y := by
      rcases List.mem_cons.1 ((h x).1 (List.mem_cons_self ..)) with e | e
      · exact e
      · rcases List.mem_cons.1 ((h y).2 (List.mem_cons_self ..)) with e2 | e2
        · exact e2.symm
        · exact absurd (ht _ _ _ (hl.1 y e2) (hm.1 x e)) (hi x)
    subst hxy
    rw [strict_unique hi ht l m hl.2 hm.2 fun z => ⟨fun hz => by
      rcases List.mem_cons.1 ((h z).1 (List.mem_cons_of_mem _ hz)) with e | e
      · subst e; exact absurd (hl.1 z hz) (hi z)
      · exact e, fun hz => by
      rcases List.mem_cons.1 ((h z).2 (List.mem_cons_of_mem _ hz)) with e | e
      · subst e; exact absurd (hm.1 z hz) (hi z)
      · exact e⟩]

/-- Ordered lists of the same elements are equal. -/
theorem perm_unique {α : Type} {r : α → α → Prop} (ha : ∀ a b, r a b → r b a → a = b) : ∀ l m : List α, l.Pairwise r → m.Pairwise r → l.Perm m → l = m
  | [], m, _, _, h => by rw [List.nil_perm.1 h]
  | x :: l, [], _, _, h => by have := h.length_eq; simp at this
  | x :: l, y :: m, hl, hm, h => by
    rw [List.pairwise_cons] at hl hm
    have hxy : x = y := by
      rcases List.mem_cons.1 (h.mem_iff.1 (List.mem_cons_self ..)) with e | e
      · exact e
      · rcases List.mem_cons.1 (h.mem_iff.2 (List.mem_cons_self ..)) with e2 | e2
        · exact e2.symm
        · exact ha _ _ (hl.1 y e2) (hm.1 x e)
    subst hxy
    rw [perm_unique ha l m hl.2 hm.2 (List.perm_cons x |>.1 h)]

/-- A class put into an increasing list. -/
def putL (n : Int) : List Int → List Int
  | [] => [n]
  | x :: l => if x < n then x :: putL n l else if x = n then x :: l else n :: x :: l

theorem putL_mem (n : Int) : ∀ (l : List Int) (x : Int), x ∈ putL n l ↔ x = n ∨ x ∈ l
  | [], x => by simp [putL]
  | y :: l, x => by
    rw [putL]
    split
    · rw [List.mem_cons, putL_mem n l x, List.mem_cons]
      constructor <;> intro h <;> rcases h with h | h | h <;> simp [h]
    · split
      · next h => subst h; simp
      · simp

theorem putL_asc (n : Int) : ∀ l : List Int, l.Pairwise (· < ·) → (putL n l).Pairwise (· < ·)
  | [], _ => by simp [putL]
  | y :: l, h => by
    rw [putL]
    have h2 := List.pairwise_cons.1 h
    split
    · next hy =>
      refine List.pairwise_cons.2 ⟨fun z hz => ?_, putL_asc n l h2.2⟩
      rcases (putL_mem n l z).1 hz with e | e
      · omega
      · exact h2.1 z e
    · split
      · exact h
      · next h3 h4 =>
        refine List.pairwise_cons.2 ⟨fun z hz => ?_, h⟩
        rcases List.mem_cons.1 hz with e | e
        · omega
        · have := h2.1 z e; omega

/-- Where a class goes. -/
theorem putL_at (n : Int) : ∀ (k : Nat) (l : List Int), (∀ j x, j < k → l[j]? = some x → x < n) → k ≤ l.length → (∀ x, l[k]? = some x → n < x) → putL n l = l.take k ++ n :: l.drop k
  | 0, [], _, _, _ => rfl
  | 0, y :: l, _, _, h => by
    have := h y rfl
    rw [putL, if_neg (by omega), if_neg (by omega)]; rfl
  | k + 1, [], _, hk, _ => by simp at hk
  | k + 1, y :: l, h1, hk, h2 => by
    have := h1 0 y (by omega) rfl
    rw [putL, if_pos this, putL_at n k l (fun j x hj hx => h1 (j + 1) x (by omega) (by simpa using hx)) (by simpa using hk) (fun x hx => h2 x (by simpa using hx))]
    rfl
theorem putL_there (n : Int) : ∀ (k : Nat) (l : List Int), (∀ j x, j < k → l[j]? = some x → x < n) → l[k]? = some n → putL n l = l
  | 0, [], _, h => by cases h
  | 0, y :: l, _, h => by
    have : y = n := by simpa using h
    rw [putL, if_neg (by omega), if_pos this]
  | k + 1, [], _, h => by cases h
  | k + 1, y :: l, h1, h => by
    have := h1 0 y (by omega) rfl
    rw [putL, if_pos this, putL_there n k l (fun j x hj hx => h1 (j + 1) x (by omega) (by simpa using hx)) (by simpa using h)]

/-- The classes of the normal form. -/
def ascI (cs : List Int) : List Int := cs.foldl (fun a n => putL n a) []

theorem ascI_acc : ∀ (cs a : List Int), a.Pairwise (· < ·) → (cs.foldl (fun a n => putL n a) a).Pairwise (· < ·) ∧ ∀ x, x ∈ cs.foldl (fun a n => putL n a) a ↔ x ∈ cs ∨ x ∈ a
  | [], a, h => ⟨h, fun x => by simp⟩
  | n :: cs, a, h => by
    obtain ⟨h1, h2⟩ := ascI_acc cs (putL n a) (putL_asc n a h)
    refine ⟨h1, fun x => ?_⟩
    rw [List.foldl_cons, h2 x, putL_mem, List.mem_cons]
    exact or_turn

theorem ascI_asc (cs : List Int) : (ascI cs).Pairwise (· < ·) := (ascI_acc cs [] List.Pairwise.nil).1
theorem ascI_mem (cs : List Int) (x : Int) : x ∈ ascI cs ↔ x ∈ cs := by
  have := (ascI_acc cs [] List.Pairwise.nil).2 x
  unfold ascI
  rw [this]
  simp

/-- Any increasing list of these members is that one. -/
theorem ascI_one {cs l : List Int} (h : l.Pairwise (· < ·)) (hm : ∀ x, x ∈ l ↔ x ∈ cs) : l = ascI cs :=
  strict_unique (fun a => by omega) (fun a b d h1 h2 => by omega) _ _ h (ascI_asc cs) fun x => (hm x).trans (ascI_mem cs x).symm

/-- A value put into a list that increases by attributes; none: there is another one of the attribute. -/
def valL (v : Va) : List Va → Option (List Va)
  | [] => some [v]
  | x :: l => if x.t < v.t then (valL v l).map (x :: ·) else if x.t = v.t then (if x = v then some (x :: l) else none) else some (v :: x :: l)

theorem valL_mem (v : Va) : ∀ (l a : List Va), valL v l = some a → ∀ x, x ∈ a ↔ x = v ∨ x ∈ l
  | [], a, h, x => by rw [valL] at h; cases h; simp
  | y :: l, a, h, x => by
    rw [valL] at h
    split at h
    · obtain ⟨b, hb, rfl⟩ := Option.map_eq_some_iff.1 h
      rw [List.mem_cons, valL_mem v l b hb x, List.mem_cons]
      exact or_left_comm
    · split at h
      · split at h
        · next h3 => cases h; subst h3; simp
        · cases h
      · cases h; simp

theorem valL_asc (v : Va) : ∀ (l a : List Va), l.Pairwise (·.t < ·.t) → valL v l = some a → a.Pairwise (·.t < ·.t)
  | [], a, _, h => by rw [valL] at h; cases h; simp
  | y :: l, a, hp, h => by
    rw [valL] at h
    have h2 := List.pairwise_cons.1 hp
    split at h
    · next hy =>
      obtain ⟨b, hb, rfl⟩ := Option.map_eq_some_iff.1 h
      refine List.pairwise_cons.2 ⟨fun z hz => ?_, valL_asc v l b h2.2 hb⟩
      rcases (valL_mem v l b hb z).1 hz with e | e
      · rw [e]; exact hy
      · exact h2.1 z e
    · split at h
      · split at h
        · cases h; exact hp
        · cases h
      · next h3 h4 =>
        cases h
        refine List.pairwise_cons.2 ⟨fun z hz => ?_, hp⟩
        rcases List.mem_cons.1 hz with e | e
        · rw [e]; omega
        · have := h2.1 z e; omega

theorem valL_none (v : Va) : ∀ l : List Va, valL v l = none → ∃ x ∈ l, x.t = v.t ∧ x ≠ v
  | [], h => by rw [valL] at h; cases h
  | y :: l, h => by
    rw [valL] at h
    split at h
    · obtain ⟨x, h1, h2⟩ := valL_none v l (Option.map_eq_none_iff.1 h)
      exact ⟨x, List.mem_cons_of_mem _ h1, h2⟩
    · split at h
      · next h3 =>
        split at h
        · cases h
        · next h4 => exact ⟨y, List.mem_cons_self .., h3, h4⟩
      · cases h

/-- The values of the normal form. -/
def valsL : List Va → List Va → Option (List Va)
  | [], a => some a
  | v :: vs, a => (valL v a).bind (valsL vs)

theorem valsL_some : ∀ (vs a l : List Va), a.Pairwise (·.t < ·.t) → valsL vs a = some l → l.Pairwise (·.t < ·.t) ∧ ∀ x, x ∈ l ↔ x ∈ vs ∨ x ∈ a
  | [], a, l, h, e => by rw [valsL] at e; cases e; exact ⟨h, fun x => by simp⟩
  | v :: vs, a, l, h, e => by
    rw [valsL] at e
    obtain ⟨b, hb, he⟩ := Option.bind_eq_some_iff.1 e
    obtain ⟨h1, h2⟩ := valsL_some vs b l (valL_asc v a b h hb) he
    refine ⟨h1, fun x => ?_⟩
    rw [h2 x, valL_mem v a b hb x, List.mem_cons]
    exact or_turn

theorem valsL_none : ∀ (vs a : List Va), valsL vs a = none → ∃ x y, (x ∈ vs ∨ x ∈ a) ∧ (y ∈ vs ∨ y ∈ a) ∧ x.t = y.t ∧ x ≠ y
  | [], a, e => by rw [valsL] at e; cases e
  | v :: vs, a, e => by
    rw [valsL] at e
    cases hb : valL v a with
    | none =>
      obtain ⟨x, h1, h2, h3⟩ := valL_none v a hb
      exact ⟨x, v, .inr h1, .inl (List.mem_cons_self ..), h2, h3⟩
    | some b =>
      rw [hb] at e
      obtain ⟨x, y, hx, hy, h⟩ := valsL_none vs b e
      have key : ∀ z, (z ∈ vs ∨ z ∈ b) → z ∈ v :: vs ∨ z ∈ a := fun z hz => by
        rcases hz with hz | hz
        · exact .inl (List.mem_cons_of_mem _ hz)
        · rcases (valL_mem v a b hb z).1 hz with e | e
          · rw [e]; exact .inl (List.mem_cons_self ..)
          · exact .inr e
      exact ⟨x, y, key x hx, key y hy, h⟩

theorem attr_one : ∀ (l : List Va), l.Pairwise (·.t < ·.t) → ∀ x y, x ∈ l → y ∈ l → x.t = y.t → x = y
  | [], _, _, _, hx, _, _ => by cases hx
  | z :: l, h, x, y, hx, hy, e => by
    have h2 := List.pairwise_cons.1 h
    rcases List.mem_cons.1 hx with h3 | h3 <;> rcases List.mem_cons.1 hy with h4 | h4
    · rw [h3, h4]
    · have := h2.1 y h4; rw [h3] at e; omega
    · have := h2.1 x h3; rw [h4] at e; omega
    · exact attr_one l h2.2 x y h3 h4 e

theorem vcmp_lt {x y : Va} (h : vcmp x y < 0) : x.t ≤ y.t := by
  unfold vcmp at h
  simp only [Va.nums, lexL] at h
  by_cases h0 : cmpI x.t y.t = 0
  · have := cmpI_zero.1 h0; omega
  · rw [if_neg h0] at h
    unfold cmpI at h
    split at h
    · omega
    · split at h <;> omega

/-- A list of these values that is ordered strictly is that of the normal form if no two neighbours have an attribute in common. -/
theorem valsL_one {vs m : List Va} (h : m.Pairwise fun x y => vcmp x y < 0) (hm : ∀ x, x ∈ m ↔ x ∈ vs) (ha : ∀ i x y, m[i]? = some x → m[i + 1]? = some y → x.t ≠ y.t) : valsL vs [] = some m := by
  have hasc : ∀ m : List Va, (m.Pairwise fun x y => vcmp x y < 0) → (∀ i x y, m[i]? = some x → m[i + 1]? = some y → x.t ≠ y.t) → m.Pairwise (·.t < ·.t) := by
    intro m
    induction m with
    | nil => intro _ _; exact List.Pairwise.nil
    | cons x l ih =>
      intro h ha
      have h2 := List.pairwise_cons.1 h
      have ih2 := ih h2.2 fun i a b h1 h2 => ha (i + 1) a b (by simpa using h1) (by simpa using h2)
      refine List.pairwise_cons.2 ⟨?_, ih2⟩
      cases l with
      | nil => intro z hz; cases hz
      | cons y l =>
        have h3 := vcmp_lt (h2.1 y (List.mem_cons_self ..))
        have h4 := ha 0 x y rfl rfl
        intro z hz
        rcases List.mem_cons.1 hz with e | e
        · rw [e]; omega
        · have := (List.pairwise_cons.1 ih2).1 z e; omega
  have hA := hasc m h ha
  cases hv : valsL vs [] with
  | none =>
    obtain ⟨x, y, hx, hy, e, hn⟩ := valsL_none vs [] hv
    have hx2 := (hm x).2 (by simpa using hx)
    have hy2 := (hm y).2 (by simpa using hy)
    exact absurd (attr_one m hA x y hx2 hy2 e) hn
  | some l =>
    obtain ⟨h1, h2⟩ := valsL_some vs [] l List.Pairwise.nil hv
    rw [strict_unique (r := fun x y : Va => x.t < y.t) (fun a => by omega) (fun a b d h1 h2 => by omega) l m h1 hA fun x => by rw [h2 x, hm x]; simp]

/-- And there is none if two neighbours have. -/
theorem valsL_no {vs m : List Va} (h : m.Pairwise fun x y => vcmp x y < 0) (hm : ∀ x, x ∈ m ↔ x ∈ vs) {i : Nat} {x y : Va} (hx : m[i]? = some x) (hy : m[i + 1]? = some y) (he : x.t = y.t) : valsL vs [] = none := by
  cases hv : valsL vs [] with
  | none => rfl
  | some l =>
    obtain ⟨h1, h2⟩ := valsL_some vs [] l List.Pairwise.nil hv
    have hx2 : x ∈ l := (h2 x).2 (.inl ((hm x).1 (List.mem_of_getElem? hx)))
    have hy2 : y ∈ l := (h2 y).2 (.inl ((hm y).1 (List.mem_of_getElem? hy)))
    have e := attr_one l h1 x y hx2 hy2 he
    obtain ⟨hi, rfl⟩ := List.getElem?_eq_some_iff.1 hx
    obtain ⟨hj, rfl⟩ := List.getElem?_eq_some_iff.1 hy
    have hlt := List.pairwise_iff_getElem.1 h i (i + 1) hi hj (by omega)
    rw [← e, vcmp_ord.self] at hlt
    omega

/-- A part put behind all that are not greater. -/
def partL (p : Th) : List Th → List Th
  | [] => [p]
  | x :: l => if Th.cmp x p ≤ 0 then x :: partL p l else p :: x :: l

theorem partL_perm (p : Th) : ∀ l : List Th, (partL p l).Perm (p :: l)
  | [] => List.Perm.refl _
  | x :: l => by
    rw [partL]
    split
    · exact ((partL_perm p l).cons x).trans (List.Perm.swap p x l)
    · exact List.Perm.refl _

theorem partL_asc (p : Th) : ∀ l : List Th, (l.Pairwise fun x y => Th.cmp x y ≤ 0) → (partL p l).Pairwise fun x y => Th.cmp x y ≤ 0
  | [], _ => by simp [partL]
  | x :: l, h => by
    have h2 := List.pairwise_cons.1 h
    rw [partL]
    split
    · next hx =>
      refine List.pairwise_cons.2 ⟨fun z hz => ?_, partL_asc p l h2.2⟩
      rcases List.mem_cons.1 ((partL_perm p l).mem_iff.1 hz) with e | e
      · rw [e]; exact hx
      · exact h2.1 z e
    · next hx =>
      have hpx : Th.cmp p x ≤ 0 := by have := Th.ord.anti x p; omega
      refine List.pairwise_cons.2 ⟨fun z hz => ?_, h⟩
      rcases List.mem_cons.1 hz with e | e
      · rw [e]; exact hpx
      · exact Th.ord.trans _ _ _ hpx (h2.1 z e)

/-- Where a part goes. -/
theorem partL_at (p : Th) : ∀ (k : Nat) (l : List Th), (∀ j x, j < k → l[j]? = some x → Th.cmp x p ≤ 0) → k ≤ l.length → (∀ x, l[k]? = some x → ¬ Th.cmp x p ≤ 0) → partL p l = l.take k ++ p :: l.drop k
  | 0, [], _, _, _ => rfl
  | 0, y :: l, _, _, h => by rw [partL, if_neg (h y rfl)]; rfl
  | k + 1, [], _, hk, _ => by simp at hk
  | k + 1, y :: l, h1, hk, h2 => by
    rw [partL, if_pos (h1 0 y (by omega) rfl), partL_at p k l (fun j x hj hx => h1 (j + 1) x (by omega) (by simpa using hx)) (by simpa using hk) (fun x hx => h2 x (by simpa using hx))]
    rfl

def partsL (qs : List Th) : List Th := qs.foldl (fun a q => partL q a) []

theorem partsL_acc : ∀ (qs a : List Th), (a.Pairwise fun x y => Th.cmp x y ≤ 0) → ((qs.foldl (fun a q => partL q a) a).Pairwise fun x y => Th.cmp x y ≤ 0) ∧ (qs.foldl (fun a q => partL q a) a).Perm (qs ++ a)
  | [], a, h => ⟨h, List.Perm.refl _⟩
  | q :: qs, a, h => by
    obtain ⟨h1, h2⟩ := partsL_acc qs (partL q a) (partL_asc q a h)
    refine ⟨h1, h2.trans ?_⟩
    exact ((partL_perm q a).append_left qs).trans List.perm_middle

/-- Any ordered list of these parts is that one. -/
theorem partsL_one {qs m : List Th} (h : m.Pairwise fun x y => Th.cmp x y ≤ 0) (hp : m.Perm qs) : m = partsL qs := by
  obtain ⟨h1, h2⟩ := partsL_acc qs [] List.Pairwise.nil
  rw [List.append_nil] at h2
  exact perm_unique (r := fun x y => Th.cmp x y ≤ 0) (fun a b h1 h2 => Th.ord.zero a b (by have := Th.ord.anti a b; omega)) _ _ h h1 (hp.trans h2.symm)

mutual
/-- The normal form. -/
def Th.norm : Th → Option Th
  | .mk cs vs ps => (valsL vs []).bind fun vl => (Th.norms ps).map fun ql => .mk (ascI cs) vl (partsL ql)
def Th.norms : List Th → Option (List Th)
  | [] => some []
  | p :: ps => (Th.norm p).bind fun q => (Th.norms ps).map (q :: ·)
end

end Go.Proofs.YtelhpndlejommaaGreat

/- The normal form of things: it is its own, of the same size, and no longer. -/
namespace Go.Proofs.YtelhpndlejommaaGreat
open Go.RowKit Go.Shelf

/-- The values' part depends on the members alone. -/
theorem valsL_congr {vs us : List Va} (h : ∀ x, x ∈ vs ↔ x ∈ us) : valsL vs [] = valsL us [] := by
  have one : ∀ {vs us : List Va}, (∀ x, x ∈ vs ↔ x ∈ us) → ∀ {l}, valsL vs [] = some l → valsL us [] = some l := by
    intro vs us h l hv
    obtain ⟨h1, h2⟩ := valsL_some vs [] l List.Pairwise.nil hv
    cases hu : valsL us [] with
    | none =>
      obtain ⟨x, y, hx, hy, e, hn⟩ := valsL_none us [] hu
      have hx2 := (h2 x).2 (.inl ((h x).2 (by simpa using hx)))
      have hy2 := (h2 y).2 (.inl ((h y).2 (by simpa using hy)))
      exact absurd (attr_one l h1 x y hx2 hy2 e) hn
    | some m =>
      obtain ⟨h3, h4⟩ := valsL_some us [] m List.Pairwise.nil hu
      rw [strict_unique (r := fun x y : Va => x.t < y.t) (fun a => by omega) (fun a b d h1 h2 => by omega) m l h3 h1 fun x => by rw [h2 x, h4 x, h x]]
  cases hv : valsL vs [] with
  | some l => rw [one h hv]
  | none =>
    cases hu : valsL us [] with
    | none => rfl
    | some m => rw [one (fun x => (h x).symm) hu] at hv; cases hv

theorem valsL_self {l : List Va} (h : l.Pairwise (·.t < ·.t)) : valsL l [] = some l := by
  cases hv : valsL l [] with
  | none =>
    obtain ⟨x, y, hx, hy, e, hn⟩ := valsL_none l [] hv
    exact absurd (attr_one l h x y (by simpa using hx) (by simpa using hy) e) hn
  | some m =>
    obtain ⟨h3, h4⟩ := valsL_some l [] m List.Pairwise.nil hv
    rw [strict_unique (r := fun x y : Va => x.t < y.t) (fun a => by omega) (fun a b d h1 h2 => by omega) m l h3 h fun x => by rw [h4 x]; simp]

theorem ascI_congr {cs ds : List Int} (h : ∀ x, x ∈ cs ↔ x ∈ ds) : ascI cs = ascI ds := ascI_one (ascI_asc cs) fun x => (ascI_mem cs x).trans (h x)
theorem ascI_self {l : List Int} (h : l.Pairwise (· < ·)) : ascI l = l := (ascI_one h fun _ => Iff.rfl).symm
theorem partsL_asc (qs : List Th) : (partsL qs).Pairwise fun x y => Th.cmp x y ≤ 0 := (partsL_acc qs [] List.Pairwise.nil).1
theorem partsL_perm (qs : List Th) : (partsL qs).Perm qs := by have := (partsL_acc qs [] List.Pairwise.nil).2; rwa [List.append_nil] at this
theorem partsL_self {l : List Th} (h : l.Pairwise fun x y => Th.cmp x y ≤ 0) : partsL l = l := (partsL_one h (List.Perm.refl _)).symm
theorem partsL_congr {a b : List Th} (h : a.Perm b) : partsL a = partsL b := partsL_one (partsL_asc a) ((partsL_perm a).trans h)

theorem putL_len (n : Int) : ∀ l, (putL n l).length ≤ l.length + 1
  | [] => by simp [putL]
  | x :: l => by
    have := putL_len n l
    rw [putL]
    split
    · simp only [List.length_cons]; omega
    · split <;> simp

theorem ascI_len (cs : List Int) : (ascI cs).length ≤ cs.length := by
  have : ∀ (cs a : List Int), (cs.foldl (fun a n => putL n a) a).length ≤ cs.length + a.length := by
    intro cs
    induction cs with
    | nil => intro a; simp
    | cons n cs ih =>
      intro a
      have h1 := ih (putL n a)
      have h2 := putL_len n a
      rw [List.foldl_cons, List.length_cons]
      omega
  have := this cs []
  simpa [ascI] using this

theorem valL_len (v : Va) : ∀ l a, valL v l = some a → a.length ≤ l.length + 1
  | [], a, h => by rw [valL] at h; cases h; simp
  | x :: l, a, h => by
    rw [valL] at h
    split at h
    · obtain ⟨b, hb, rfl⟩ := Option.map_eq_some_iff.1 h
      have := valL_len v l b hb
      simp only [List.length_cons]
      omega
    · split at h
      · split at h
        · cases h; simp
        · cases h
      · cases h; simp

theorem valsL_len : ∀ (vs a l : List Va), valsL vs a = some l → l.length ≤ vs.length + a.length
  | [], a, l, h => by rw [valsL] at h; cases h; simp
  | v :: vs, a, l, h => by
    rw [valsL] at h
    obtain ⟨b, hb, he⟩ := Option.bind_eq_some_iff.1 h
    have h1 := valsL_len vs b l he
    have h2 := valL_len v a b hb
    rw [List.length_cons]
    omega

theorem Th.sizes_perm {a b : List Th} (h : a.Perm b) : Th.sizes a = Th.sizes b := by
  induction h with
  | nil => rfl
  | cons x _ ih => rw [Th.sizes, Th.sizes, ih]
  | swap x y l => simp only [Th.sizes]; omega
  | trans _ _ h1 h2 => rw [h1, h2]

theorem Th.wts_perm {a b : List Th} (h : a.Perm b) : Th.wts a = Th.wts b := by
  induction h with
  | nil => rfl
  | cons x _ ih => rw [Th.wts, Th.wts, ih]
  | swap x y l => simp only [Th.wts]; omega
  | trans _ _ h1 h2 => rw [h1, h2]

mutual
theorem Th.norm_facts : ∀ (t u : Th), t.norm = some u → u.size = t.size ∧ u.wt ≤ t.wt ∧ (t.wf → u.wf) ∧ u.norm = some u
  | .mk cs vs ps, u, h => by
    rw [Th.norm] at h
    obtain ⟨vl, hv, h⟩ := Option.bind_eq_some_iff.1 h
    obtain ⟨ql, hq, rfl⟩ := Option.map_eq_some_iff.1 h
    obtain ⟨h1, h2, h3, h4⟩ := Th.norms_facts ps ql hq
    obtain ⟨v1, v2⟩ := valsL_some vs [] vl List.Pairwise.nil hv
    have v3 := valsL_len vs [] vl hv
    have c3 := ascI_len cs
    rw [List.length_nil] at v3
    refine ⟨?_, ?_, fun hw => ?_, ?_⟩
    · rw [Th.size, Th.size, Th.sizes_perm (partsL_perm ql), h1]
    · rw [Th.wt, Th.wt, Th.wts_perm (partsL_perm ql)]; omega
    · obtain ⟨⟨⟨w1, w2⟩, w3, w4⟩, w5⟩ := (Th.wf_eq _).1 hw
      refine (Th.wf_eq _).2 ⟨⟨⟨fun z hz => w1 z ((ascI_mem cs z).1 hz), Nat.le_trans c3 w2⟩, fun v hv2 => w3 v (((v2 v).1 hv2).elim (fun h => h) (fun h => by cases h)), Nat.le_trans v3 w4⟩, fun q hq2 => ?_⟩
      exact h3 w5 q ((partsL_perm ql).mem_iff.1 hq2)
    · have hn : ∀ l : List Th, (∀ q ∈ l, q.norm = some q) → Th.norms l = some l := by
        intro l
        induction l with
        | nil => intro _; rfl
        | cons x l ih =>
          intro hl
          rw [Th.norms, hl x (List.mem_cons_self ..), ih fun q hq => hl q (List.mem_cons_of_mem _ hq)]
          rfl
      rw [Th.norm, valsL_self v1, hn (partsL ql) fun q hq2 => h4 q ((partsL_perm ql).mem_iff.1 hq2), ascI_self (ascI_asc cs)]
      show some (Th.mk (ascI cs) vl (partsL (partsL ql))) = _
      rw [partsL_self (partsL_asc ql)]
theorem Th.norms_facts : ∀ (ts us : List Th), Th.norms ts = some us → Th.sizes us = Th.sizes ts ∧ Th.wts us ≤ Th.wts ts ∧ ((∀ t ∈ ts, t.wf) → ∀ u ∈ us, u.wf) ∧ (∀ u ∈ us, u.norm = some u)
  | [], us, h => by rw [Th.norms] at h; cases h; exact ⟨rfl, Nat.le_refl _, (fun _ u hu => by cases hu), (fun u hu => by cases hu)⟩
  | t :: ts, us, h => by
    rw [Th.norms] at h
    obtain ⟨q, hq, h⟩ := Option.bind_eq_some_iff.1 h
    obtain ⟨ql, hl, rfl⟩ := Option.map_eq_some_iff.1 h
    obtain ⟨h1, h2, h3, h4⟩ := Th.norm_facts t q hq
    obtain ⟨k1, k2, k3, k4⟩ := Th.norms_facts ts ql hl
    refine ⟨?_, ?_, fun hw u hu => ?_, fun u hu => ?_⟩
    · rw [Th.sizes, Th.sizes, h1, k1]
    · rw [Th.wts, Th.wts]; omega
    · rcases List.mem_cons.1 hu with e | e
      · rw [e]; exact h3 (hw t (List.mem_cons_self ..))
      · exact k3 (fun t ht => hw t (List.mem_cons_of_mem _ ht)) u e
    · rcases List.mem_cons.1 hu with e | e
      · rw [e]; exact h4
      · exact k4 u e
end

end Go.Proofs.YtelhpndlejommaaGreat

