/- Classes that inherit: mathematics. -/
import Derived.Test.YtidnllddhhllcaaKit
namespace Go.Proofs.Ytidnllddhhllcaa

namespace Tx

/-- The parents of a class. -/
def row (P : List (List Int)) (c : Nat) : List Int := P[c]?.getD []

/-- A class inherits from another one, or is it. -/
inductive Inh (P : List (List Int)) : Nat → Nat → Prop
  | refl (c : Nat) : Inh P c c
  | step {c p d : Nat} : (p : Int) ∈ row P c → Inh P p d → Inh P c d

theorem Inh.trans {P : List (List Int)} {a b c : Nat} (h : Inh P a b) (k : Inh P b c) : Inh P a c := by
  induction h with
  | refl c => exact k
  | step hp _ ih => exact .step hp (ih k)

theorem Inh.one {P : List (List Int)} {c p : Nat} (h : (p : Int) ∈ row P c) : Inh P c p := .step h (.refl p)

theorem Inh.cases' {P : List (List Int)} {c d : Nat} (h : Inh P c d) : c = d ∨ ∃ p : Nat, (p : Int) ∈ row P c ∧ Inh P p d := by
  cases h with
  | refl => exact .inl rfl
  | step hp hi => exact .inr ⟨_, hp, hi⟩

theorem inh_iff {P : List (List Int)} {c d : Nat} : Inh P c d ↔ c = d ∨ ∃ p : Nat, (p : Int) ∈ row P c ∧ Inh P p d := by
  constructor
  · exact Inh.cases'
  · rintro (rfl | ⟨p, hp, hi⟩)
    · exact .refl _
    · exact .step hp hi

/-- A class inherits from itself. -/
def Cyc (P : List (List Int)) : Prop := ∃ c p : Nat, (p : Int) ∈ row P c ∧ Inh P p c

/-- As a Bool. -/
noncomputable def inh (P : List (List Int)) (c d : Nat) : Bool := @decide (Inh P c d) (Classical.propDecidable _)

theorem inh_eq {P : List (List Int)} {c d : Nat} : inh P c d = true ↔ Inh P c d := by
  unfold inh
  exact @decide_eq_true_iff _ (Classical.propDecidable _)

theorem inh_ne {P : List (List Int)} {c d : Nat} : inh P c d = false ↔ ¬ Inh P c d := by
  rw [← inh_eq]; simp

/-- A list of parents is strictly increasing behind a number, and has classes alone. -/
def okB (n : Nat) : Int → List Int → Bool
  | _, [] => true
  | last, x :: xs => if x ≤ last ∨ (n : Int) ≤ x then false else okB n x xs

/-- All lists are. -/
def okAll (n : Nat) (P : List (List Int)) : Bool := P.all (okB n (-1))

theorem okB_mem {n : Nat} {last : Int} {l : List Int} (h : okB n last l = true) : ∀ x ∈ l, last < x ∧ x < n := by
  induction l generalizing last with
  | nil => intro x hx; simp at hx
  | cons y ys ih =>
    unfold okB at h
    split at h
    · cases h
    · next hy =>
      intro x hx
      rcases List.mem_cons.1 hx with rfl | hx
      · omega
      · have := ih h x hx; omega

/-- The error of New. -/
noncomputable def newE (P : List (List Int)) : Int :=
  if 64 < P.length then 4 else if okAll P.length P = false then 1 else @ite _ (Cyc P) (Classical.propDecidable _) 9 0

theorem newE_ok {P : List (List Int)} : newE P = 0 ↔ P.length ≤ 64 ∧ okAll P.length P = true ∧ ¬ Cyc P := by
  unfold newE
  split
  · constructor
    · intro h; cases h
    · intro h; omega
  · split
    · next h1 h2 =>
      constructor
      · intro h; cases h
      · intro h; rw [h2] at h; simp at h
    · next h1 h2 =>
      have h2' : okAll P.length P = true := by simpa using h2
      split
      · next hc =>
        constructor
        · intro h; cases h
        · intro h; exact absurd hc h.2.2
      · next hc => exact ⟨fun _ => ⟨by omega, h2', hc⟩, fun _ => rfl⟩

/-- A good taxonomy. -/
structure Good (P : List (List Int)) : Prop where
  len : P.length ≤ 64
  ok : okAll P.length P = true
  acy : ¬ Cyc P

theorem row_mem {P : List (List Int)} {c : Nat} {x : Int} (h : x ∈ row P c) : ∃ l, P[c]? = some l ∧ x ∈ l := by
  unfold row at h
  cases hl : P[c]? with
  | none => simp [hl] at h
  | some l => exact ⟨l, rfl, by simpa [hl] using h⟩

theorem row_lt {P : List (List Int)} {c : Nat} {x : Int} (h : x ∈ row P c) : c < P.length := by
  obtain ⟨l, hl, _⟩ := row_mem h
  exact (List.getElem?_eq_some_iff.1 hl).1

theorem ok_row {n : Nat} {P : List (List Int)} (h : okAll n P = true) {c : Nat} {x : Int} (hx : x ∈ row P c) : 0 ≤ x ∧ x < n := by
  obtain ⟨l, hl, hx⟩ := row_mem hx
  have := okB_mem (List.all_eq_true.1 h l (List.mem_of_getElem? hl)) x hx
  omega

theorem ok_len {P : List (List Int)} (h : okAll P.length P = true) {c p : Nat} (hx : (p : Int) ∈ row P c) : p < P.length := by
  have := ok_row h hx; omega

theorem Inh.lt {P : List (List Int)} (h : okAll P.length P = true) {c d : Nat} (hi : Inh P c d) (hc : c < P.length) : d < P.length := by
  induction hi with
  | refl => exact hc
  | step hp _ ih => exact ih (ok_len h hp)

theorem Inh.anti {P : List (List Int)} (h : ¬ Cyc P) {c d : Nat} (h1 : Inh P c d) (h2 : Inh P d c) : c = d := by
  rcases h1.cases' with e | ⟨p, hp, hi⟩
  · exact e
  · exact absurd ⟨c, p, hp, hi.trans h2⟩ h

/-- What the search has found so far. -/
structure Dfs (P : List (List Int)) (E L : Nat → Bool) (F : Nat → Nat → Bool) : Prop where
  le : ∀ c, L c = true → E c = true
  lt : ∀ c, E c = true → c < P.length
  up : ∀ c, L c = true → ∀ p : Nat, (p : Int) ∈ row P c → L p = true
  tab : ∀ c, L c = true → ∀ d, d < 64 → F c d = inh P c d
  acy : ∀ c, L c = true → ∀ p : Nat, (p : Int) ∈ row P c → ¬ Inh P p c

/-- The classes that were entered and not left all inherit from a class. -/
def Stack (P : List (List Int)) (E L : Nat → Bool) (c : Nat) : Prop := ∀ x, E x = true → L x = false → ∃ p : Nat, (p : Int) ∈ row P x ∧ Inh P p c

/-- What a visit leaves that found no cycle. -/
structure Went (P : List (List Int)) (E L E' L' : Nat → Bool) (F' : Nat → Nat → Bool) : Prop where
  dfs : Dfs P E' L' F'
  mono : ∀ x, L x = true → L' x = true
  more : ∀ x, E x = true → E' x = true
  stack : ∀ x, E' x = true → L' x = false → E x = true ∧ L x = false
  back : ∀ x, E x = true → L x = false → L' x = false

theorem Went.refl {P : List (List Int)} {E L : Nat → Bool} {F : Nat → Nat → Bool} (h : Dfs P E L F) : Went P E L E L F := ⟨h, fun _ h => h, fun _ h => h, fun _ h k => ⟨h, k⟩, fun _ _ k => k⟩

theorem Went.trans {P : List (List Int)} {E L E1 L1 E2 L2 : Nat → Bool} {F1 F2 : Nat → Nat → Bool} (h : Went P E L E1 L1 F1) (k : Went P E1 L1 E2 L2 F2) : Went P E L E2 L2 F2 :=
  ⟨k.dfs, fun x hx => k.mono x (h.mono x hx), fun x hx => k.more x (h.more x hx), fun x h1 h2 => (h.stack x (k.stack x h1 h2).1 (k.stack x h1 h2).2), fun x h1 h2 => k.back x (h.more x h1) (h.back x h1 h2)⟩

/-- A set with one more. -/
def put (E : Nat → Bool) (c : Nat) : Nat → Bool := fun x => if x = c then true else E x

theorem put_same (E : Nat → Bool) (c : Nat) : put E c c = true := if_pos rfl
theorem put_other {E : Nat → Bool} {c x : Nat} (h : x ≠ c) : put E c x = E x := if_neg h

/-- A class is entered. -/
theorem Dfs.enter {P : List (List Int)} {E L : Nat → Bool} {F : Nat → Nat → Bool} (h : Dfs P E L F) {c : Nat} (hc : c < P.length) : Dfs P (put E c) L F where
  le := fun x hx => by
    by_cases e : x = c
    · rw [e]; exact put_same E c
    · rw [put_other e]; exact h.le x hx
  lt := fun x hx => by
    by_cases e : x = c
    · rw [e]; exact hc
    · rw [put_other e] at hx; exact h.lt x hx
  up := h.up
  tab := h.tab
  acy := h.acy

/-- The stack for a parent. -/
theorem Stack.parent {P : List (List Int)} {E L Ek Lk : Nat → Bool} {Fk : Nat → Nat → Bool} {c p : Nat} (h : Stack P E L c) (hw : Went P (put E c) L Ek Lk Fk) (hp : (p : Int) ∈ row P c) : Stack P Ek Lk p := fun x h1 h2 => by
  obtain ⟨h3, h4⟩ := hw.stack x h1 h2
  by_cases e : x = c
  · subst e; exact ⟨p, hp, .refl _⟩
  · rw [put_other e] at h3
    obtain ⟨q, hq, hi⟩ := h x h3 h4
    exact ⟨q, hq, hi.trans (.one hp)⟩

theorem Dfs.closed {P : List (List Int)} {E L : Nat → Bool} {F : Nat → Nat → Bool} (h : Dfs P E L F) {c d : Nat} (hi : Inh P c d) (hc : L c = true) : L d = true := by
  induction hi with
  | refl => exact hc
  | step hp _ ih => exact ih (h.up _ hc _ hp)

/-- A row of a table is another one. -/
def setRow (F : Nat → Nat → Bool) (c : Nat) (f : Nat → Bool) : Nat → Nat → Bool := fun x => if x = c then f else F x

/-- A class is left. -/
theorem Went.leave {P : List (List Int)} {E L Ek Lk : Nat → Bool} {Fk : Nat → Nat → Bool} {c : Nat} (hn : E c = false) (hw : Went P (put E c) L Ek Lk Fk) (hL : L c = false) (hc : c < P.length)
    (hp : ∀ p : Nat, (p : Int) ∈ row P c → Lk p = true) (f : Nat → Bool) (hf : ∀ d, d < 64 → f d = inh P c d) : Went P E L Ek (put Lk c) (setRow Fk c f) where
  dfs := by
    have hck : Lk c = false := hw.back c (put_same E c) hL
    refine ⟨fun x hx => ?_, hw.dfs.lt, fun x hx p hxp => ?_, fun x hx d hd => ?_, fun x hx p hxp hi => ?_⟩
    · by_cases e : x = c
      · rw [e]; exact hw.more c (put_same E c)
      · rw [put_other e] at hx; exact hw.dfs.le x hx
    · have : Lk p = true := by
        by_cases e : x = c
        · subst e; exact hp p hxp
        · rw [put_other e] at hx; exact hw.dfs.up x hx p hxp
      by_cases e : p = c
      · rw [e]; exact put_same _ _
      · rw [put_other e]; exact this
    · unfold setRow
      by_cases e : x = c
      · rw [if_pos e, e]; exact hf d hd
      · rw [if_neg e]; rw [put_other e] at hx; exact hw.dfs.tab x hx d hd
    · by_cases e : x = c
      · subst e
        have := hw.dfs.closed hi (hp p hxp)
        rw [hck] at this; cases this
      · rw [put_other e] at hx; exact hw.dfs.acy x hx p hxp hi
  mono := fun x hx => by
    by_cases e : x = c
    · rw [e]; exact put_same _ _
    · rw [put_other e]; exact hw.mono x hx
  more := fun x hx => hw.more x (by
    by_cases e : x = c
    · rw [e]; exact put_same _ _
    · rw [put_other e]; exact hx)
  stack := fun x h1 h2 => by
    by_cases e : x = c
    · rw [e, put_same] at h2; cases h2
    · rw [put_other e] at h2
      have := hw.stack x h1 h2
      rw [put_other e] at this; exact this
  back := fun x h1 h2 => by
    by_cases e : x = c
    · rw [e, hn] at h1; cases h1
    · rw [put_other e]
      exact hw.back x (by rw [put_other e]; exact h1) h2

/-- How many classes were not entered. -/
def left (E : Nat → Bool) (n : Nat) : Nat := ((List.range n).filter fun x => !E x).length

theorem left_succ (E : Nat → Bool) (n : Nat) : left E (n + 1) = left E n + (if E n = true then 0 else 1) := by
  unfold left
  rw [List.range_succ, List.filter_append, List.length_append]
  cases h : E n <;> simp [h]

theorem left_mono {E E' : Nat → Bool} (h : ∀ x, E x = true → E' x = true) (n : Nat) : left E' n ≤ left E n := by
  induction n with
  | zero => exact Nat.le_refl _
  | succ n ih =>
    rw [left_succ, left_succ]
    by_cases e : E n = true
    · rw [if_pos e, if_pos (h n e)]; omega
    · rw [if_neg e]; split <;> omega

theorem left_put {E : Nat → Bool} {c : Nat} (hn : E c = false) : ∀ n, c < n → left (put E c) n < left E n := by
  intro n
  induction n with
  | zero => intro h; omega
  | succ n ih =>
    intro h
    rw [left_succ, left_succ]
    by_cases e : c = n
    · subst e
      rw [put_same, if_pos rfl, hn]
      have : left (put E c) c ≤ left E c := left_mono (fun x hx => by
        by_cases e : x = c
        · rw [e]; exact put_same _ _
        · rw [put_other e]; exact hx) c
      simp; omega
    · have := ih (by omega)
      rw [put_other (Ne.symm e)]
      omega

/-- The search is over. -/
theorem Dfs.all {P : List (List Int)} {E L : Nat → Bool} {F : Nat → Nat → Bool} (h : Dfs P E L F) (ha : ∀ c, c < P.length → L c = true) : ¬ Cyc P := by
  rintro ⟨c, p, hp, hi⟩
  exact h.acy c (ha c (row_lt hp)) p hp hi

end Tx

end Go.Proofs.Ytidnllddhhllcaa
