/- The examples of chapter taxon. -/
import Derived.Test.YtidnllddhhllcaaTq
import Derived.Test.YtidnllddhhllcaaTo
namespace Go.Proofs.Ytidnllddhhllcaa
open Go.RowKit Go.Shelf

/-- The first example. -/
def exP : List (List Int) := [[], [0], [0], [1, 2]]

/-- The second one, a cycle. -/
def exQ : List (List Int) := [[1], [0]]

/-- What inherits in the first example. -/
def exI (c d : Nat) : Bool := decide (c = d) || (decide (c = 1) && decide (d = 0)) || (decide (c = 2) && decide (d = 0)) || (decide (c = 3) && (decide (d = 0) || decide (d = 1) || decide (d = 2)))

theorem exP_row (c : Nat) : Tx.row exP c = if c = 1 then [0] else if c = 2 then [0] else if c = 3 then [1, 2] else [] := by
  match c with
  | 0 => rfl
  | 1 => rfl
  | 2 => rfl
  | 3 => rfl
  | n + 4 => simp [Tx.row, exP]

theorem exP_rows : RowsOK 4 false exP := by
  intro i l h
  have hi : i < 4 := (List.getElem?_eq_some_iff.1 h).1
  have hl : l = Tx.row exP i := by unfold Tx.row; rw [h]; rfl
  subst hl
  refine ⟨?_, ?_, ?_⟩
  · have : i = 0 ∨ i = 1 ∨ i = 2 ∨ i = 3 := by omega
    rcases this with rfl | rfl | rfl | rfl <;> decide
  · have : i = 0 ∨ i = 1 ∨ i = 2 ∨ i = 3 := by omega
    rcases this with rfl | rfl | rfl | rfl <;> decide
  · intro x hx d hd
    subst hd
    rw [exP_row] at hx
    unfold befB
    simp only [Bool.false_eq_true, if_false]
    apply decide_eq_true
    split at hx
    · simp at hx; omega
    · split at hx
      · simp at hx; omega
      · split at hx
        · simp at hx; omega
        · cases hx

theorem exP_good : Tx.Good exP := rows_good exP_rows rfl (by decide)

theorem exP_inh : Tx.inh exP = exI := by
  have h0 : ∀ {c d : Nat}, c ≠ 1 → c ≠ 2 → c ≠ 3 → (Tx.Inh exP c d ↔ c = d) := fun {c d} h1 h2 h3 => by
    rw [Tx.inh_iff, exP_row, if_neg h1, if_neg h2, if_neg h3]
    simp
  have h1 : ∀ {d : Nat}, Tx.Inh exP 1 d ↔ d = 1 ∨ d = 0 := fun {d} => by
    rw [Tx.inh_iff, exP_row, if_pos rfl]
    constructor
    · rintro (h | ⟨p, hp, hi⟩)
      · exact .inl h.symm
      · simp at hp
        subst hp
        exact .inr ((h0 (by decide) (by decide) (by decide)).1 hi).symm
    · rintro (rfl | rfl)
      · exact .inl rfl
      · exact .inr ⟨0, by simp, .refl _⟩
  have h2 : ∀ {d : Nat}, Tx.Inh exP 2 d ↔ d = 2 ∨ d = 0 := fun {d} => by
    rw [Tx.inh_iff, exP_row, if_neg (by decide), if_pos rfl]
    constructor
    · rintro (h | ⟨p, hp, hi⟩)
      · exact .inl h.symm
      · simp at hp
        subst hp
        exact .inr ((h0 (by decide) (by decide) (by decide)).1 hi).symm
    · rintro (rfl | rfl)
      · exact .inl rfl
      · exact .inr ⟨0, by simp, .refl _⟩
  have h3 : ∀ {d : Nat}, Tx.Inh exP 3 d ↔ d = 3 ∨ d = 1 ∨ d = 2 ∨ d = 0 := fun {d} => by
    rw [Tx.inh_iff, exP_row, if_neg (by decide), if_neg (by decide), if_pos rfl]
    constructor
    · rintro (h | ⟨p, hp, hi⟩)
      · exact .inl h.symm
      · simp at hp
        rcases hp with hp | hp
        · have : p = 1 := by omega
          subst this
          rcases h1.1 hi with h | h
          · exact .inr (.inl h)
          · exact .inr (.inr (.inr h))
        · have : p = 2 := by omega
          subst this
          rcases h2.1 hi with h | h
          · exact .inr (.inr (.inl h))
          · exact .inr (.inr (.inr h))
    · rintro (rfl | rfl | rfl | rfl)
      · exact .inl rfl
      · exact .inr ⟨1, by simp, .refl _⟩
      · exact .inr ⟨2, by simp, .refl _⟩
      · exact .inr ⟨1, by simp, h1.2 (.inr rfl)⟩
  funext c d
  apply Bool.eq_iff_iff.2
  rw [Tx.inh_eq]
  unfold exI
  by_cases c1 : c = 1
  · subst c1; rw [h1]; simp; omega
  · by_cases c2 : c = 2
    · subst c2; rw [h2]; simp; omega
    · by_cases c3 : c = 3
      · subst c3; rw [h3]; simp; omega
      · rw [h0 c1 c2 c3]; simp [c1, c2, c3]

theorem exQ_err : Tx.newE exQ = 9 := by
  unfold Tx.newE
  rw [if_neg (by decide), if_neg (by decide)]
  refine @if_pos _ (Classical.propDecidable _) ?_ _ _ _
  exact ⟨0, 1, by simp [Tx.row, exQ], .step (p := 0) (by simp [Tx.row, exQ]) (.refl _)⟩

theorem exP_err : Tx.newE exP = 0 := Tx.newE_ok.2 ⟨exP_good.len, exP_good.ok, exP_good.acy⟩

theorem ex_up : upL exP [1] = [0, 1] := by unfold upL; rw [exP_inh]; decide
theorem ex_down : downL exP 1 = [1, 3] := by unfold downL; rw [exP_inh]; decide
theorem ex_left : leftB exP = fun g S k d => g d && !((S.take k).any fun c => decide (c.toNat ≠ d) && exI c.toNat d) := by
  funext g S k d
  unfold leftB
  rw [exP_inh]

theorem ex_least : leastL exP [0, 1, 2] = [1, 2] := by
  unfold leastL
  rw [ex_left]
  decide

theorem ex_is : isB exP 3 0 = true := by unfold isB; rw [exP_inh]; decide
theorem ex_is2 : isB exP 0 3 = false := by unfold isB; rw [exP_inh]; decide

/-- The literals. -/
theorem lit_p {w : World} {W : World} {a b c : Nat} {T : TypeId} (ha : Els .i64 w (.slice (some ⟨a, 0, none⟩) 1 1) [0]) (hb : Els .i64 w (.slice (some ⟨b, 0, none⟩) 1 1) [0]) (hc : Els .i64 w (.slice (some ⟨c, 0, none⟩) 2 2) [1, 2])
    (hW : W = w.alloc (.cells #[.slice none 0 0, .slice (some ⟨a, 0, none⟩) 1 1, .slice (some ⟨b, 0, none⟩) 1 1, .slice (some ⟨c, 0, none⟩) 2 2] T)) : LE W (.slice (some ⟨w.heap.size, 0, none⟩) 4 4) exP := by
  subst hW
  have hB := (Below.refl _ w).alloc (Nat.le_refl _) (.cells #[.slice none 0 0, .slice (some ⟨a, 0, none⟩) 1 1, .slice (some ⟨b, 0, none⟩) 1 1, .slice (some ⟨c, 0, none⟩) 2 2] T)
  have hn := heap_new w (.cells #[.slice none 0 0, .slice (some ⟨a, 0, none⟩) 1 1, .slice (some ⟨b, 0, none⟩) 1 1, .slice (some ⟨c, 0, none⟩) 2 2] T)
  refine .inr ⟨w.heap.size, 4, trivial, by simp, rfl, by decide, fun j l hj => ?_⟩
  have hi : j < 4 := (List.getElem?_eq_some_iff.1 hj).1
  have : j = 0 ∨ j = 1 ∨ j = 2 ∨ j = 3 := by omega
  rcases this with rfl | rfl | rfl | rfl <;> cases hj
  · exact ⟨_, by unfold World.cell?; simp only [hn]; rfl, .inl ⟨.inl rfl, rfl⟩⟩
  · exact ⟨_, by unfold World.cell?; simp only [hn]; rfl, (ha.below hB).ein⟩
  · exact ⟨_, by unfold World.cell?; simp only [hn]; rfl, (hb.below hB).ein⟩
  · exact ⟨_, by unfold World.cell?; simp only [hn]; rfl, (hc.below hB).ein⟩

theorem lit_q {w : World} {W : World} {a b : Nat} {T : TypeId} (ha : Els .i64 w (.slice (some ⟨a, 0, none⟩) 1 1) [1]) (hb : Els .i64 w (.slice (some ⟨b, 0, none⟩) 1 1) [0])
    (hW : W = w.alloc (.cells #[.slice (some ⟨a, 0, none⟩) 1 1, .slice (some ⟨b, 0, none⟩) 1 1] T)) : LE W (.slice (some ⟨w.heap.size, 0, none⟩) 2 2) exQ := by
  subst hW
  have hB := (Below.refl _ w).alloc (Nat.le_refl _) (.cells #[.slice (some ⟨a, 0, none⟩) 1 1, .slice (some ⟨b, 0, none⟩) 1 1] T)
  have hn := heap_new w (.cells #[.slice (some ⟨a, 0, none⟩) 1 1, .slice (some ⟨b, 0, none⟩) 1 1] T)
  refine .inr ⟨w.heap.size, 2, trivial, by simp, rfl, by decide, fun j l hj => ?_⟩
  have hi : j < 2 := (List.getElem?_eq_some_iff.1 hj).1
  have : j = 0 ∨ j = 1 := by omega
  rcases this with rfl | rfl <;> cases hj
  · exact ⟨_, by unfold World.cell?; simp only [hn]; rfl, (ha.below hB).ein⟩
  · exact ⟨_, by unfold World.cell?; simp only [hn]; rfl, (hb.below hB).ein⟩

theorem new_ok (sv : Value) (P : List (List Int)) (w : World) (h : LE w sv P) (hP : P.length ≤ 100000) (hsh : ∀ l ∈ P, l.length ≤ 100000) (hg : Tx.Good P) :
    Calls Try.prog 12 #[sv] w fun e w' => ∃ N, e = .returned (.tuple #[.pointer (some ⟨N, 0, none⟩), .int .i64 0]) ∧ Hid (TxAt N P w') ∧ Hid (Below w.heap.size w w') :=
  (new_any sv P w h hP hsh).mono fun e w' h => by
    rcases h with ⟨h1, _⟩ | ⟨_, N, h2, h3, h4⟩
    · exact absurd (Tx.newE_ok.2 ⟨hg.len, hg.ok, hg.acy⟩) h1
    · exact ⟨N, h2, h3, h4⟩

theorem new_err (sv : Value) (P : List (List Int)) (w : World) (h : LE w sv P) (hP : P.length ≤ 100000) (hsh : ∀ l ∈ P, l.length ≤ 100000) {x : Int} (hx : Tx.newE P = x) (h0 : x ≠ 0) :
    Calls Try.prog 12 #[sv] w fun e w' => e = .returned (.tuple #[.pointer none, .int .i64 x]) ∧ Below w.heap.size w w' :=
  (new_any sv P w h hP hsh).mono fun e w' h => by
    rcases h with ⟨_, h2, h3⟩ | ⟨h1, _⟩
    · rw [hx] at h2; exact ⟨h2, h3⟩
    · rw [hx] at h1; exact absurd h1 h0

end Go.Proofs.Ytidnllddhhllcaa
