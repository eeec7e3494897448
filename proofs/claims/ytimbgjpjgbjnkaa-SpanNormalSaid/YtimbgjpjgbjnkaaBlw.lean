/- As Below, and the count of draws does not go back: what a sort asks of what it calls. -/
import Derived.Test.YtimbgjpjgbjnkaaBoxSp2
import Derived.Sort.Grow
namespace Go.Proofs.Ytimbgjpjgbjnkaa
open Go.RowKit Go.Shelf

/-- Below, and the draws go on. -/
structure Blw (B : Nat) (w w' : World) : Prop extends Below B w w' where
  dr : w.drawn ≤ w'.drawn

theorem Blw.refl (B : Nat) (w : World) : Blw B w w := ⟨Below.refl B w, Nat.le_refl _⟩
theorem Blw.trans {B : Nat} {a b c : World} (h : Blw B a b) (k : Blw B b c) : Blw B a c := ⟨h.toBelow.trans k.toBelow, Nat.le_trans h.dr k.dr⟩
theorem Blw.mono {B B' : Nat} {w w' : World} (h : Blw B w w') (hB : B' ≤ B) : Blw B' w w' := ⟨h.toBelow.mono hB, h.dr⟩
theorem Blw.drew {B : Nat} {a w : World} (h : Blw B a w) : Blw B a w.drew := ⟨h.toBelow.drew, Nat.le_trans h.dr (Nat.le_succ _)⟩
theorem Blw.alloc {B : Nat} {a w : World} (h : Blw B a w) (hB : B ≤ w.heap.size) (o : Obj) : Blw B a (w.alloc o) := ⟨h.toBelow.alloc hB o, h.dr⟩
theorem Blw.setCell {B : Nat} {a w : World} (h : Blw B a w) {p : Addr} (hp : B ≤ p.block) (u : Value) : Blw B a (w.setCell p u) := ⟨h.toBelow.setCell hp u, h.dr⟩
theorem blw_drewN {B : Nat} {a w : World} (h : Blw B a w) (n : Nat) : Blw B a (w.drewN n) := ⟨below_drewN h.toBelow n, Nat.le_trans h.dr (Nat.le_add_right _ _)⟩

theorem box_rd {w w1 : World} {a b : Value} {t : TypeId} (hb : Blw (w.alloc (.cells #[a, b] t)).heap.size (w.alloc (.cells #[a, b] t)) w1) :
    w1.cell? ⟨w.heap.size, 0, none⟩ = some a ∧ w1.cell? ⟨w.heap.size, 1, none⟩ = some b ∧ w1.frozen? ⟨w.heap.size, 0, none⟩ = false ∧ w1.frozen? ⟨w.heap.size, 1, none⟩ = false ∧ w.heap.size < w1.heap.size := box_r hb.toBelow

/-- What it gives a sort. -/
theorem Blw.grows {w w' : World} (h : Blw w.heap.size w w') : ∃ q os, w' = Sort.grow (w.drewN q) os := by
  refine ⟨w'.drawn - w.drawn, w'.heap.extract w.heap.size w'.heap.size, ?_⟩
  obtain ⟨⟨h1, h2, h3, h4, h5⟩, h6⟩ := h
  have hh : w.heap ++ w'.heap.extract w.heap.size w'.heap.size = w'.heap := by
    apply Array.ext_getElem?
    intro i
    by_cases hi : i < w.heap.size
    · rw [Array.getElem?_append_left hi, h5 i hi]
    · rw [Array.getElem?_append_right (by omega)]
      by_cases hj : i < w'.heap.size
      · rw [Array.getElem?_extract, if_pos (by omega)]
        congr 1
        omega
      · rw [Array.getElem?_eq_none (by simp; omega), Array.getElem?_eq_none (by omega)]
  cases w with
  | mk heap tape drawn os output =>
    cases w' with
    | mk heap' tape' drawn' os' output' =>
      simp only at h1 h2 h3 h4 h5 h6 hh
      subst h1 h2 h3
      unfold Sort.grow World.drewN
      simp only [World.mk.injEq]
      exact ⟨hh.symm, trivial, by omega, trivial, trivial⟩

end Go.Proofs.Ytimbgjpjgbjnkaa
