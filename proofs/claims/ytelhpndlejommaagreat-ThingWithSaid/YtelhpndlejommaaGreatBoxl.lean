/- Blocks that lie, with their cells. -/
import Derived.Test.YtelhpndlejommaaGreatKit
namespace Go.Proofs.YtelhpndlejommaaGreat
open Go.RowKit

/-- A block that lies, with its cells. -/
def BoxL (N : Nat) (vs : List Value) (W : World) : Prop := N < W.heap.size ∧ ∀ i v, vs[i]? = some v → W.cell? ⟨N, i, none⟩ = some v ∧ W.frozen? ⟨N, i, none⟩ = false

theorem BoxL.made (w : World) (cs : Array Value) (t : TypeId) : BoxL w.heap.size cs.toList (w.alloc (.cells cs t)) := by
  refine ⟨by simp, fun i v h => ?_⟩
  have hn := heap_new w (.cells cs t)
  unfold World.cell? World.frozen?
  simp only [hn]
  rw [Array.getElem?_toList] at h
  exact ⟨h, by simp⟩

theorem BoxL.keep {W w1 : World} {N : Nat} {vs : List Value} (h : BoxL N vs W) (hb : Below W.heap.size W w1) : BoxL N vs w1 :=
  ⟨Nat.lt_of_lt_of_le h.1 hb.size, fun i v hv => ⟨(hb.cell (p := ⟨N, i, none⟩) h.1).trans (h.2 i v hv).1, (hb.frozen (p := ⟨N, i, none⟩) h.1).trans (h.2 i v hv).2⟩⟩

theorem BoxL.under {W : World} {N : Nat} {vs : List Value} (h : BoxL N vs W) (o : Obj) : BoxL N vs (W.alloc o) := h.keep ((Below.refl _ _).alloc (Nat.le_refl _) o)

theorem BoxL.open2 {N : Nat} {a b : Value} {W : World} (h : BoxL N [a, b] W) : W.cell? ⟨N, 0, none⟩ = some a ∧ W.cell? ⟨N, 1, none⟩ = some b ∧ W.frozen? ⟨N, 0, none⟩ = false ∧ W.frozen? ⟨N, 1, none⟩ = false ∧ N < W.heap.size :=
  ⟨(h.2 0 a rfl).1, (h.2 1 b rfl).1, (h.2 0 a rfl).2, (h.2 1 b rfl).2, h.1⟩

theorem BoxL.open3 {N : Nat} {a b c : Value} {W : World} (h : BoxL N [a, b, c] W) : W.cell? ⟨N, 0, none⟩ = some a ∧ W.cell? ⟨N, 1, none⟩ = some b ∧ W.cell? ⟨N, 2, none⟩ = some c ∧ W.frozen? ⟨N, 0, none⟩ = false ∧ W.frozen? ⟨N, 1, none⟩ = false ∧ W.frozen? ⟨N, 2, none⟩ = false ∧ N < W.heap.size :=
  ⟨(h.2 0 a rfl).1, (h.2 1 b rfl).1, (h.2 2 c rfl).1, (h.2 0 a rfl).2, (h.2 1 b rfl).2, (h.2 2 c rfl).2, h.1⟩

theorem BoxL.open8 {N : Nat} {a b c d e f g i : Value} {W : World} (h : BoxL N [a, b, c, d, e, f, g, i] W) : W.cell? ⟨N, 0, none⟩ = some a ∧ W.cell? ⟨N, 1, none⟩ = some b ∧ W.cell? ⟨N, 2, none⟩ = some c ∧ W.cell? ⟨N, 3, none⟩ = some d ∧ W.cell? ⟨N, 4, none⟩ = some e ∧ W.cell? ⟨N, 5, none⟩ = some f ∧ W.cell? ⟨N, 6, none⟩ = some g ∧ W.cell? ⟨N, 7, none⟩ = some i ∧ N < W.heap.size :=
  ⟨(h.2 0 a rfl).1, (h.2 1 b rfl).1, (h.2 2 c rfl).1, (h.2 3 d rfl).1, (h.2 4 e rfl).1, (h.2 5 f rfl).1, (h.2 6 g rfl).1, (h.2 7 i rfl).1, h.1⟩

theorem cell_new8 (w : World) (a b c d e f g i : Value) (t : TypeId) : BoxL w.heap.size [a, b, c, d, e, f, g, i] (w.alloc (.cells #[a, b, c, d, e, f, g, i] t)) := BoxL.made w _ t

end Go.Proofs.YtelhpndlejommaaGreat
