/- New slices of six slices; lists whose numbers are ints. -/
import Derived.Test.YtimbgjpjgbjnkaaNum
import Derived.Test.YtimbgjpjgbjnkaaRpl
import Derived.Test.YtimbgjpjgbjnkaaRef03i
import Derived.Deep.CutBlock
namespace Go.Proofs.Ytimbgjpjgbjnkaa
open Go.RowKit Go.Shelf

/-- A new slice of six slices. -/
theorem LEls.new6 {w : World} {v0 v1 v2 v3 v4 v5 : Value} {x0 x1 x2 x3 x4 x5 : List Iv} (h0 : REls RIv w v0 x0) (h1 : REls RIv w v1 x1) (h2 : REls RIv w v2 x2) (h3 : REls RIv w v3 x3) (h4 : REls RIv w v4 x4) (h5 : REls RIv w v5 x5) (T : TypeId) :
    LEls (w.alloc (.cells #[v0, v1, v2, v3, v4, v5] T)) (.slice (some ⟨w.heap.size, 0, none⟩) 6 6) [x0, x1, x2, x3, x4, x5] := by
  have hX := BoxL.made w #[v0, v1, v2, v3, v4, v5] T
  have hB : Below w.heap.size w (w.alloc (.cells #[v0, v1, v2, v3, v4, v5] T)) := (Below.refl _ _).alloc (Nat.le_refl _) _
  refine ⟨w.heap.size, 6, rfl, Nat.le_refl _, by simp, fun j zs hj => ?_⟩
  match j with
  | 0 =>
    simp at hj
    subst hj
    exact ⟨v0, (hX.2 0 v0 rfl).1, h0.below hB⟩
  | 1 =>
    simp at hj
    subst hj
    exact ⟨v1, (hX.2 1 v1 rfl).1, h1.below hB⟩
  | 2 =>
    simp at hj
    subst hj
    exact ⟨v2, (hX.2 2 v2 rfl).1, h2.below hB⟩
  | 3 =>
    simp at hj
    subst hj
    exact ⟨v3, (hX.2 3 v3 rfl).1, h3.below hB⟩
  | 4 =>
    simp at hj
    subst hj
    exact ⟨v4, (hX.2 4 v4 rfl).1, h4.below hB⟩
  | 5 =>
    simp at hj
    subst hj
    exact ⟨v5, (hX.2 5 v5 rfl).1, h5.below hB⟩
  | j + 6 => simp at hj

theorem goods_wf {L : List Iv} (h : ∀ x ∈ L, x.good = true) : ∀ x ∈ L, x.wf := fun x hx => (fit_one (h x hx)).wf x (List.mem_singleton.2 rfl)

theorem append_wf {L M : List Iv} (h : ∀ x ∈ L, x.wf) (h' : ∀ x ∈ M, x.wf) : ∀ x ∈ L ++ M, x.wf := fun x hx => (List.mem_append.1 hx).elim (h x) (h' x)

end Go.Proofs.Ytimbgjpjgbjnkaa
