/- Contracts of priorartref03: Div, whole. -/
import Derived.Test.YthjnodmhfhoilaaRef03g
namespace Go.Proofs.Ythjnodmhfhoilaa
open Go.RowKit Go.Shelf

/-- What Div returns. -/
def divR (a b c d : Int) : Int × Int × Int := if Qm.bothI a b c d = 0 then Qm.newR (a * d) (b * c) else (0, 0, 1)

/-- A quotient, by its parts. -/
theorem div_parts {a b u v : Int} (hb : 1 ≤ b) (hv : 1 ≤ v) (h1 : Qm.g a b = 1) (h2 : Qm.g u v = 1) :
    Qm.ofR (a * u) (b * v) = (if a / Qm.g a v * (u / Qm.g u b) > 1099511627776 ∨ a / Qm.g a v * (u / Qm.g u b) < -1099511627776 ∨ b / Qm.g u b * (v / Qm.g a v) > 1048576 then (0, 0, 5) else (a / Qm.g a v * (u / Qm.g u b), b / Qm.g u b * (v / Qm.g a v), 0)) ∧
    Qm.ofR (a / Qm.g a v * (u / Qm.g u b)) (b / Qm.g u b * (v / Qm.g a v)) = Qm.ofR (a * u) (b * v) := by
  have p1 := (part_pos (M := b) (Qm.g_pos (a := u) (b := b) (by omega)) (Qm.g_right u b) (by omega) (Int.le_refl _)).1
  have p2 := (part_pos (M := v) (Qm.g_pos (a := a) (b := v) (by omega)) (Qm.g_right a v) (by omega) (Int.le_refl _)).1
  have p3 : 0 < b / Qm.g u b * (v / Qm.g a v) := Int.mul_pos (by omega) (by omega)
  have p4 : 0 < b * v := Int.mul_pos (by omega) (by omega)
  have e := Qm.ofR_same (n := a * u) (d := b * v) (n' := a / Qm.g a v * (u / Qm.g u b)) (d' := b / Qm.g u b * (v / Qm.g a v)) (by omega) (by omega) (Qm.cross_same (by omega) (by omega))
  refine ⟨?_, e.symm⟩
  rw [e]
  exact Qm.ofR_lowest (by omega) (Qm.g_cross h1 h2 (by omega) (by omega))


theorem ok_ne {n d : Int} (o : Qm.Ok n d) : d ≠ 0 := by have := o.1; omega


end Go.Proofs.Ythjnodmhfhoilaa
