/- Contracts of package ratio: Mul, whole. -/
import Derived.Test.YtloddocibfbkpaaDoorRat7
namespace Go.Proofs.YtloddocibfbkpaaDoor
open Go.RowKit Go.Shelf

/-- New of a numerator and another denominator fits. -/
theorem newR_fits {a d : Int} (h1 : -1099511627776 ≤ a) (h2 : a ≤ 1099511627776) (h3 : 1 ≤ d) (h4 : d ≤ 1048576) : Qm.newR a d = (a / Qm.g a d, d / Qm.g a d, 0) := by
  have hg := Qm.g_pos (a := a) (b := d) (by omega)
  have b1 := ediv_le (M := 1099511627776) hg h1 h2
  have b2 := ediv_le (M := 1048576) hg (show -1048576 ≤ d by omega) h4
  unfold Qm.newR
  rw [if_neg (by omega), Qm.ofR_pos (by omega), if_neg (by omega)]


end Go.Proofs.YtloddocibfbkpaaDoor
