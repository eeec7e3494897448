/- Contracts of priorartref03: Part. -/
import Derived.Test.YthjnodmhfhoilaaRef03e
namespace Go.Proofs.Ythjnodmhfhoilaa
open Go.RowKit Go.Shelf

/-- What Part returns. -/
def partR (k n d : Int) : Int × Int := if Qm.Ok n d ∧ 0 ≤ k ∧ k ≤ 1099511627776 ∧ 0 ≤ n then (if k * n / d > 1099511627776 then (0, 5) else (k * n / d, 0)) else (0, 1)

theorem part_split (k n : Int) {d : Int} (h : 0 < d) : k * n / d = k / d * n + k % d * n / d := by
  have e : k * n = k % d * n + k / d * n * d := by
    have := Int.mul_ediv_add_emod k d
    calc k * n = (d * (k / d) + k % d) * n := by rw [this]
      _ = k % d * n + k / d * n * d := by rw [Int.add_mul, Int.add_comm, Int.mul_comm d, Int.mul_assoc, Int.mul_comm d n, ← Int.mul_assoc]
  conv => lhs; rw [e]
  rw [Int.add_mul_ediv_right _ _ (by omega), Int.add_comm]


end Go.Proofs.Ythjnodmhfhoilaa
