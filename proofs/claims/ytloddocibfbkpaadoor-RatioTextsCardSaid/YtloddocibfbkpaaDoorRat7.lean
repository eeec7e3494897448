/- Contracts of package ratio: Mul. -/
import Derived.Test.YtloddocibfbkpaaDoorRat6
namespace Go.Proofs.YtloddocibfbkpaaDoor
open Go.RowKit Go.Shelf

theorem absI_eq (n : Int) : absI n = (n.natAbs : Int) := by unfold absI; split <;> omega

theorem mul_big (x y : Int) : (0 < absI x * absI y / 18446744073709551616 ∨ 1099511627776 < absI x * absI y % 18446744073709551616) ↔ (x * y > 1099511627776 ∨ x * y < -1099511627776) := by
  have e : absI x * absI y = ((x * y).natAbs : Int) := by rw [absI_eq, absI_eq, Int.natAbs_mul, Int.natCast_mul]
  rw [e]
  omega

theorem size_q (n : Int) (w : World) (h1 : -1099511627776 ≤ n) (h2 : n ≤ 1099511627776) :
    Calls Tryd.prog 28 #[.int .i64 n] w fun e w' => e = .returned (.int .u64 (absI n)) ∧ w' = w :=
  (size_any n w (by omega) (by omega)).mono fun _ _ ⟨h1, h2⟩ => ⟨h1, h2.symm⟩

theorem mul64_q (x y : Int) (w : World) (h1 : 0 ≤ x) (h2 : x ≤ 1099511627776) (h3 : 0 ≤ y) (h4 : y ≤ 1099511627776) :
    Calls Tryd.prog 35 #[.int .u64 x, .int .u64 y] w fun e w' => e = .returned (.tuple #[.int .u64 (x * y / 18446744073709551616), .int .u64 (x * y % 18446744073709551616)]) ∧ w' = w :=
  (mul64_any x y w h1 h2 h3 h4).mono fun _ _ ⟨h1, h2⟩ => ⟨h1, h2.symm⟩


end Go.Proofs.YtloddocibfbkpaaDoor
