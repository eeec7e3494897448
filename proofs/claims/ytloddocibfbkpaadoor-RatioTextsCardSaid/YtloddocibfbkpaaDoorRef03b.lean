/- Contracts of priorartref03: Valid, Both, Less, Cmp, Neg, Inverse, Floor. -/
import Derived.Test.YtloddocibfbkpaaDoorRef03
namespace Go.Proofs.YtloddocibfbkpaaDoor
open Go.RowKit Go.Shelf





/-- What Cmp returns. -/
def cmpR (a b c d : Int) : Int × Int := if Qm.bothI a b c d = 0 then (Qm.cmpI a b c d, 0) else (0, 1)

theorem ret_two {a b c d : Int} (h1 : a = c) (h2 : b = d) : Ending.returned (.tuple #[.int .i64 a, .int .i64 b]) = .returned (.tuple #[.int .i64 c, .int .i64 d]) := by rw [h1, h2]


end Go.Proofs.YtloddocibfbkpaaDoor
