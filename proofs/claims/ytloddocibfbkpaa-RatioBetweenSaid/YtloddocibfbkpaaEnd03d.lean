/- The law RatioBetween, over the examples that hold. -/
import Derived.Test.YtloddocibfbkpaaLaw03d
import Derived.Test.YtloddocibfbkpaaLives03
namespace Go.Proofs.Ytloddocibfbkpaa
open Go.RowKit Go.Shelf

theorem end_between (a0 a1 a2 a3 a4 a5 : Int) (w : World) (w0 : (Lit.int .i64 a0).wf = true) (w1 : (Lit.int .i64 a1).wf = true) (w2 : (Lit.int .i64 a2).wf = true) (w3 : (Lit.int .i64 a3).wf = true) (w4 : (Lit.int .i64 a4).wf = true) (w5 : (Lit.int .i64 a5).wf = true) :
    Calls Try.prog 6 #[.int .i64 a0, .int .i64 a1, .int .i64 a2, .int .i64 a3, .int .i64 a4, .int .i64 a5] w fun e w' => e = .returned (.bool true) ∧ Below w.heap.size w w' :=
  law_between a0 a1 a2 a3 a4 a5 w w0 w1 w2 w3 w4 w5 lives_any

end Go.Proofs.Ytloddocibfbkpaa
