/- The law RatioNew, over the examples that hold. -/
import Derived.Test.YtpjmmdlcbgidgaaLaw03e
import Derived.Test.YtpjmmdlcbgidgaaLives03
namespace Go.Proofs.Ytpjmmdlcbgidgaa
open Go.RowKit Go.Shelf

theorem end_new (a0 a1 a2 a3 a4 : Int) (w : World) (w0 : (Lit.int .i64 a0).wf = true) (w1 : (Lit.int .i64 a1).wf = true) (w2 : (Lit.int .i64 a2).wf = true) (w3 : (Lit.int .i64 a3).wf = true) (w4 : (Lit.int .i64 a4).wf = true) :
    Calls Try.prog 3 #[.int .i64 a0, .int .i64 a1, .int .i64 a2, .int .i64 a3, .int .i64 a4] w fun e w' => e = .returned (.bool true) ∧ Below w.heap.size w w' :=
  law_new a0 a1 a2 a3 a4 w w0 w1 w2 w3 w4 lives_any

end Go.Proofs.Ytpjmmdlcbgidgaa
