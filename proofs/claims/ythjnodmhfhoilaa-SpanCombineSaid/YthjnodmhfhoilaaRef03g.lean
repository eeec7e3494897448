/- Contracts of priorartref03: Inverse, Div. -/
import Derived.Test.YthjnodmhfhoilaaRef03f
namespace Go.Proofs.Ythjnodmhfhoilaa
open Go.RowKit Go.Shelf







end Go.Proofs.Ythjnodmhfhoilaa
