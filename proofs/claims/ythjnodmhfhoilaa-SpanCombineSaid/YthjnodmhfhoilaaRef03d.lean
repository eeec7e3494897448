/- Contracts of priorartref03: Mul. -/
import Derived.Test.YthjnodmhfhoilaaRef03c
namespace Go.Proofs.Ythjnodmhfhoilaa
open Go.RowKit Go.Shelf





end Go.Proofs.Ythjnodmhfhoilaa
