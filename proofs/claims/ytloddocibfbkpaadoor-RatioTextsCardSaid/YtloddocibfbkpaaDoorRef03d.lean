/- Contracts of priorartref03: Mul. -/
import Derived.Test.YtloddocibfbkpaaDoorRef03c
namespace Go.Proofs.YtloddocibfbkpaaDoor
open Go.RowKit Go.Shelf





end Go.Proofs.YtloddocibfbkpaaDoor
