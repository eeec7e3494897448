/- Contracts of priorartref03: Inverse, Div. -/
import Derived.Test.YtloddocibfbkpaaDoorRef03f
namespace Go.Proofs.YtloddocibfbkpaaDoor
open Go.RowKit Go.Shelf







end Go.Proofs.YtloddocibfbkpaaDoor
