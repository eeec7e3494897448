/- Contracts of package ratio: Sub. -/
import Derived.Test.YtloddocibfbkpaaDoorRat5
namespace Go.Proofs.YtloddocibfbkpaaDoor
open Go.RowKit Go.Shelf


end Go.Proofs.YtloddocibfbkpaaDoor
