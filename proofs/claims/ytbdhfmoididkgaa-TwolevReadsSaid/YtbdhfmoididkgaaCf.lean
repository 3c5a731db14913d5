/- Layer 8: the order of symbols. -/
import Derived.Test.YtbdhfmoididkgaaCe
namespace Go.Proofs.Ytbdhfmoididkgaa
open Go.ChangeShapes Go.WideShapes Go.ChangeAt Go.RowKit
set_option linter.unusedVariables false
set_option maxRecDepth 100000
open KraftMath CanonMath

end Go.Proofs.Ytbdhfmoididkgaa
