/- Layer 9: next. -/
import Derived.Test.YtbdhfmoididkgaaE2
namespace Go.Proofs.Ytbdhfmoididkgaa
open Go.ChangeShapes Go.WideShapes Go.ChangeAt Go.RowKit
set_option linter.unusedVariables false
set_option maxRecDepth 100000
end Go.Proofs.Ytbdhfmoididkgaa
