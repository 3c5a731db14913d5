/- Layer 9: next. -/
import Derived.Test.YtgoplbngfinbdaaE2
namespace Go.Proofs.Ytgoplbngfinbdaa
open Go.ChangeShapes Go.WideShapes Go.ChangeAt Go.RowKit
set_option linter.unusedVariables false
set_option maxRecDepth 100000
end Go.Proofs.Ytgoplbngfinbdaa
