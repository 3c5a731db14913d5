import Derived.Test.YtopiiickeojpmaaJ11
/- Layer 9: next. -/
namespace Go.Proofs.Ytopiiickeojpmaa
open Go.ChangeShapes Go.WideShapes Go.ChangeAt Go.RowKit
set_option linter.unusedVariables false
set_option maxRecDepth 100000
end Go.Proofs.Ytopiiickeojpmaa
