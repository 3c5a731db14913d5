import Derived.Test.YtipcdkemokkdfaaGreatK20
/- Layer 9: next. -/
namespace Go.Proofs.YtipcdkemokkdfaaGreat
open Go.ChangeShapes Go.WideShapes Go.ChangeAt Go.RowKit
set_option linter.unusedVariables false
set_option maxRecDepth 100000
end Go.Proofs.YtipcdkemokkdfaaGreat
