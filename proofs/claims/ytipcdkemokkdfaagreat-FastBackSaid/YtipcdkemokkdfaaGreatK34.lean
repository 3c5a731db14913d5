import Derived.Test.YtipcdkemokkdfaaGreatK20
/- Layer 12: the document's Pack. -/
namespace Go.Proofs.YtipcdkemokkdfaaGreat
open Go.ChangeShapes Go.WideShapes Go.ChangeAt Go.RowKit
set_option linter.unusedVariables false
set_option maxRecDepth 100000
open RunsMath
end Go.Proofs.YtipcdkemokkdfaaGreat
