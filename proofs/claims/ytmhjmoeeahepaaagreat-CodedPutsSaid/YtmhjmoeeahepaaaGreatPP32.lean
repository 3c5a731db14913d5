import Derived.Test.YtmhjmoeeahepaaaGreatPP12
/- Layer 12: the document's Pack. -/
namespace Go.Proofs.YtmhjmoeeahepaaaGreat
open Go.ChangeShapes Go.WideShapes Go.ChangeAt Go.RowKit
set_option linter.unusedVariables false
set_option maxRecDepth 100000
open RunsMath
end Go.Proofs.YtmhjmoeeahepaaaGreat
