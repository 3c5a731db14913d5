import Derived.Test.YtipcdkemokkdfaaGreatK28
import Derived.Test.YtipcdkemokkdfaaGreatK19
/- Layer 24: Tables of a text of one symbol. -/
namespace Go.Proofs.YtipcdkemokkdfaaGreat
open Go.ChangeShapes Go.WideShapes Go.ChangeAt Go.RowKit
set_option linter.unusedVariables false
set_option linter.unusedSimpArgs false
set_option maxRecDepth 100000
end Go.Proofs.YtipcdkemokkdfaaGreat

/- Layer 24: the document's Check of prices. -/
namespace Go.Proofs.YtipcdkemokkdfaaGreat
open Go.ChangeShapes Go.WideShapes Go.ChangeAt Go.RowKit
set_option linter.unusedVariables false
set_option linter.unusedSimpArgs false
set_option maxRecDepth 100000
end Go.Proofs.YtipcdkemokkdfaaGreat

/- Layer 24: the chapter's example. -/
namespace Go.Proofs.YtipcdkemokkdfaaGreat
open Go.ChangeShapes Go.WideShapes Go.ChangeAt Go.RowKit
set_option linter.unusedVariables false
set_option linter.unusedSimpArgs false
set_option maxRecDepth 100000
theorem add_lit (x : Addr) (n : Nat) (h : n ≠ 0) : x.add n = ⟨x.block, x.off + n, none⟩ := by unfold Addr.add; simp [h]
end Go.Proofs.YtipcdkemokkdfaaGreat

/- Layer 7: what lengths cost, by both; whether they may be. -/
namespace Go.Proofs.YtipcdkemokkdfaaGreat
open Go.ChangeShapes Go.WideShapes Go.ChangeAt Go.RowKit
set_option linter.unusedVariables false
set_option linter.unusedSimpArgs false
set_option maxRecDepth 100000
open KraftMath Pm
end Go.Proofs.YtipcdkemokkdfaaGreat

/- Layer 7: may lengths be? -/
namespace Go.Proofs.YtipcdkemokkdfaaGreat
open Go.ChangeShapes Go.WideShapes Go.ChangeAt Go.RowKit
set_option linter.unusedVariables false
set_option linter.unusedSimpArgs false
set_option maxRecDepth 100000
open KraftMath Pm
end Go.Proofs.YtipcdkemokkdfaaGreat
