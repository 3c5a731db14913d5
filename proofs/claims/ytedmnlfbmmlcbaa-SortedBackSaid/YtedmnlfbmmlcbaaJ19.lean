import Derived.Test.YtedmnlfbmmlcbaaJ18
/- Layer 41: chains of places that begin with the same two bytes (mathematics). -/
namespace Go.Proofs.Ytedmnlfbmmlcbaa
open Go.ChangeShapes Go.WideShapes Go.ChangeAt Go.RowKit
set_option linter.unusedVariables false
set_option linter.unusedSimpArgs false
set_option maxRecDepth 100000
end Go.Proofs.Ytedmnlfbmmlcbaa

/- Layer 19: Ranks, and the document's; Is. -/
namespace Go.Proofs.Ytedmnlfbmmlcbaa
open Go.ChangeShapes Go.WideShapes Go.ChangeAt Go.RowKit
set_option linter.unusedVariables false
set_option linter.unusedSimpArgs false
set_option maxRecDepth 100000
theorem listI_ext (o m : List Int) (h : o.length = m.length) (hg : ∀ i, i < o.length → o.getD i 0 = m.getD i 0) : o = m := by
  apply List.ext_getElem h
  intro i h1 h2
  have := hg i h1
  rwa [List.getD_eq_getElem?_getD, List.getElem?_eq_getElem h1, List.getD_eq_getElem?_getD, List.getElem?_eq_getElem h2] at this
end Go.Proofs.Ytedmnlfbmmlcbaa

/- Layer 19: Is. -/
namespace Go.Proofs.Ytedmnlfbmmlcbaa
open Go.ChangeShapes Go.WideShapes Go.ChangeAt Go.RowKit
set_option linter.unusedVariables false
set_option linter.unusedSimpArgs false
set_option maxRecDepth 100000
theorem nbr_iff (L : List UInt8) (l : List Int) (a : List Nat) (j : Nat) : Nbr L l a j ↔ (byteAtU L (a.getD (j - 1) 0) ≤ byteAtU L (a.getD j 0) ∧ (byteAtU L (a.getD (j - 1) 0) = byteAtU L (a.getD j 0) → ofR l L.length (a.getD (j - 1) 0 + 1) ≤ ofR l L.length (a.getD j 0 + 1))) := Iff.rfl
end Go.Proofs.Ytedmnlfbmmlcbaa
