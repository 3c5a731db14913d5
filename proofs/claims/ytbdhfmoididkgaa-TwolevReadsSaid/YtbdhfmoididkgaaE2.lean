/- Layer 9: symbol. -/
import Derived.Test.YtbdhfmoididkgaaE1
namespace Go.Proofs.Ytbdhfmoididkgaa
open Go.ChangeShapes Go.WideShapes Go.ChangeAt Go.RowKit
set_option linter.unusedVariables false
set_option maxRecDepth 100000
/-- The first symbol with that length and that code; -1: none. -/
def SymR (l c : List Int) (n v R : Int) : Prop :=
  (∃ s : Nat, s < l.length ∧ R = s ∧ l.getD s 0 = n ∧ c.getD s 0 = v ∧ ∀ j, j < s → ¬ (l.getD j 0 = n ∧ c.getD j 0 = v)) ∨ (R = -1 ∧ ∀ j, j < l.length → ¬ (l.getD j 0 = n ∧ c.getD j 0 = v))
end Go.Proofs.Ytbdhfmoididkgaa
