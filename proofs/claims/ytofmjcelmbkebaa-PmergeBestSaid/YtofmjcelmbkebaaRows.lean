/-
  No cell of these rows narrows 'for every input' (looked for: loops, veiled, ifaces, maps, wideKeys, modest, calm, conditions, laid).
  DERIVED. THE GIVEN ROWS OF THIS SEAT. 5 by the template 'for every input the law returns true; each argument reads behind the call as it read before'; 0 by the template 'total and deterministic' (their statements: YtofmjcelmbkebaaTotals.lean).
  GIVEN WITH THE SEED: the statements are not yours to turn. If you find one false, say at which input.
  Laid BY PROGRAM, IN A SANDBOX (cutbox-rows.mjs): the forced cells as the released guide's own fill.sh prints them over the translation 21c9436e372bfbb1… (all of the seat's roots in one cut). By AI agents, Wed Nov 11 2026. No macro, syntax, notation, axiom, sorry.
-/
import Derived.Test.YtofmjcelmbkebaaChecked
import GoSem.Claim
import GoSem.ClaimJoined
import GoSem.ClaimMapViews
import Derived.JoinedTies
import Derived.KernelRfl
namespace Go.Proofs.Ytofmjcelmbkebaa
/- THE CELL 'sum', in the pinned program and in every row, IS THE sha256 OF THE DUMP (.gsa) THAT YtofmjcelmbkebaaProg.lean LOADS. Nothing in Lean hashes anything: it is a label: what it is worth is what the hold of that sum in a sandbox is worth. -/
noncomputable def Try.pinned : Pinned := { name := "ytofmjcelmbkebaa", sum := "21c9436e372bfbb1801e48624be53024ef8ecde1e6e704bfa9dffe85f99d43c5", checked := Try.checked }
namespace Rows
def none {H : Type} : Left H := { results := [], args := [] }

/-- 'gladstonelaw07.PmergeMay': WHATEVER THE INPUT: true; the input reads as it did. -/
def pmergeMaySpec : ChangeSpec := { name := "pmergeMay", fn := fun _ => fun
  | [d1, d2] => { results := [.lit (.bool true)], args := [d1, d2] }
  | _ => none }
def pmergeMayRow : OpenClaim := { program := "ytofmjcelmbkebaa", sum := "21c9436e372bfbb1801e48624be53024ef8ecde1e6e704bfa9dffe85f99d43c5", func := "gladstone/gladstonelaw07.PmergeMay", spec := "pmergeMay", unfollowed := true, recurses := true, apart := false }
def PmergeMaySaid : Prop := pmergeMayRow.holds Try.pinned (OpenSpec.ofChange pmergeMaySpec)

/-- ITS FALSE NEIGHBOUR: 'it returns false'. Refute it at one input. -/
def pmergeMayWrong : ChangeSpec := { name := "pmergeMay", fn := fun _ => fun
  | [d1, d2] => { results := [.lit (.bool false)], args := [d1, d2] }
  | _ => none }
def PmergeMayWrongFalsely : Prop := pmergeMayRow.holds Try.pinned (OpenSpec.ofChange pmergeMayWrong)

/-- 'gladstonelaw07.PmergeCosts': WHATEVER THE INPUT: true; the input reads as it did. -/
def pmergeCostsSpec : ChangeSpec := { name := "pmergeCosts", fn := fun _ => fun
  | [d1, d2] => { results := [.lit (.bool true)], args := [d1, d2] }
  | _ => none }
def pmergeCostsRow : OpenClaim := { program := "ytofmjcelmbkebaa", sum := "21c9436e372bfbb1801e48624be53024ef8ecde1e6e704bfa9dffe85f99d43c5", func := "gladstone/gladstonelaw07.PmergeCosts", spec := "pmergeCosts", unfollowed := true, recurses := true, apart := false }
def PmergeCostsSaid : Prop := pmergeCostsRow.holds Try.pinned (OpenSpec.ofChange pmergeCostsSpec)

/-- ITS FALSE NEIGHBOUR: 'it returns false'. Refute it at one input. -/
def pmergeCostsWrong : ChangeSpec := { name := "pmergeCosts", fn := fun _ => fun
  | [d1, d2] => { results := [.lit (.bool false)], args := [d1, d2] }
  | _ => none }
def PmergeCostsWrongFalsely : Prop := pmergeCostsRow.holds Try.pinned (OpenSpec.ofChange pmergeCostsWrong)

/-- 'gladstonelaw07.PmergeBest': WHATEVER THE INPUT: true; the input reads as it did. -/
def pmergeBestSpec : ChangeSpec := { name := "pmergeBest", fn := fun _ => fun
  | [d1, d2] => { results := [.lit (.bool true)], args := [d1, d2] }
  | _ => none }
def pmergeBestRow : OpenClaim := { program := "ytofmjcelmbkebaa", sum := "21c9436e372bfbb1801e48624be53024ef8ecde1e6e704bfa9dffe85f99d43c5", func := "gladstone/gladstonelaw07.PmergeBest", spec := "pmergeBest", unfollowed := true, recurses := true, apart := false }
def PmergeBestSaid : Prop := pmergeBestRow.holds Try.pinned (OpenSpec.ofChange pmergeBestSpec)

/-- ITS FALSE NEIGHBOUR: 'it returns false'. Refute it at one input. -/
def pmergeBestWrong : ChangeSpec := { name := "pmergeBest", fn := fun _ => fun
  | [d1, d2] => { results := [.lit (.bool false)], args := [d1, d2] }
  | _ => none }
def PmergeBestWrongFalsely : Prop := pmergeBestRow.holds Try.pinned (OpenSpec.ofChange pmergeBestWrong)

/-- 'gladstonelaw07.PmergeFalls': WHATEVER THE INPUT: true; the input reads as it did. -/
def pmergeFallsSpec : ChangeSpec := { name := "pmergeFalls", fn := fun _ => fun
  | [d1, d2] => { results := [.lit (.bool true)], args := [d1, d2] }
  | _ => none }
def pmergeFallsRow : OpenClaim := { program := "ytofmjcelmbkebaa", sum := "21c9436e372bfbb1801e48624be53024ef8ecde1e6e704bfa9dffe85f99d43c5", func := "gladstone/gladstonelaw07.PmergeFalls", spec := "pmergeFalls", unfollowed := true, recurses := true, apart := false }
def PmergeFallsSaid : Prop := pmergeFallsRow.holds Try.pinned (OpenSpec.ofChange pmergeFallsSpec)

/-- ITS FALSE NEIGHBOUR: 'it returns false'. Refute it at one input. -/
def pmergeFallsWrong : ChangeSpec := { name := "pmergeFalls", fn := fun _ => fun
  | [d1, d2] => { results := [.lit (.bool false)], args := [d1, d2] }
  | _ => none }
def PmergeFallsWrongFalsely : Prop := pmergeFallsRow.holds Try.pinned (OpenSpec.ofChange pmergeFallsWrong)

/-- 'gladstonelaw24.CountTables': WHATEVER THE INPUT: true; the input reads as it did. -/
def countTablesSpec : ChangeSpec := { name := "countTables", fn := fun _ => fun
  | [d] => { results := [.lit (.bool true)], args := [d] }
  | _ => none }
def countTablesRow : OpenClaim := { program := "ytofmjcelmbkebaa", sum := "21c9436e372bfbb1801e48624be53024ef8ecde1e6e704bfa9dffe85f99d43c5", func := "gladstone/gladstonelaw24.CountTables", spec := "countTables", unfollowed := true, recurses := true, apart := false }
def CountTablesSaid : Prop := countTablesRow.holds Try.pinned (OpenSpec.ofChange countTablesSpec)

/-- ITS FALSE NEIGHBOUR: 'it returns false'. Refute it at one input. -/
def countTablesWrong : ChangeSpec := { name := "countTables", fn := fun _ => fun
  | [d] => { results := [.lit (.bool false)], args := [d] }
  | _ => none }
def CountTablesWrongFalsely : Prop := countTablesRow.holds Try.pinned (OpenSpec.ofChange countTablesWrong)

/- THE SECOND FORM. 'bulk': how many values and letters a reading holds, each counted each time it is reached (what is shared counts as often as it is met; a slice's spare places count too). A statement '..UptoSaid' is the law's where the arguments, and the package variables that the reading takes, are together of bulk at most 1048576: NARROWER than '..Said'. Prove '..Said' where nothing that the law and all that it calls make is longer than what came in: it says more and counts as full. Else prove '..UptoSaid'. A law counts once. -/
mutual
def uptoBulk {H : Type} : DataW H → Nat
  | .lit (.string bytes) => bytes.length + 1
  | .lit _ => 1
  | .nil => 1
  | .ptr d => uptoBulk d + 1
  | .slice elems spare => uptoBulkAll elems + uptoBulkAll spare + 1
  | .agg parts => uptoBulkAll parts + 1
  | .iface _ d => uptoBulk d + 1
  | .map entries => uptoBulkEntries entries + 1
  | .held _ => 1
def uptoBulkAll {H : Type} : List (DataW H) → Nat
  | [] => 0
  | d :: r => uptoBulk d + uptoBulkAll r
def uptoBulkEntries {H : Type} : List (Lit × DataW H) → Nat
  | [] => 0
  | x :: r => uptoBulkEntry x + uptoBulkEntries r
def uptoBulkEntry {H : Type} : Lit × DataW H → Nat
  | (.string bytes, d) => bytes.length + uptoBulk d + 1
  | (_, d) => uptoBulk d + 1
 end
def uptoSmall : (H : Type) → List (DataW H) → Bool := fun _ ds => decide (uptoBulkAll ds ≤ 1048576)
def OpenSpec.upto (s : _root_.Go.ChangeSpec) : _root_.Go.OpenSpec := { _root_.Go.OpenSpec.ofChange s with cond := some uptoSmall }

/-- 'gladstonelaw07.PmergeMay', WHERE WHAT IT READS IS OF BULK AT MOST 1048576: true; the input reads as it did. -/
def pmergeMayUptoRow : OpenClaim := { program := "ytofmjcelmbkebaa", sum := "21c9436e372bfbb1801e48624be53024ef8ecde1e6e704bfa9dffe85f99d43c5", func := "gladstone/gladstonelaw07.PmergeMay", spec := "pmergeMay", unfollowed := true, recurses := true, apart := false, narrowed := true }
def PmergeMayUptoSaid : Prop := pmergeMayUptoRow.holds Try.pinned (OpenSpec.upto pmergeMaySpec)

/-- 'gladstonelaw07.PmergeCosts', WHERE WHAT IT READS IS OF BULK AT MOST 1048576: true; the input reads as it did. -/
def pmergeCostsUptoRow : OpenClaim := { program := "ytofmjcelmbkebaa", sum := "21c9436e372bfbb1801e48624be53024ef8ecde1e6e704bfa9dffe85f99d43c5", func := "gladstone/gladstonelaw07.PmergeCosts", spec := "pmergeCosts", unfollowed := true, recurses := true, apart := false, narrowed := true }
def PmergeCostsUptoSaid : Prop := pmergeCostsUptoRow.holds Try.pinned (OpenSpec.upto pmergeCostsSpec)

/-- 'gladstonelaw07.PmergeBest', WHERE WHAT IT READS IS OF BULK AT MOST 1048576: true; the input reads as it did. -/
def pmergeBestUptoRow : OpenClaim := { program := "ytofmjcelmbkebaa", sum := "21c9436e372bfbb1801e48624be53024ef8ecde1e6e704bfa9dffe85f99d43c5", func := "gladstone/gladstonelaw07.PmergeBest", spec := "pmergeBest", unfollowed := true, recurses := true, apart := false, narrowed := true }
def PmergeBestUptoSaid : Prop := pmergeBestUptoRow.holds Try.pinned (OpenSpec.upto pmergeBestSpec)

/-- 'gladstonelaw07.PmergeFalls', WHERE WHAT IT READS IS OF BULK AT MOST 1048576: true; the input reads as it did. -/
def pmergeFallsUptoRow : OpenClaim := { program := "ytofmjcelmbkebaa", sum := "21c9436e372bfbb1801e48624be53024ef8ecde1e6e704bfa9dffe85f99d43c5", func := "gladstone/gladstonelaw07.PmergeFalls", spec := "pmergeFalls", unfollowed := true, recurses := true, apart := false, narrowed := true }
def PmergeFallsUptoSaid : Prop := pmergeFallsUptoRow.holds Try.pinned (OpenSpec.upto pmergeFallsSpec)

/-- 'gladstonelaw24.CountTables', WHERE WHAT IT READS IS OF BULK AT MOST 1048576: true; the input reads as it did. -/
def countTablesUptoRow : OpenClaim := { program := "ytofmjcelmbkebaa", sum := "21c9436e372bfbb1801e48624be53024ef8ecde1e6e704bfa9dffe85f99d43c5", func := "gladstone/gladstonelaw24.CountTables", spec := "countTables", unfollowed := true, recurses := true, apart := false, narrowed := true }
def CountTablesUptoSaid : Prop := countTablesUptoRow.holds Try.pinned (OpenSpec.upto countTablesSpec)

end Rows
end Go.Proofs.Ytofmjcelmbkebaa
