/-
  No cell of these rows narrows 'for every input' (looked for: loops, veiled, ifaces, maps, wideKeys, modest, calm, conditions, laid).
  DERIVED. THE GIVEN ROWS OF THIS SEAT. 6 by the template 'for every input the law returns true; each argument reads behind the call as it read before'; 0 by the template 'total and deterministic' (their statements: YtpmlfanckconnaaTotals.lean).
  GIVEN WITH THE SEED: the statements are not yours to turn. If you find one false, say at which input.
  Laid BY PROGRAM, IN A SANDBOX (cutbox-rows.mjs): the forced cells as the released guide's own fill.sh prints them over the translation 8e4ad7871bac1976… (all of the seat's roots in one cut). By AI agents, Wed Nov 11 2026. No macro, syntax, notation, axiom, sorry.
-/
import Derived.Test.YtpmlfanckconnaaChecked
import GoSem.Claim
import GoSem.ClaimJoined
import GoSem.ClaimMapViews
import Derived.JoinedTies
import Derived.KernelRfl
namespace Go.Proofs.Ytpmlfanckconnaa
/- THE CELL 'sum', in the pinned program and in every row, IS THE sha256 OF THE DUMP (.gsa) THAT YtpmlfanckconnaaProg.lean LOADS. Nothing in Lean hashes anything: it is a label: what it is worth is what the hold of that sum in a sandbox is worth. -/
noncomputable def Try.pinned : Pinned := { name := "ytpmlfanckconnaa", sum := "8e4ad7871bac197646fa12680367497f2511928b6247b6165d68d69fda7f1b09", checked := Try.checked }
namespace Rows
def none {H : Type} : Left H := { results := [], args := [] }

/-- 'gladstonelaw14.WeightWholes': WHATEVER THE INPUT: true; the input reads as it did. -/
def weightWholesSpec : ChangeSpec := { name := "weightWholes", fn := fun _ => fun
  | [d1, d2, d3] => { results := [.lit (.bool true)], args := [d1, d2, d3] }
  | _ => none }
def weightWholesRow : OpenClaim := { program := "ytpmlfanckconnaa", sum := "8e4ad7871bac197646fa12680367497f2511928b6247b6165d68d69fda7f1b09", func := "gladstone/gladstonelaw14.WeightWholes", spec := "weightWholes", inPlace := ["math.archFloor", "math.Float64bits", "math.Float64frombits", "math.archTrunc"], unfollowed := true, recurses := true, apart := false }
def WeightWholesSaid : Prop := weightWholesRow.holds Try.pinned (OpenSpec.ofChange weightWholesSpec)

/-- ITS FALSE NEIGHBOUR: 'it returns false'. Refute it at one input. -/
def weightWholesWrong : ChangeSpec := { name := "weightWholes", fn := fun _ => fun
  | [d1, d2, d3] => { results := [.lit (.bool false)], args := [d1, d2, d3] }
  | _ => none }
def WeightWholesWrongFalsely : Prop := weightWholesRow.holds Try.pinned (OpenSpec.ofChange weightWholesWrong)

/-- 'gladstonelaw14.WeightMixes': WHATEVER THE INPUT: true; the input reads as it did. -/
def weightMixesSpec : ChangeSpec := { name := "weightMixes", fn := fun _ => fun
  | [d1, d2, d3] => { results := [.lit (.bool true)], args := [d1, d2, d3] }
  | _ => none }
def weightMixesRow : OpenClaim := { program := "ytpmlfanckconnaa", sum := "8e4ad7871bac197646fa12680367497f2511928b6247b6165d68d69fda7f1b09", func := "gladstone/gladstonelaw14.WeightMixes", spec := "weightMixes", inPlace := ["math.archFloor", "math.Float64bits", "math.Float64frombits", "math.archTrunc"], unfollowed := true, recurses := true, apart := false }
def WeightMixesSaid : Prop := weightMixesRow.holds Try.pinned (OpenSpec.ofChange weightMixesSpec)

/-- ITS FALSE NEIGHBOUR: 'it returns false'. Refute it at one input. -/
def weightMixesWrong : ChangeSpec := { name := "weightMixes", fn := fun _ => fun
  | [d1, d2, d3] => { results := [.lit (.bool false)], args := [d1, d2, d3] }
  | _ => none }
def WeightMixesWrongFalsely : Prop := weightMixesRow.holds Try.pinned (OpenSpec.ofChange weightMixesWrong)

/-- 'gladstonelaw14.WeightBetween': WHATEVER THE INPUT: true; the input reads as it did. -/
def weightBetweenSpec : ChangeSpec := { name := "weightBetween", fn := fun _ => fun
  | [d1, d2, d3] => { results := [.lit (.bool true)], args := [d1, d2, d3] }
  | _ => none }
def weightBetweenRow : OpenClaim := { program := "ytpmlfanckconnaa", sum := "8e4ad7871bac197646fa12680367497f2511928b6247b6165d68d69fda7f1b09", func := "gladstone/gladstonelaw14.WeightBetween", spec := "weightBetween", inPlace := ["math.archFloor", "math.Float64bits", "math.Float64frombits", "math.archTrunc"], unfollowed := true, recurses := true, apart := false }
def WeightBetweenSaid : Prop := weightBetweenRow.holds Try.pinned (OpenSpec.ofChange weightBetweenSpec)

/-- ITS FALSE NEIGHBOUR: 'it returns false'. Refute it at one input. -/
def weightBetweenWrong : ChangeSpec := { name := "weightBetween", fn := fun _ => fun
  | [d1, d2, d3] => { results := [.lit (.bool false)], args := [d1, d2, d3] }
  | _ => none }
def WeightBetweenWrongFalsely : Prop := weightBetweenRow.holds Try.pinned (OpenSpec.ofChange weightBetweenWrong)

/-- 'gladstonelaw24.CountFreqs': WHATEVER THE INPUT: true; the input reads as it did. -/
def countFreqsSpec : ChangeSpec := { name := "countFreqs", fn := fun _ => fun
  | [d1, d2, d3] => { results := [.lit (.bool true)], args := [d1, d2, d3] }
  | _ => none }
def countFreqsRow : OpenClaim := { program := "ytpmlfanckconnaa", sum := "8e4ad7871bac197646fa12680367497f2511928b6247b6165d68d69fda7f1b09", func := "gladstone/gladstonelaw24.CountFreqs", spec := "countFreqs", unfollowed := true, recurses := true, apart := false }
def CountFreqsSaid : Prop := countFreqsRow.holds Try.pinned (OpenSpec.ofChange countFreqsSpec)

/-- ITS FALSE NEIGHBOUR: 'it returns false'. Refute it at one input. -/
def countFreqsWrong : ChangeSpec := { name := "countFreqs", fn := fun _ => fun
  | [d1, d2, d3] => { results := [.lit (.bool false)], args := [d1, d2, d3] }
  | _ => none }
def CountFreqsWrongFalsely : Prop := countFreqsRow.holds Try.pinned (OpenSpec.ofChange countFreqsWrong)

/-- 'gladstonelaw43.GramsCount': WHATEVER THE INPUT: true; the input reads as it did. -/
def gramsCountSpec : ChangeSpec := { name := "gramsCount", fn := fun _ => fun
  | [d1, d2, d3] => { results := [.lit (.bool true)], args := [d1, d2, d3] }
  | _ => none }
def gramsCountRow : OpenClaim := { program := "ytpmlfanckconnaa", sum := "8e4ad7871bac197646fa12680367497f2511928b6247b6165d68d69fda7f1b09", func := "gladstone/gladstonelaw43.GramsCount", spec := "gramsCount", inPlace := ["internal/abi.NoEscape", "internal/bytealg.MakeNoZero"], unfollowed := true, recurses := true, apart := false }
def GramsCountSaid : Prop := gramsCountRow.holds Try.pinned (OpenSpec.ofChange gramsCountSpec)

/-- ITS FALSE NEIGHBOUR: 'it returns false'. Refute it at one input. -/
def gramsCountWrong : ChangeSpec := { name := "gramsCount", fn := fun _ => fun
  | [d1, d2, d3] => { results := [.lit (.bool false)], args := [d1, d2, d3] }
  | _ => none }
def GramsCountWrongFalsely : Prop := gramsCountRow.holds Try.pinned (OpenSpec.ofChange gramsCountWrong)

/-- 'gladstonelaw43.GramsHold': WHATEVER THE INPUT: true; the input reads as it did. -/
def gramsHoldSpec : ChangeSpec := { name := "gramsHold", fn := fun _ => fun
  | [d1, d2, d3] => { results := [.lit (.bool true)], args := [d1, d2, d3] }
  | _ => none }
def gramsHoldRow : OpenClaim := { program := "ytpmlfanckconnaa", sum := "8e4ad7871bac197646fa12680367497f2511928b6247b6165d68d69fda7f1b09", func := "gladstone/gladstonelaw43.GramsHold", spec := "gramsHold", inPlace := ["internal/abi.NoEscape", "internal/bytealg.MakeNoZero"], unfollowed := true, recurses := true, apart := false }
def GramsHoldSaid : Prop := gramsHoldRow.holds Try.pinned (OpenSpec.ofChange gramsHoldSpec)

/-- ITS FALSE NEIGHBOUR: 'it returns false'. Refute it at one input. -/
def gramsHoldWrong : ChangeSpec := { name := "gramsHold", fn := fun _ => fun
  | [d1, d2, d3] => { results := [.lit (.bool false)], args := [d1, d2, d3] }
  | _ => none }
def GramsHoldWrongFalsely : Prop := gramsHoldRow.holds Try.pinned (OpenSpec.ofChange gramsHoldWrong)

/- THE SECOND FORM. 'bulk': how many values and letters a reading holds, each counted each time it is reached (what is shared counts as often as it is met; a slice's spare places count too). A statement '..UptoSaid' is the law's where the arguments, and the package variables that the reading takes, are together of bulk at most 1048576: NARROWER than '..Said'. Prove '..Said' where nothing that the law and all that it calls make is longer than what came in: it says more and counts as full. Else prove '..UptoSaid'. A law counts once. -/
mutual
def uptoBulk {H : Type} : DataW H → Nat
  | .lit (.string bytes) => bytes.length + 1
  | .lit _ => 1
  | .nil => 1
  | .ptr d => uptoBulk d + 1
  | .slice elems spare => uptoBulkAll elems + uptoBulkAll spare + 1
  | .agg parts => uptoBulkAll parts + 1
  | .iface _ d => uptoBulk d + 1
  | .map entries => uptoBulkEntries entries + 1
  | .held _ => 1
def uptoBulkAll {H : Type} : List (DataW H) → Nat
  | [] => 0
  | d :: r => uptoBulk d + uptoBulkAll r
def uptoBulkEntries {H : Type} : List (Lit × DataW H) → Nat
  | [] => 0
  | x :: r => uptoBulkEntry x + uptoBulkEntries r
def uptoBulkEntry {H : Type} : Lit × DataW H → Nat
  | (.string bytes, d) => bytes.length + uptoBulk d + 1
  | (_, d) => uptoBulk d + 1
 end
def uptoSmall : (H : Type) → List (DataW H) → Bool := fun _ ds => decide (uptoBulkAll ds ≤ 1048576)
def OpenSpec.upto (s : _root_.Go.ChangeSpec) : _root_.Go.OpenSpec := { _root_.Go.OpenSpec.ofChange s with cond := some uptoSmall }

/-- 'gladstonelaw14.WeightWholes', WHERE WHAT IT READS IS OF BULK AT MOST 1048576: true; the input reads as it did. -/
def weightWholesUptoRow : OpenClaim := { program := "ytpmlfanckconnaa", sum := "8e4ad7871bac197646fa12680367497f2511928b6247b6165d68d69fda7f1b09", func := "gladstone/gladstonelaw14.WeightWholes", spec := "weightWholes", inPlace := ["math.archFloor", "math.Float64bits", "math.Float64frombits", "math.archTrunc"], unfollowed := true, recurses := true, apart := false, narrowed := true }
def WeightWholesUptoSaid : Prop := weightWholesUptoRow.holds Try.pinned (OpenSpec.upto weightWholesSpec)

/-- 'gladstonelaw14.WeightMixes', WHERE WHAT IT READS IS OF BULK AT MOST 1048576: true; the input reads as it did. -/
def weightMixesUptoRow : OpenClaim := { program := "ytpmlfanckconnaa", sum := "8e4ad7871bac197646fa12680367497f2511928b6247b6165d68d69fda7f1b09", func := "gladstone/gladstonelaw14.WeightMixes", spec := "weightMixes", inPlace := ["math.archFloor", "math.Float64bits", "math.Float64frombits", "math.archTrunc"], unfollowed := true, recurses := true, apart := false, narrowed := true }
def WeightMixesUptoSaid : Prop := weightMixesUptoRow.holds Try.pinned (OpenSpec.upto weightMixesSpec)

/-- 'gladstonelaw14.WeightBetween', WHERE WHAT IT READS IS OF BULK AT MOST 1048576: true; the input reads as it did. -/
def weightBetweenUptoRow : OpenClaim := { program := "ytpmlfanckconnaa", sum := "8e4ad7871bac197646fa12680367497f2511928b6247b6165d68d69fda7f1b09", func := "gladstone/gladstonelaw14.WeightBetween", spec := "weightBetween", inPlace := ["math.archFloor", "math.Float64bits", "math.Float64frombits", "math.archTrunc"], unfollowed := true, recurses := true, apart := false, narrowed := true }
def WeightBetweenUptoSaid : Prop := weightBetweenUptoRow.holds Try.pinned (OpenSpec.upto weightBetweenSpec)

/-- 'gladstonelaw24.CountFreqs', WHERE WHAT IT READS IS OF BULK AT MOST 1048576: true; the input reads as it did. -/
def countFreqsUptoRow : OpenClaim := { program := "ytpmlfanckconnaa", sum := "8e4ad7871bac197646fa12680367497f2511928b6247b6165d68d69fda7f1b09", func := "gladstone/gladstonelaw24.CountFreqs", spec := "countFreqs", unfollowed := true, recurses := true, apart := false, narrowed := true }
def CountFreqsUptoSaid : Prop := countFreqsUptoRow.holds Try.pinned (OpenSpec.upto countFreqsSpec)

/-- 'gladstonelaw43.GramsCount', WHERE WHAT IT READS IS OF BULK AT MOST 1048576: true; the input reads as it did. -/
def gramsCountUptoRow : OpenClaim := { program := "ytpmlfanckconnaa", sum := "8e4ad7871bac197646fa12680367497f2511928b6247b6165d68d69fda7f1b09", func := "gladstone/gladstonelaw43.GramsCount", spec := "gramsCount", inPlace := ["internal/abi.NoEscape", "internal/bytealg.MakeNoZero"], unfollowed := true, recurses := true, apart := false, narrowed := true }
def GramsCountUptoSaid : Prop := gramsCountUptoRow.holds Try.pinned (OpenSpec.upto gramsCountSpec)

/-- 'gladstonelaw43.GramsHold', WHERE WHAT IT READS IS OF BULK AT MOST 1048576: true; the input reads as it did. -/
def gramsHoldUptoRow : OpenClaim := { program := "ytpmlfanckconnaa", sum := "8e4ad7871bac197646fa12680367497f2511928b6247b6165d68d69fda7f1b09", func := "gladstone/gladstonelaw43.GramsHold", spec := "gramsHold", inPlace := ["internal/abi.NoEscape", "internal/bytealg.MakeNoZero"], unfollowed := true, recurses := true, apart := false, narrowed := true }
def GramsHoldUptoSaid : Prop := gramsHoldUptoRow.holds Try.pinned (OpenSpec.upto gramsHoldSpec)

end Rows
end Go.Proofs.Ytpmlfanckconnaa
