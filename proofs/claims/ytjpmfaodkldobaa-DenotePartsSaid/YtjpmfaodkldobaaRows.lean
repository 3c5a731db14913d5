/-
  No cell of these rows narrows 'for every input' (looked for: loops, veiled, ifaces, maps, wideKeys, modest, calm, conditions, laid).
  DERIVED. THE GIVEN ROWS OF THIS SEAT. 12 by the template 'for every input the law returns true; each argument reads behind the call as it read before'; 0 by the template 'total and deterministic' (their statements: YtjpmfaodkldobaaTotals.lean).
  GIVEN WITH THE SEED: the statements are not yours to turn. If you find one false, say at which input.
  Laid BY PROGRAM, IN A SANDBOX (cutbox-rows.mjs): the forced cells as the released guide's own fill.sh prints them over the translation 9268cb8ff4b423a4… (all of the seat's roots in one cut). By AI agents, Wed Nov 11 2026. No macro, syntax, notation, axiom, sorry.
-/
import Derived.Test.YtjpmfaodkldobaaChecked
import GoSem.Claim
import GoSem.ClaimJoined
import GoSem.ClaimMapViews
import Derived.JoinedTies
import Derived.KernelRfl
namespace Go.Proofs.Ytjpmfaodkldobaa
/- THE CELL 'sum', in the pinned program and in every row, IS THE sha256 OF THE DUMP (.gsa) THAT YtjpmfaodkldobaaProg.lean LOADS. Nothing in Lean hashes anything: it is a label: what it is worth is what the hold of that sum in a sandbox is worth. -/
noncomputable def Try.pinned : Pinned := { name := "ytjpmfaodkldobaa", sum := "9268cb8ff4b423a49a0018efe52237bc002650cb7663c043063edbb8758cc301", checked := Try.checked }
namespace Rows
def none {H : Type} : Left H := { results := [], args := [] }

/-- 'gladstonelaw10.FlatNone': WHATEVER THE INPUT: true; the input reads as it did. -/
def flatNoneSpec : ChangeSpec := { name := "flatNone", fn := fun _ => fun
  | [d] => { results := [.lit (.bool true)], args := [d] }
  | _ => none }
def flatNoneRow : OpenClaim := { program := "ytjpmfaodkldobaa", sum := "9268cb8ff4b423a49a0018efe52237bc002650cb7663c043063edbb8758cc301", func := "gladstone/gladstonelaw10.FlatNone", spec := "flatNone", apart := false }
def FlatNoneSaid : Prop := flatNoneRow.holds Try.pinned (OpenSpec.ofChange flatNoneSpec)

/-- ITS FALSE NEIGHBOUR: 'it returns false'. Refute it at one input. -/
def flatNoneWrong : ChangeSpec := { name := "flatNone", fn := fun _ => fun
  | [d] => { results := [.lit (.bool false)], args := [d] }
  | _ => none }
def FlatNoneWrongFalsely : Prop := flatNoneRow.holds Try.pinned (OpenSpec.ofChange flatNoneWrong)

/-- 'gladstonelaw18.DenoteCopies': WHATEVER THE INPUT: true; the input reads as it did. -/
def denoteCopiesSpec : ChangeSpec := { name := "denoteCopies", fn := fun _ => fun
  | [d1, d2, d3] => { results := [.lit (.bool true)], args := [d1, d2, d3] }
  | _ => none }
def denoteCopiesRow : OpenClaim := { program := "ytjpmfaodkldobaa", sum := "9268cb8ff4b423a49a0018efe52237bc002650cb7663c043063edbb8758cc301", func := "gladstone/gladstonelaw18.DenoteCopies", spec := "denoteCopies", apart := false }
def DenoteCopiesSaid : Prop := denoteCopiesRow.holds Try.pinned (OpenSpec.ofChange denoteCopiesSpec)

/-- ITS FALSE NEIGHBOUR: 'it returns false'. Refute it at one input. -/
def denoteCopiesWrong : ChangeSpec := { name := "denoteCopies", fn := fun _ => fun
  | [d1, d2, d3] => { results := [.lit (.bool false)], args := [d1, d2, d3] }
  | _ => none }
def DenoteCopiesWrongFalsely : Prop := denoteCopiesRow.holds Try.pinned (OpenSpec.ofChange denoteCopiesWrong)

/-- 'gladstonelaw18.DenoteApplies': WHATEVER THE INPUT: true; the input reads as it did. -/
def denoteAppliesSpec : ChangeSpec := { name := "denoteApplies", fn := fun _ => fun
  | [d1, d2] => { results := [.lit (.bool true)], args := [d1, d2] }
  | _ => none }
def denoteAppliesRow : OpenClaim := { program := "ytjpmfaodkldobaa", sum := "9268cb8ff4b423a49a0018efe52237bc002650cb7663c043063edbb8758cc301", func := "gladstone/gladstonelaw18.DenoteApplies", spec := "denoteApplies", apart := false }
def DenoteAppliesSaid : Prop := denoteAppliesRow.holds Try.pinned (OpenSpec.ofChange denoteAppliesSpec)

/-- ITS FALSE NEIGHBOUR: 'it returns false'. Refute it at one input. -/
def denoteAppliesWrong : ChangeSpec := { name := "denoteApplies", fn := fun _ => fun
  | [d1, d2] => { results := [.lit (.bool false)], args := [d1, d2] }
  | _ => none }
def DenoteAppliesWrongFalsely : Prop := denoteAppliesRow.holds Try.pinned (OpenSpec.ofChange denoteAppliesWrong)

/-- 'gladstonelaw18.DenoteParts': WHATEVER THE INPUT: true; the input reads as it did. -/
def denotePartsSpec : ChangeSpec := { name := "denoteParts", fn := fun _ => fun
  | [d1, d2] => { results := [.lit (.bool true)], args := [d1, d2] }
  | _ => none }
def denotePartsRow : OpenClaim := { program := "ytjpmfaodkldobaa", sum := "9268cb8ff4b423a49a0018efe52237bc002650cb7663c043063edbb8758cc301", func := "gladstone/gladstonelaw18.DenoteParts", spec := "denoteParts", apart := false }
def DenotePartsSaid : Prop := denotePartsRow.holds Try.pinned (OpenSpec.ofChange denotePartsSpec)

/-- ITS FALSE NEIGHBOUR: 'it returns false'. Refute it at one input. -/
def denotePartsWrong : ChangeSpec := { name := "denoteParts", fn := fun _ => fun
  | [d1, d2] => { results := [.lit (.bool false)], args := [d1, d2] }
  | _ => none }
def DenotePartsWrongFalsely : Prop := denotePartsRow.holds Try.pinned (OpenSpec.ofChange denotePartsWrong)

/-- 'gladstonelaw29.WindowPlays': WHATEVER THE INPUT: true; the input reads as it did. -/
def windowPlaysSpec : ChangeSpec := { name := "windowPlays", fn := fun _ => fun
  | [d1, d2, d3] => { results := [.lit (.bool true)], args := [d1, d2, d3] }
  | _ => none }
def windowPlaysRow : OpenClaim := { program := "ytjpmfaodkldobaa", sum := "9268cb8ff4b423a49a0018efe52237bc002650cb7663c043063edbb8758cc301", func := "gladstone/gladstonelaw29.WindowPlays", spec := "windowPlays", apart := false }
def WindowPlaysSaid : Prop := windowPlaysRow.holds Try.pinned (OpenSpec.ofChange windowPlaysSpec)

/-- ITS FALSE NEIGHBOUR: 'it returns false'. Refute it at one input. -/
def windowPlaysWrong : ChangeSpec := { name := "windowPlays", fn := fun _ => fun
  | [d1, d2, d3] => { results := [.lit (.bool false)], args := [d1, d2, d3] }
  | _ => none }
def WindowPlaysWrongFalsely : Prop := windowPlaysRow.holds Try.pinned (OpenSpec.ofChange windowPlaysWrong)

/-- 'gladstonelaw29.WindowForgets': WHATEVER THE INPUT: true; the input reads as it did. -/
def windowForgetsSpec : ChangeSpec := { name := "windowForgets", fn := fun _ => fun
  | [d1, d2, d3] => { results := [.lit (.bool true)], args := [d1, d2, d3] }
  | _ => none }
def windowForgetsRow : OpenClaim := { program := "ytjpmfaodkldobaa", sum := "9268cb8ff4b423a49a0018efe52237bc002650cb7663c043063edbb8758cc301", func := "gladstone/gladstonelaw29.WindowForgets", spec := "windowForgets", apart := false }
def WindowForgetsSaid : Prop := windowForgetsRow.holds Try.pinned (OpenSpec.ofChange windowForgetsSpec)

/-- ITS FALSE NEIGHBOUR: 'it returns false'. Refute it at one input. -/
def windowForgetsWrong : ChangeSpec := { name := "windowForgets", fn := fun _ => fun
  | [d1, d2, d3] => { results := [.lit (.bool false)], args := [d1, d2, d3] }
  | _ => none }
def WindowForgetsWrongFalsely : Prop := windowForgetsRow.holds Try.pinned (OpenSpec.ofChange windowForgetsWrong)

/-- 'gladstonelaw29.WindowNone': WHATEVER THE INPUT: true; the input reads as it did. -/
def windowNoneSpec : ChangeSpec := { name := "windowNone", fn := fun _ => fun
  | [d] => { results := [.lit (.bool true)], args := [d] }
  | _ => none }
def windowNoneRow : OpenClaim := { program := "ytjpmfaodkldobaa", sum := "9268cb8ff4b423a49a0018efe52237bc002650cb7663c043063edbb8758cc301", func := "gladstone/gladstonelaw29.WindowNone", spec := "windowNone", apart := false }
def WindowNoneSaid : Prop := windowNoneRow.holds Try.pinned (OpenSpec.ofChange windowNoneSpec)

/-- ITS FALSE NEIGHBOUR: 'it returns false'. Refute it at one input. -/
def windowNoneWrong : ChangeSpec := { name := "windowNone", fn := fun _ => fun
  | [d] => { results := [.lit (.bool false)], args := [d] }
  | _ => none }
def WindowNoneWrongFalsely : Prop := windowNoneRow.holds Try.pinned (OpenSpec.ofChange windowNoneWrong)

/-- 'gladstonelaw42.RollMoves': WHATEVER THE INPUT: true; the input reads as it did. -/
def rollMovesSpec : ChangeSpec := { name := "rollMoves", fn := fun _ => fun
  | [d1, d2] => { results := [.lit (.bool true)], args := [d1, d2] }
  | _ => none }
def rollMovesRow : OpenClaim := { program := "ytjpmfaodkldobaa", sum := "9268cb8ff4b423a49a0018efe52237bc002650cb7663c043063edbb8758cc301", func := "gladstone/gladstonelaw42.RollMoves", spec := "rollMoves", apart := false }
def RollMovesSaid : Prop := rollMovesRow.holds Try.pinned (OpenSpec.ofChange rollMovesSpec)

/-- ITS FALSE NEIGHBOUR: 'it returns false'. Refute it at one input. -/
def rollMovesWrong : ChangeSpec := { name := "rollMoves", fn := fun _ => fun
  | [d1, d2] => { results := [.lit (.bool false)], args := [d1, d2] }
  | _ => none }
def RollMovesWrongFalsely : Prop := rollMovesRow.holds Try.pinned (OpenSpec.ofChange rollMovesWrong)

/-- 'gladstonelaw42.RollFinds': WHATEVER THE INPUT: true; the input reads as it did. -/
def rollFindsSpec : ChangeSpec := { name := "rollFinds", fn := fun _ => fun
  | [d1, d2] => { results := [.lit (.bool true)], args := [d1, d2] }
  | _ => none }
def rollFindsRow : OpenClaim := { program := "ytjpmfaodkldobaa", sum := "9268cb8ff4b423a49a0018efe52237bc002650cb7663c043063edbb8758cc301", func := "gladstone/gladstonelaw42.RollFinds", spec := "rollFinds", apart := false }
def RollFindsSaid : Prop := rollFindsRow.holds Try.pinned (OpenSpec.ofChange rollFindsSpec)

/-- ITS FALSE NEIGHBOUR: 'it returns false'. Refute it at one input. -/
def rollFindsWrong : ChangeSpec := { name := "rollFinds", fn := fun _ => fun
  | [d1, d2] => { results := [.lit (.bool false)], args := [d1, d2] }
  | _ => none }
def RollFindsWrongFalsely : Prop := rollFindsRow.holds Try.pinned (OpenSpec.ofChange rollFindsWrong)

/-- 'gladstonelaw43.GramsCount': WHATEVER THE INPUT: true; the input reads as it did. -/
def gramsCountSpec : ChangeSpec := { name := "gramsCount", fn := fun _ => fun
  | [d1, d2, d3] => { results := [.lit (.bool true)], args := [d1, d2, d3] }
  | _ => none }
def gramsCountRow : OpenClaim := { program := "ytjpmfaodkldobaa", sum := "9268cb8ff4b423a49a0018efe52237bc002650cb7663c043063edbb8758cc301", func := "gladstone/gladstonelaw43.GramsCount", spec := "gramsCount", inPlace := ["internal/abi.NoEscape", "internal/bytealg.MakeNoZero"], unfollowed := true, recurses := true, apart := false }
def GramsCountSaid : Prop := gramsCountRow.holds Try.pinned (OpenSpec.ofChange gramsCountSpec)

/-- ITS FALSE NEIGHBOUR: 'it returns false'. Refute it at one input. -/
def gramsCountWrong : ChangeSpec := { name := "gramsCount", fn := fun _ => fun
  | [d1, d2, d3] => { results := [.lit (.bool false)], args := [d1, d2, d3] }
  | _ => none }
def GramsCountWrongFalsely : Prop := gramsCountRow.holds Try.pinned (OpenSpec.ofChange gramsCountWrong)

/-- 'gladstonelaw43.GramsHold': WHATEVER THE INPUT: true; the input reads as it did. -/
def gramsHoldSpec : ChangeSpec := { name := "gramsHold", fn := fun _ => fun
  | [d1, d2, d3] => { results := [.lit (.bool true)], args := [d1, d2, d3] }
  | _ => none }
def gramsHoldRow : OpenClaim := { program := "ytjpmfaodkldobaa", sum := "9268cb8ff4b423a49a0018efe52237bc002650cb7663c043063edbb8758cc301", func := "gladstone/gladstonelaw43.GramsHold", spec := "gramsHold", inPlace := ["internal/abi.NoEscape", "internal/bytealg.MakeNoZero"], unfollowed := true, recurses := true, apart := false }
def GramsHoldSaid : Prop := gramsHoldRow.holds Try.pinned (OpenSpec.ofChange gramsHoldSpec)

/-- ITS FALSE NEIGHBOUR: 'it returns false'. Refute it at one input. -/
def gramsHoldWrong : ChangeSpec := { name := "gramsHold", fn := fun _ => fun
  | [d1, d2, d3] => { results := [.lit (.bool false)], args := [d1, d2, d3] }
  | _ => none }
def GramsHoldWrongFalsely : Prop := gramsHoldRow.holds Try.pinned (OpenSpec.ofChange gramsHoldWrong)

/-- 'gladstonelaw57.SpreadQuantiles': WHATEVER THE INPUT: true; the input reads as it did. -/
def spreadQuantilesSpec : ChangeSpec := { name := "spreadQuantiles", fn := fun _ => fun
  | [d1, d2, d3] => { results := [.lit (.bool true)], args := [d1, d2, d3] }
  | _ => none }
def spreadQuantilesRow : OpenClaim := { program := "ytjpmfaodkldobaa", sum := "9268cb8ff4b423a49a0018efe52237bc002650cb7663c043063edbb8758cc301", func := "gladstone/gladstonelaw57.SpreadQuantiles", spec := "spreadQuantiles", recurses := true, apart := false }
def SpreadQuantilesSaid : Prop := spreadQuantilesRow.holds Try.pinned (OpenSpec.ofChange spreadQuantilesSpec)

/-- ITS FALSE NEIGHBOUR: 'it returns false'. Refute it at one input. -/
def spreadQuantilesWrong : ChangeSpec := { name := "spreadQuantiles", fn := fun _ => fun
  | [d1, d2, d3] => { results := [.lit (.bool false)], args := [d1, d2, d3] }
  | _ => none }
def SpreadQuantilesWrongFalsely : Prop := spreadQuantilesRow.holds Try.pinned (OpenSpec.ofChange spreadQuantilesWrong)

/- THE SECOND FORM. 'bulk': how many values and letters a reading holds, each counted each time it is reached (what is shared counts as often as it is met; a slice's spare places count too). A statement '..UptoSaid' is the law's where the arguments, and the package variables that the reading takes, are together of bulk at most 1048576: NARROWER than '..Said'. Prove '..Said' where nothing that the law and all that it calls make is longer than what came in: it says more and counts as full. Else prove '..UptoSaid'. A law counts once. -/
mutual
def uptoBulk {H : Type} : DataW H → Nat
  | .lit (.string bytes) => bytes.length + 1
  | .lit _ => 1
  | .nil => 1
  | .ptr d => uptoBulk d + 1
  | .slice elems spare => uptoBulkAll elems + uptoBulkAll spare + 1
  | .agg parts => uptoBulkAll parts + 1
  | .iface _ d => uptoBulk d + 1
  | .map entries => uptoBulkEntries entries + 1
  | .held _ => 1
def uptoBulkAll {H : Type} : List (DataW H) → Nat
  | [] => 0
  | d :: r => uptoBulk d + uptoBulkAll r
def uptoBulkEntries {H : Type} : List (Lit × DataW H) → Nat
  | [] => 0
  | x :: r => uptoBulkEntry x + uptoBulkEntries r
def uptoBulkEntry {H : Type} : Lit × DataW H → Nat
  | (.string bytes, d) => bytes.length + uptoBulk d + 1
  | (_, d) => uptoBulk d + 1
 end
def uptoSmall : (H : Type) → List (DataW H) → Bool := fun _ ds => decide (uptoBulkAll ds ≤ 1048576)
def OpenSpec.upto (s : _root_.Go.ChangeSpec) : _root_.Go.OpenSpec := { _root_.Go.OpenSpec.ofChange s with cond := some uptoSmall }

/-- 'gladstonelaw10.FlatNone', WHERE WHAT IT READS IS OF BULK AT MOST 1048576: true; the input reads as it did. -/
def flatNoneUptoRow : OpenClaim := { program := "ytjpmfaodkldobaa", sum := "9268cb8ff4b423a49a0018efe52237bc002650cb7663c043063edbb8758cc301", func := "gladstone/gladstonelaw10.FlatNone", spec := "flatNone", apart := false, narrowed := true }
def FlatNoneUptoSaid : Prop := flatNoneUptoRow.holds Try.pinned (OpenSpec.upto flatNoneSpec)

/-- 'gladstonelaw18.DenoteCopies', WHERE WHAT IT READS IS OF BULK AT MOST 1048576: true; the input reads as it did. -/
def denoteCopiesUptoRow : OpenClaim := { program := "ytjpmfaodkldobaa", sum := "9268cb8ff4b423a49a0018efe52237bc002650cb7663c043063edbb8758cc301", func := "gladstone/gladstonelaw18.DenoteCopies", spec := "denoteCopies", apart := false, narrowed := true }
def DenoteCopiesUptoSaid : Prop := denoteCopiesUptoRow.holds Try.pinned (OpenSpec.upto denoteCopiesSpec)

/-- 'gladstonelaw18.DenoteApplies', WHERE WHAT IT READS IS OF BULK AT MOST 1048576: true; the input reads as it did. -/
def denoteAppliesUptoRow : OpenClaim := { program := "ytjpmfaodkldobaa", sum := "9268cb8ff4b423a49a0018efe52237bc002650cb7663c043063edbb8758cc301", func := "gladstone/gladstonelaw18.DenoteApplies", spec := "denoteApplies", apart := false, narrowed := true }
def DenoteAppliesUptoSaid : Prop := denoteAppliesUptoRow.holds Try.pinned (OpenSpec.upto denoteAppliesSpec)

/-- 'gladstonelaw18.DenoteParts', WHERE WHAT IT READS IS OF BULK AT MOST 1048576: true; the input reads as it did. -/
def denotePartsUptoRow : OpenClaim := { program := "ytjpmfaodkldobaa", sum := "9268cb8ff4b423a49a0018efe52237bc002650cb7663c043063edbb8758cc301", func := "gladstone/gladstonelaw18.DenoteParts", spec := "denoteParts", apart := false, narrowed := true }
def DenotePartsUptoSaid : Prop := denotePartsUptoRow.holds Try.pinned (OpenSpec.upto denotePartsSpec)

/-- 'gladstonelaw29.WindowPlays', WHERE WHAT IT READS IS OF BULK AT MOST 1048576: true; the input reads as it did. -/
def windowPlaysUptoRow : OpenClaim := { program := "ytjpmfaodkldobaa", sum := "9268cb8ff4b423a49a0018efe52237bc002650cb7663c043063edbb8758cc301", func := "gladstone/gladstonelaw29.WindowPlays", spec := "windowPlays", apart := false, narrowed := true }
def WindowPlaysUptoSaid : Prop := windowPlaysUptoRow.holds Try.pinned (OpenSpec.upto windowPlaysSpec)

/-- 'gladstonelaw29.WindowForgets', WHERE WHAT IT READS IS OF BULK AT MOST 1048576: true; the input reads as it did. -/
def windowForgetsUptoRow : OpenClaim := { program := "ytjpmfaodkldobaa", sum := "9268cb8ff4b423a49a0018efe52237bc002650cb7663c043063edbb8758cc301", func := "gladstone/gladstonelaw29.WindowForgets", spec := "windowForgets", apart := false, narrowed := true }
def WindowForgetsUptoSaid : Prop := windowForgetsUptoRow.holds Try.pinned (OpenSpec.upto windowForgetsSpec)

/-- 'gladstonelaw29.WindowNone', WHERE WHAT IT READS IS OF BULK AT MOST 1048576: true; the input reads as it did. -/
def windowNoneUptoRow : OpenClaim := { program := "ytjpmfaodkldobaa", sum := "9268cb8ff4b423a49a0018efe52237bc002650cb7663c043063edbb8758cc301", func := "gladstone/gladstonelaw29.WindowNone", spec := "windowNone", apart := false, narrowed := true }
def WindowNoneUptoSaid : Prop := windowNoneUptoRow.holds Try.pinned (OpenSpec.upto windowNoneSpec)

/-- 'gladstonelaw42.RollMoves', WHERE WHAT IT READS IS OF BULK AT MOST 1048576: true; the input reads as it did. -/
def rollMovesUptoRow : OpenClaim := { program := "ytjpmfaodkldobaa", sum := "9268cb8ff4b423a49a0018efe52237bc002650cb7663c043063edbb8758cc301", func := "gladstone/gladstonelaw42.RollMoves", spec := "rollMoves", apart := false, narrowed := true }
def RollMovesUptoSaid : Prop := rollMovesUptoRow.holds Try.pinned (OpenSpec.upto rollMovesSpec)

/-- 'gladstonelaw42.RollFinds', WHERE WHAT IT READS IS OF BULK AT MOST 1048576: true; the input reads as it did. -/
def rollFindsUptoRow : OpenClaim := { program := "ytjpmfaodkldobaa", sum := "9268cb8ff4b423a49a0018efe52237bc002650cb7663c043063edbb8758cc301", func := "gladstone/gladstonelaw42.RollFinds", spec := "rollFinds", apart := false, narrowed := true }
def RollFindsUptoSaid : Prop := rollFindsUptoRow.holds Try.pinned (OpenSpec.upto rollFindsSpec)

/-- 'gladstonelaw43.GramsCount', WHERE WHAT IT READS IS OF BULK AT MOST 1048576: true; the input reads as it did. -/
def gramsCountUptoRow : OpenClaim := { program := "ytjpmfaodkldobaa", sum := "9268cb8ff4b423a49a0018efe52237bc002650cb7663c043063edbb8758cc301", func := "gladstone/gladstonelaw43.GramsCount", spec := "gramsCount", inPlace := ["internal/abi.NoEscape", "internal/bytealg.MakeNoZero"], unfollowed := true, recurses := true, apart := false, narrowed := true }
def GramsCountUptoSaid : Prop := gramsCountUptoRow.holds Try.pinned (OpenSpec.upto gramsCountSpec)

/-- 'gladstonelaw43.GramsHold', WHERE WHAT IT READS IS OF BULK AT MOST 1048576: true; the input reads as it did. -/
def gramsHoldUptoRow : OpenClaim := { program := "ytjpmfaodkldobaa", sum := "9268cb8ff4b423a49a0018efe52237bc002650cb7663c043063edbb8758cc301", func := "gladstone/gladstonelaw43.GramsHold", spec := "gramsHold", inPlace := ["internal/abi.NoEscape", "internal/bytealg.MakeNoZero"], unfollowed := true, recurses := true, apart := false, narrowed := true }
def GramsHoldUptoSaid : Prop := gramsHoldUptoRow.holds Try.pinned (OpenSpec.upto gramsHoldSpec)

/-- 'gladstonelaw57.SpreadQuantiles', WHERE WHAT IT READS IS OF BULK AT MOST 1048576: true; the input reads as it did. -/
def spreadQuantilesUptoRow : OpenClaim := { program := "ytjpmfaodkldobaa", sum := "9268cb8ff4b423a49a0018efe52237bc002650cb7663c043063edbb8758cc301", func := "gladstone/gladstonelaw57.SpreadQuantiles", spec := "spreadQuantiles", recurses := true, apart := false, narrowed := true }
def SpreadQuantilesUptoSaid : Prop := spreadQuantilesUptoRow.holds Try.pinned (OpenSpec.upto spreadQuantilesSpec)

end Rows
end Go.Proofs.Ytjpmfaodkldobaa
