/-
  No cell of these rows narrows 'for every input' (looked for: loops, veiled, ifaces, maps, wideKeys, modest, calm, conditions, laid).
  DERIVED. THE GIVEN ROWS OF THIS SEAT. 12 by the template 'for every input the law returns true; each argument reads behind the call as it read before'; 0 by the template 'total and deterministic' (their statements: YtekageibffhloaaTotals.lean).
  GIVEN WITH THE SEED: the statements are not yours to turn. If you find one false, say at which input.
  Laid BY PROGRAM, IN A SANDBOX (cutbox-rows.mjs): the forced cells as the released guide's own fill.sh prints them over the translation f5fcbdd59ccbccee… (all of the seat's roots in one cut). By AI agents, Wed Nov 11 2026. No macro, syntax, notation, axiom, sorry.
-/
import Derived.Test.YtekageibffhloaaChecked
import GoSem.Claim
import GoSem.ClaimJoined
import GoSem.ClaimMapViews
import Derived.JoinedTies
import Derived.KernelRfl
namespace Go.Proofs.Ytekageibffhloaa
/- THE CELL 'sum', in the pinned program and in every row, IS THE sha256 OF THE DUMP (.gsa) THAT YtekageibffhloaaProg.lean LOADS. Nothing in Lean hashes anything: it is a label: what it is worth is what the hold of that sum in a sandbox is worth. -/
noncomputable def Try.pinned : Pinned := { name := "ytekageibffhloaa", sum := "f5fcbdd59ccbcceef9628f70bd20adbf523d95991f7c702ab396b8062865f5ea", checked := Try.checked }
namespace Rows
def none {H : Type} : Left H := { results := [], args := [] }

/-- 'gladstonelaw08.CanonCodes': WHATEVER THE INPUT: true; the input reads as it did. -/
def canonCodesSpec : ChangeSpec := { name := "canonCodes", fn := fun _ => fun
  | [d1, d2, d3] => { results := [.lit (.bool true)], args := [d1, d2, d3] }
  | _ => none }
def canonCodesRow : OpenClaim := { program := "ytekageibffhloaa", sum := "f5fcbdd59ccbcceef9628f70bd20adbf523d95991f7c702ab396b8062865f5ea", func := "gladstone/gladstonelaw08.CanonCodes", spec := "canonCodes", apart := false }
def CanonCodesSaid : Prop := canonCodesRow.holds Try.pinned (OpenSpec.ofChange canonCodesSpec)

/-- ITS FALSE NEIGHBOUR: 'it returns false'. Refute it at one input. -/
def canonCodesWrong : ChangeSpec := { name := "canonCodes", fn := fun _ => fun
  | [d1, d2, d3] => { results := [.lit (.bool false)], args := [d1, d2, d3] }
  | _ => none }
def CanonCodesWrongFalsely : Prop := canonCodesRow.holds Try.pinned (OpenSpec.ofChange canonCodesWrong)

/-- 'gladstonelaw08.CanonFree': WHATEVER THE INPUT: true; the input reads as it did. -/
def canonFreeSpec : ChangeSpec := { name := "canonFree", fn := fun _ => fun
  | [d] => { results := [.lit (.bool true)], args := [d] }
  | _ => none }
def canonFreeRow : OpenClaim := { program := "ytekageibffhloaa", sum := "f5fcbdd59ccbcceef9628f70bd20adbf523d95991f7c702ab396b8062865f5ea", func := "gladstone/gladstonelaw08.CanonFree", spec := "canonFree", apart := false }
def CanonFreeSaid : Prop := canonFreeRow.holds Try.pinned (OpenSpec.ofChange canonFreeSpec)

/-- ITS FALSE NEIGHBOUR: 'it returns false'. Refute it at one input. -/
def canonFreeWrong : ChangeSpec := { name := "canonFree", fn := fun _ => fun
  | [d] => { results := [.lit (.bool false)], args := [d] }
  | _ => none }
def CanonFreeWrongFalsely : Prop := canonFreeRow.holds Try.pinned (OpenSpec.ofChange canonFreeWrong)

/-- 'gladstonelaw08.CanonTurns': WHATEVER THE INPUT: true; the input reads as it did. -/
def canonTurnsSpec : ChangeSpec := { name := "canonTurns", fn := fun _ => fun
  | [d1, d2] => { results := [.lit (.bool true)], args := [d1, d2] }
  | _ => none }
def canonTurnsRow : OpenClaim := { program := "ytekageibffhloaa", sum := "f5fcbdd59ccbcceef9628f70bd20adbf523d95991f7c702ab396b8062865f5ea", func := "gladstone/gladstonelaw08.CanonTurns", spec := "canonTurns", apart := false }
def CanonTurnsSaid : Prop := canonTurnsRow.holds Try.pinned (OpenSpec.ofChange canonTurnsSpec)

/-- ITS FALSE NEIGHBOUR: 'it returns false'. Refute it at one input. -/
def canonTurnsWrong : ChangeSpec := { name := "canonTurns", fn := fun _ => fun
  | [d1, d2] => { results := [.lit (.bool false)], args := [d1, d2] }
  | _ => none }
def CanonTurnsWrongFalsely : Prop := canonTurnsRow.holds Try.pinned (OpenSpec.ofChange canonTurnsWrong)

/-- 'gladstonelaw12.RunsPacks': WHATEVER THE INPUT: true; the input reads as it did. -/
def runsPacksSpec : ChangeSpec := { name := "runsPacks", fn := fun _ => fun
  | [d1, d2, d3] => { results := [.lit (.bool true)], args := [d1, d2, d3] }
  | _ => none }
def runsPacksRow : OpenClaim := { program := "ytekageibffhloaa", sum := "f5fcbdd59ccbcceef9628f70bd20adbf523d95991f7c702ab396b8062865f5ea", func := "gladstone/gladstonelaw12.RunsPacks", spec := "runsPacks", apart := false }
def RunsPacksSaid : Prop := runsPacksRow.holds Try.pinned (OpenSpec.ofChange runsPacksSpec)

/-- ITS FALSE NEIGHBOUR: 'it returns false'. Refute it at one input. -/
def runsPacksWrong : ChangeSpec := { name := "runsPacks", fn := fun _ => fun
  | [d1, d2, d3] => { results := [.lit (.bool false)], args := [d1, d2, d3] }
  | _ => none }
def RunsPacksWrongFalsely : Prop := runsPacksRow.holds Try.pinned (OpenSpec.ofChange runsPacksWrong)

/-- 'gladstonelaw12.RunsBack': WHATEVER THE INPUT: true; the input reads as it did. -/
def runsBackSpec : ChangeSpec := { name := "runsBack", fn := fun _ => fun
  | [d] => { results := [.lit (.bool true)], args := [d] }
  | _ => none }
def runsBackRow : OpenClaim := { program := "ytekageibffhloaa", sum := "f5fcbdd59ccbcceef9628f70bd20adbf523d95991f7c702ab396b8062865f5ea", func := "gladstone/gladstonelaw12.RunsBack", spec := "runsBack", apart := false }
def RunsBackSaid : Prop := runsBackRow.holds Try.pinned (OpenSpec.ofChange runsBackSpec)

/-- ITS FALSE NEIGHBOUR: 'it returns false'. Refute it at one input. -/
def runsBackWrong : ChangeSpec := { name := "runsBack", fn := fun _ => fun
  | [d] => { results := [.lit (.bool false)], args := [d] }
  | _ => none }
def RunsBackWrongFalsely : Prop := runsBackRow.holds Try.pinned (OpenSpec.ofChange runsBackWrong)

/-- 'gladstonelaw23.PriceChecks': WHATEVER THE INPUT: true; the input reads as it did. -/
def priceChecksSpec : ChangeSpec := { name := "priceChecks", fn := fun _ => fun
  | [d1, d2, d3] => { results := [.lit (.bool true)], args := [d1, d2, d3] }
  | _ => none }
def priceChecksRow : OpenClaim := { program := "ytekageibffhloaa", sum := "f5fcbdd59ccbcceef9628f70bd20adbf523d95991f7c702ab396b8062865f5ea", func := "gladstone/gladstonelaw23.PriceChecks", spec := "priceChecks", apart := false }
def PriceChecksSaid : Prop := priceChecksRow.holds Try.pinned (OpenSpec.ofChange priceChecksSpec)

/-- ITS FALSE NEIGHBOUR: 'it returns false'. Refute it at one input. -/
def priceChecksWrong : ChangeSpec := { name := "priceChecks", fn := fun _ => fun
  | [d1, d2, d3] => { results := [.lit (.bool false)], args := [d1, d2, d3] }
  | _ => none }
def PriceChecksWrongFalsely : Prop := priceChecksRow.holds Try.pinned (OpenSpec.ofChange priceChecksWrong)

/-- 'gladstonelaw31.HeadsPuts': WHATEVER THE INPUT: true; the input reads as it did. -/
def headsPutsSpec : ChangeSpec := { name := "headsPuts", fn := fun _ => fun
  | [d1, d2] => { results := [.lit (.bool true)], args := [d1, d2] }
  | _ => none }
def headsPutsRow : OpenClaim := { program := "ytekageibffhloaa", sum := "f5fcbdd59ccbcceef9628f70bd20adbf523d95991f7c702ab396b8062865f5ea", func := "gladstone/gladstonelaw31.HeadsPuts", spec := "headsPuts", apart := false }
def HeadsPutsSaid : Prop := headsPutsRow.holds Try.pinned (OpenSpec.ofChange headsPutsSpec)

/-- ITS FALSE NEIGHBOUR: 'it returns false'. Refute it at one input. -/
def headsPutsWrong : ChangeSpec := { name := "headsPuts", fn := fun _ => fun
  | [d1, d2] => { results := [.lit (.bool false)], args := [d1, d2] }
  | _ => none }
def HeadsPutsWrongFalsely : Prop := headsPutsRow.holds Try.pinned (OpenSpec.ofChange headsPutsWrong)

/-- 'gladstonelaw31.HeadsReads': WHATEVER THE INPUT: true; the input reads as it did. -/
def headsReadsSpec : ChangeSpec := { name := "headsReads", fn := fun _ => fun
  | [d] => { results := [.lit (.bool true)], args := [d] }
  | _ => none }
def headsReadsRow : OpenClaim := { program := "ytekageibffhloaa", sum := "f5fcbdd59ccbcceef9628f70bd20adbf523d95991f7c702ab396b8062865f5ea", func := "gladstone/gladstonelaw31.HeadsReads", spec := "headsReads", apart := false }
def HeadsReadsSaid : Prop := headsReadsRow.holds Try.pinned (OpenSpec.ofChange headsReadsSpec)

/-- ITS FALSE NEIGHBOUR: 'it returns false'. Refute it at one input. -/
def headsReadsWrong : ChangeSpec := { name := "headsReads", fn := fun _ => fun
  | [d] => { results := [.lit (.bool false)], args := [d] }
  | _ => none }
def HeadsReadsWrongFalsely : Prop := headsReadsRow.holds Try.pinned (OpenSpec.ofChange headsReadsWrong)

/-- 'gladstonelaw31.HeadsBack': WHATEVER THE INPUT: true; the input reads as it did. -/
def headsBackSpec : ChangeSpec := { name := "headsBack", fn := fun _ => fun
  | [d1, d2, d3] => { results := [.lit (.bool true)], args := [d1, d2, d3] }
  | _ => none }
def headsBackRow : OpenClaim := { program := "ytekageibffhloaa", sum := "f5fcbdd59ccbcceef9628f70bd20adbf523d95991f7c702ab396b8062865f5ea", func := "gladstone/gladstonelaw31.HeadsBack", spec := "headsBack", apart := false }
def HeadsBackSaid : Prop := headsBackRow.holds Try.pinned (OpenSpec.ofChange headsBackSpec)

/-- ITS FALSE NEIGHBOUR: 'it returns false'. Refute it at one input. -/
def headsBackWrong : ChangeSpec := { name := "headsBack", fn := fun _ => fun
  | [d1, d2, d3] => { results := [.lit (.bool false)], args := [d1, d2, d3] }
  | _ => none }
def HeadsBackWrongFalsely : Prop := headsBackRow.holds Try.pinned (OpenSpec.ofChange headsBackWrong)

/-- 'gladstonelaw49.ZerosPacks': WHATEVER THE INPUT: true; the input reads as it did. -/
def zerosPacksSpec : ChangeSpec := { name := "zerosPacks", fn := fun _ => fun
  | [d1, d2] => { results := [.lit (.bool true)], args := [d1, d2] }
  | _ => none }
def zerosPacksRow : OpenClaim := { program := "ytekageibffhloaa", sum := "f5fcbdd59ccbcceef9628f70bd20adbf523d95991f7c702ab396b8062865f5ea", func := "gladstone/gladstonelaw49.ZerosPacks", spec := "zerosPacks", apart := false }
def ZerosPacksSaid : Prop := zerosPacksRow.holds Try.pinned (OpenSpec.ofChange zerosPacksSpec)

/-- ITS FALSE NEIGHBOUR: 'it returns false'. Refute it at one input. -/
def zerosPacksWrong : ChangeSpec := { name := "zerosPacks", fn := fun _ => fun
  | [d1, d2] => { results := [.lit (.bool false)], args := [d1, d2] }
  | _ => none }
def ZerosPacksWrongFalsely : Prop := zerosPacksRow.holds Try.pinned (OpenSpec.ofChange zerosPacksWrong)

/-- 'gladstonelaw49.ZerosBack': WHATEVER THE INPUT: true; the input reads as it did. -/
def zerosBackSpec : ChangeSpec := { name := "zerosBack", fn := fun _ => fun
  | [d1, d2] => { results := [.lit (.bool true)], args := [d1, d2] }
  | _ => none }
def zerosBackRow : OpenClaim := { program := "ytekageibffhloaa", sum := "f5fcbdd59ccbcceef9628f70bd20adbf523d95991f7c702ab396b8062865f5ea", func := "gladstone/gladstonelaw49.ZerosBack", spec := "zerosBack", apart := false }
def ZerosBackSaid : Prop := zerosBackRow.holds Try.pinned (OpenSpec.ofChange zerosBackSpec)

/-- ITS FALSE NEIGHBOUR: 'it returns false'. Refute it at one input. -/
def zerosBackWrong : ChangeSpec := { name := "zerosBack", fn := fun _ => fun
  | [d1, d2] => { results := [.lit (.bool false)], args := [d1, d2] }
  | _ => none }
def ZerosBackWrongFalsely : Prop := zerosBackRow.holds Try.pinned (OpenSpec.ofChange zerosBackWrong)

/-- 'gladstonelaw52.IlogEntropies': WHATEVER THE INPUT: true; the input reads as it did. -/
def ilogEntropiesSpec : ChangeSpec := { name := "ilogEntropies", fn := fun _ => fun
  | [d] => { results := [.lit (.bool true)], args := [d] }
  | _ => none }
def ilogEntropiesRow : OpenClaim := { program := "ytekageibffhloaa", sum := "f5fcbdd59ccbcceef9628f70bd20adbf523d95991f7c702ab396b8062865f5ea", func := "gladstone/gladstonelaw52.IlogEntropies", spec := "ilogEntropies", apart := false }
def IlogEntropiesSaid : Prop := ilogEntropiesRow.holds Try.pinned (OpenSpec.ofChange ilogEntropiesSpec)

/-- ITS FALSE NEIGHBOUR: 'it returns false'. Refute it at one input. -/
def ilogEntropiesWrong : ChangeSpec := { name := "ilogEntropies", fn := fun _ => fun
  | [d] => { results := [.lit (.bool false)], args := [d] }
  | _ => none }
def IlogEntropiesWrongFalsely : Prop := ilogEntropiesRow.holds Try.pinned (OpenSpec.ofChange ilogEntropiesWrong)

/- THE SECOND FORM. 'bulk': how many values and letters a reading holds, each counted each time it is reached (what is shared counts as often as it is met; a slice's spare places count too). A statement '..UptoSaid' is the law's where the arguments, and the package variables that the reading takes, are together of bulk at most 1048576: NARROWER than '..Said'. Prove '..Said' where nothing that the law and all that it calls make is longer than what came in: it says more and counts as full. Else prove '..UptoSaid'. A law counts once. -/
mutual
def uptoBulk {H : Type} : DataW H → Nat
  | .lit (.string bytes) => bytes.length + 1
  | .lit _ => 1
  | .nil => 1
  | .ptr d => uptoBulk d + 1
  | .slice elems spare => uptoBulkAll elems + uptoBulkAll spare + 1
  | .agg parts => uptoBulkAll parts + 1
  | .iface _ d => uptoBulk d + 1
  | .map entries => uptoBulkEntries entries + 1
  | .held _ => 1
def uptoBulkAll {H : Type} : List (DataW H) → Nat
  | [] => 0
  | d :: r => uptoBulk d + uptoBulkAll r
def uptoBulkEntries {H : Type} : List (Lit × DataW H) → Nat
  | [] => 0
  | x :: r => uptoBulkEntry x + uptoBulkEntries r
def uptoBulkEntry {H : Type} : Lit × DataW H → Nat
  | (.string bytes, d) => bytes.length + uptoBulk d + 1
  | (_, d) => uptoBulk d + 1
 end
def uptoSmall : (H : Type) → List (DataW H) → Bool := fun _ ds => decide (uptoBulkAll ds ≤ 1048576)
def OpenSpec.upto (s : _root_.Go.ChangeSpec) : _root_.Go.OpenSpec := { _root_.Go.OpenSpec.ofChange s with cond := some uptoSmall }

/-- 'gladstonelaw08.CanonCodes', WHERE WHAT IT READS IS OF BULK AT MOST 1048576: true; the input reads as it did. -/
def canonCodesUptoRow : OpenClaim := { program := "ytekageibffhloaa", sum := "f5fcbdd59ccbcceef9628f70bd20adbf523d95991f7c702ab396b8062865f5ea", func := "gladstone/gladstonelaw08.CanonCodes", spec := "canonCodes", apart := false, narrowed := true }
def CanonCodesUptoSaid : Prop := canonCodesUptoRow.holds Try.pinned (OpenSpec.upto canonCodesSpec)

/-- 'gladstonelaw08.CanonFree', WHERE WHAT IT READS IS OF BULK AT MOST 1048576: true; the input reads as it did. -/
def canonFreeUptoRow : OpenClaim := { program := "ytekageibffhloaa", sum := "f5fcbdd59ccbcceef9628f70bd20adbf523d95991f7c702ab396b8062865f5ea", func := "gladstone/gladstonelaw08.CanonFree", spec := "canonFree", apart := false, narrowed := true }
def CanonFreeUptoSaid : Prop := canonFreeUptoRow.holds Try.pinned (OpenSpec.upto canonFreeSpec)

/-- 'gladstonelaw08.CanonTurns', WHERE WHAT IT READS IS OF BULK AT MOST 1048576: true; the input reads as it did. -/
def canonTurnsUptoRow : OpenClaim := { program := "ytekageibffhloaa", sum := "f5fcbdd59ccbcceef9628f70bd20adbf523d95991f7c702ab396b8062865f5ea", func := "gladstone/gladstonelaw08.CanonTurns", spec := "canonTurns", apart := false, narrowed := true }
def CanonTurnsUptoSaid : Prop := canonTurnsUptoRow.holds Try.pinned (OpenSpec.upto canonTurnsSpec)

/-- 'gladstonelaw12.RunsPacks', WHERE WHAT IT READS IS OF BULK AT MOST 1048576: true; the input reads as it did. -/
def runsPacksUptoRow : OpenClaim := { program := "ytekageibffhloaa", sum := "f5fcbdd59ccbcceef9628f70bd20adbf523d95991f7c702ab396b8062865f5ea", func := "gladstone/gladstonelaw12.RunsPacks", spec := "runsPacks", apart := false, narrowed := true }
def RunsPacksUptoSaid : Prop := runsPacksUptoRow.holds Try.pinned (OpenSpec.upto runsPacksSpec)

/-- 'gladstonelaw12.RunsBack', WHERE WHAT IT READS IS OF BULK AT MOST 1048576: true; the input reads as it did. -/
def runsBackUptoRow : OpenClaim := { program := "ytekageibffhloaa", sum := "f5fcbdd59ccbcceef9628f70bd20adbf523d95991f7c702ab396b8062865f5ea", func := "gladstone/gladstonelaw12.RunsBack", spec := "runsBack", apart := false, narrowed := true }
def RunsBackUptoSaid : Prop := runsBackUptoRow.holds Try.pinned (OpenSpec.upto runsBackSpec)

/-- 'gladstonelaw23.PriceChecks', WHERE WHAT IT READS IS OF BULK AT MOST 1048576: true; the input reads as it did. -/
def priceChecksUptoRow : OpenClaim := { program := "ytekageibffhloaa", sum := "f5fcbdd59ccbcceef9628f70bd20adbf523d95991f7c702ab396b8062865f5ea", func := "gladstone/gladstonelaw23.PriceChecks", spec := "priceChecks", apart := false, narrowed := true }
def PriceChecksUptoSaid : Prop := priceChecksUptoRow.holds Try.pinned (OpenSpec.upto priceChecksSpec)

/-- 'gladstonelaw31.HeadsPuts', WHERE WHAT IT READS IS OF BULK AT MOST 1048576: true; the input reads as it did. -/
def headsPutsUptoRow : OpenClaim := { program := "ytekageibffhloaa", sum := "f5fcbdd59ccbcceef9628f70bd20adbf523d95991f7c702ab396b8062865f5ea", func := "gladstone/gladstonelaw31.HeadsPuts", spec := "headsPuts", apart := false, narrowed := true }
def HeadsPutsUptoSaid : Prop := headsPutsUptoRow.holds Try.pinned (OpenSpec.upto headsPutsSpec)

/-- 'gladstonelaw31.HeadsReads', WHERE WHAT IT READS IS OF BULK AT MOST 1048576: true; the input reads as it did. -/
def headsReadsUptoRow : OpenClaim := { program := "ytekageibffhloaa", sum := "f5fcbdd59ccbcceef9628f70bd20adbf523d95991f7c702ab396b8062865f5ea", func := "gladstone/gladstonelaw31.HeadsReads", spec := "headsReads", apart := false, narrowed := true }
def HeadsReadsUptoSaid : Prop := headsReadsUptoRow.holds Try.pinned (OpenSpec.upto headsReadsSpec)

/-- 'gladstonelaw31.HeadsBack', WHERE WHAT IT READS IS OF BULK AT MOST 1048576: true; the input reads as it did. -/
def headsBackUptoRow : OpenClaim := { program := "ytekageibffhloaa", sum := "f5fcbdd59ccbcceef9628f70bd20adbf523d95991f7c702ab396b8062865f5ea", func := "gladstone/gladstonelaw31.HeadsBack", spec := "headsBack", apart := false, narrowed := true }
def HeadsBackUptoSaid : Prop := headsBackUptoRow.holds Try.pinned (OpenSpec.upto headsBackSpec)

/-- 'gladstonelaw49.ZerosPacks', WHERE WHAT IT READS IS OF BULK AT MOST 1048576: true; the input reads as it did. -/
def zerosPacksUptoRow : OpenClaim := { program := "ytekageibffhloaa", sum := "f5fcbdd59ccbcceef9628f70bd20adbf523d95991f7c702ab396b8062865f5ea", func := "gladstone/gladstonelaw49.ZerosPacks", spec := "zerosPacks", apart := false, narrowed := true }
def ZerosPacksUptoSaid : Prop := zerosPacksUptoRow.holds Try.pinned (OpenSpec.upto zerosPacksSpec)

/-- 'gladstonelaw49.ZerosBack', WHERE WHAT IT READS IS OF BULK AT MOST 1048576: true; the input reads as it did. -/
def zerosBackUptoRow : OpenClaim := { program := "ytekageibffhloaa", sum := "f5fcbdd59ccbcceef9628f70bd20adbf523d95991f7c702ab396b8062865f5ea", func := "gladstone/gladstonelaw49.ZerosBack", spec := "zerosBack", apart := false, narrowed := true }
def ZerosBackUptoSaid : Prop := zerosBackUptoRow.holds Try.pinned (OpenSpec.upto zerosBackSpec)

/-- 'gladstonelaw52.IlogEntropies', WHERE WHAT IT READS IS OF BULK AT MOST 1048576: true; the input reads as it did. -/
def ilogEntropiesUptoRow : OpenClaim := { program := "ytekageibffhloaa", sum := "f5fcbdd59ccbcceef9628f70bd20adbf523d95991f7c702ab396b8062865f5ea", func := "gladstone/gladstonelaw52.IlogEntropies", spec := "ilogEntropies", apart := false, narrowed := true }
def IlogEntropiesUptoSaid : Prop := ilogEntropiesUptoRow.holds Try.pinned (OpenSpec.upto ilogEntropiesSpec)

end Rows
end Go.Proofs.Ytekageibffhloaa
