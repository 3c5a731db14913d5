/-
  No cell of these rows narrows 'for every input' (looked for: loops, veiled, ifaces, maps, wideKeys, modest, calm, conditions, laid).
  DERIVED. THE GIVEN ROWS OF THIS SEAT. 12 by the template 'for every input the law returns true; each argument reads behind the call as it read before'; 0 by the template 'total and deterministic' (their statements: YtlcdjilmfjdmhaaTotals.lean).
  GIVEN WITH THE SEED: the statements are not yours to turn. If you find one false, say at which input.
  Laid BY PROGRAM, IN A SANDBOX (cutbox-rows.mjs): the forced cells as the released guide's own fill.sh prints them over the translation 1471e23cd669ec9b… (all of the seat's roots in one cut). By AI agents, Wed Nov 11 2026. No macro, syntax, notation, axiom, sorry.
-/
import Derived.Test.YtlcdjilmfjdmhaaChecked
import GoSem.Claim
import GoSem.ClaimJoined
import GoSem.ClaimMapViews
import Derived.JoinedTies
import Derived.KernelRfl
namespace Go.Proofs.Ytlcdjilmfjdmhaa
/- THE CELL 'sum', in the pinned program and in every row, IS THE sha256 OF THE DUMP (.gsa) THAT YtlcdjilmfjdmhaaProg.lean LOADS. Nothing in Lean hashes anything: it is a label: what it is worth is what the hold of that sum in a sandbox is worth. -/
noncomputable def Try.pinned : Pinned := { name := "ytlcdjilmfjdmhaa", sum := "1471e23cd669ec9bdead0b18f0822bd9b6b773c892cb2844597ed9de948aac7d", checked := Try.checked }
namespace Rows
def none {H : Type} : Left H := { results := [], args := [] }

/-- 'gladstonelaw07.PmergeMay': WHATEVER THE INPUT: true; the input reads as it did. -/
def pmergeMaySpec : ChangeSpec := { name := "pmergeMay", fn := fun _ => fun
  | [d1, d2] => { results := [.lit (.bool true)], args := [d1, d2] }
  | _ => none }
def pmergeMayRow : OpenClaim := { program := "ytlcdjilmfjdmhaa", sum := "1471e23cd669ec9bdead0b18f0822bd9b6b773c892cb2844597ed9de948aac7d", func := "gladstone/gladstonelaw07.PmergeMay", spec := "pmergeMay", unfollowed := true, recurses := true, plainKeys := false, apart := false }
def PmergeMaySaid : Prop := pmergeMayRow.holds Try.pinned (OpenSpec.ofChange pmergeMaySpec)

/-- ITS FALSE NEIGHBOUR: 'it returns false'. Refute it at one input. -/
def pmergeMayWrong : ChangeSpec := { name := "pmergeMay", fn := fun _ => fun
  | [d1, d2] => { results := [.lit (.bool false)], args := [d1, d2] }
  | _ => none }
def PmergeMayWrongFalsely : Prop := pmergeMayRow.holds Try.pinned (OpenSpec.ofChange pmergeMayWrong)

/-- 'gladstonelaw07.PmergeCosts': WHATEVER THE INPUT: true; the input reads as it did. -/
def pmergeCostsSpec : ChangeSpec := { name := "pmergeCosts", fn := fun _ => fun
  | [d1, d2] => { results := [.lit (.bool true)], args := [d1, d2] }
  | _ => none }
def pmergeCostsRow : OpenClaim := { program := "ytlcdjilmfjdmhaa", sum := "1471e23cd669ec9bdead0b18f0822bd9b6b773c892cb2844597ed9de948aac7d", func := "gladstone/gladstonelaw07.PmergeCosts", spec := "pmergeCosts", unfollowed := true, recurses := true, plainKeys := false, apart := false }
def PmergeCostsSaid : Prop := pmergeCostsRow.holds Try.pinned (OpenSpec.ofChange pmergeCostsSpec)

/-- ITS FALSE NEIGHBOUR: 'it returns false'. Refute it at one input. -/
def pmergeCostsWrong : ChangeSpec := { name := "pmergeCosts", fn := fun _ => fun
  | [d1, d2] => { results := [.lit (.bool false)], args := [d1, d2] }
  | _ => none }
def PmergeCostsWrongFalsely : Prop := pmergeCostsRow.holds Try.pinned (OpenSpec.ofChange pmergeCostsWrong)

/-- 'gladstonelaw07.PmergeBest': WHATEVER THE INPUT: true; the input reads as it did. -/
def pmergeBestSpec : ChangeSpec := { name := "pmergeBest", fn := fun _ => fun
  | [d1, d2] => { results := [.lit (.bool true)], args := [d1, d2] }
  | _ => none }
def pmergeBestRow : OpenClaim := { program := "ytlcdjilmfjdmhaa", sum := "1471e23cd669ec9bdead0b18f0822bd9b6b773c892cb2844597ed9de948aac7d", func := "gladstone/gladstonelaw07.PmergeBest", spec := "pmergeBest", unfollowed := true, recurses := true, plainKeys := false, apart := false }
def PmergeBestSaid : Prop := pmergeBestRow.holds Try.pinned (OpenSpec.ofChange pmergeBestSpec)

/-- ITS FALSE NEIGHBOUR: 'it returns false'. Refute it at one input. -/
def pmergeBestWrong : ChangeSpec := { name := "pmergeBest", fn := fun _ => fun
  | [d1, d2] => { results := [.lit (.bool false)], args := [d1, d2] }
  | _ => none }
def PmergeBestWrongFalsely : Prop := pmergeBestRow.holds Try.pinned (OpenSpec.ofChange pmergeBestWrong)

/-- 'gladstonelaw07.PmergeFalls': WHATEVER THE INPUT: true; the input reads as it did. -/
def pmergeFallsSpec : ChangeSpec := { name := "pmergeFalls", fn := fun _ => fun
  | [d1, d2] => { results := [.lit (.bool true)], args := [d1, d2] }
  | _ => none }
def pmergeFallsRow : OpenClaim := { program := "ytlcdjilmfjdmhaa", sum := "1471e23cd669ec9bdead0b18f0822bd9b6b773c892cb2844597ed9de948aac7d", func := "gladstone/gladstonelaw07.PmergeFalls", spec := "pmergeFalls", unfollowed := true, recurses := true, plainKeys := false, apart := false }
def PmergeFallsSaid : Prop := pmergeFallsRow.holds Try.pinned (OpenSpec.ofChange pmergeFallsSpec)

/-- ITS FALSE NEIGHBOUR: 'it returns false'. Refute it at one input. -/
def pmergeFallsWrong : ChangeSpec := { name := "pmergeFalls", fn := fun _ => fun
  | [d1, d2] => { results := [.lit (.bool false)], args := [d1, d2] }
  | _ => none }
def PmergeFallsWrongFalsely : Prop := pmergeFallsRow.holds Try.pinned (OpenSpec.ofChange pmergeFallsWrong)

/-- 'gladstonelaw53.SplitLeast': WHATEVER THE INPUT: true; the input reads as it did. -/
def splitLeastSpec : ChangeSpec := { name := "splitLeast", fn := fun _ => fun
  | [d1, d2, d3] => { results := [.lit (.bool true)], args := [d1, d2, d3] }
  | _ => none }
def splitLeastRow : OpenClaim := { program := "ytlcdjilmfjdmhaa", sum := "1471e23cd669ec9bdead0b18f0822bd9b6b773c892cb2844597ed9de948aac7d", func := "gladstone/gladstonelaw53.SplitLeast", spec := "splitLeast", recurses := true, plainKeys := false, apart := false }
def SplitLeastSaid : Prop := splitLeastRow.holds Try.pinned (OpenSpec.ofChange splitLeastSpec)

/-- ITS FALSE NEIGHBOUR: 'it returns false'. Refute it at one input. -/
def splitLeastWrong : ChangeSpec := { name := "splitLeast", fn := fun _ => fun
  | [d1, d2, d3] => { results := [.lit (.bool false)], args := [d1, d2, d3] }
  | _ => none }
def SplitLeastWrongFalsely : Prop := splitLeastRow.holds Try.pinned (OpenSpec.ofChange splitLeastWrong)

/-- 'gladstonelaw53.SplitNoLess': WHATEVER THE INPUT: true; the input reads as it did. -/
def splitNoLessSpec : ChangeSpec := { name := "splitNoLess", fn := fun _ => fun
  | [d1, d2, d3] => { results := [.lit (.bool true)], args := [d1, d2, d3] }
  | _ => none }
def splitNoLessRow : OpenClaim := { program := "ytlcdjilmfjdmhaa", sum := "1471e23cd669ec9bdead0b18f0822bd9b6b773c892cb2844597ed9de948aac7d", func := "gladstone/gladstonelaw53.SplitNoLess", spec := "splitNoLess", plainKeys := false, apart := false }
def SplitNoLessSaid : Prop := splitNoLessRow.holds Try.pinned (OpenSpec.ofChange splitNoLessSpec)

/-- ITS FALSE NEIGHBOUR: 'it returns false'. Refute it at one input. -/
def splitNoLessWrong : ChangeSpec := { name := "splitNoLess", fn := fun _ => fun
  | [d1, d2, d3] => { results := [.lit (.bool false)], args := [d1, d2, d3] }
  | _ => none }
def SplitNoLessWrongFalsely : Prop := splitNoLessRow.holds Try.pinned (OpenSpec.ofChange splitNoLessWrong)

/-- 'gladstonelaw59.TansNorms': WHATEVER THE INPUT: true; the input reads as it did. -/
def tansNormsSpec : ChangeSpec := { name := "tansNorms", fn := fun _ => fun
  | [d1, d2, d3] => { results := [.lit (.bool true)], args := [d1, d2, d3] }
  | _ => none }
def tansNormsRow : OpenClaim := { program := "ytlcdjilmfjdmhaa", sum := "1471e23cd669ec9bdead0b18f0822bd9b6b773c892cb2844597ed9de948aac7d", func := "gladstone/gladstonelaw59.TansNorms", spec := "tansNorms", unfollowed := true, recurses := true, plainKeys := false, apart := false }
def TansNormsSaid : Prop := tansNormsRow.holds Try.pinned (OpenSpec.ofChange tansNormsSpec)

/-- ITS FALSE NEIGHBOUR: 'it returns false'. Refute it at one input. -/
def tansNormsWrong : ChangeSpec := { name := "tansNorms", fn := fun _ => fun
  | [d1, d2, d3] => { results := [.lit (.bool false)], args := [d1, d2, d3] }
  | _ => none }
def TansNormsWrongFalsely : Prop := tansNormsRow.holds Try.pinned (OpenSpec.ofChange tansNormsWrong)

/-- 'gladstonelaw59.TansDecodes': WHATEVER THE INPUT: true; the input reads as it did. -/
def tansDecodesSpec : ChangeSpec := { name := "tansDecodes", fn := fun _ => fun
  | [d1, d2, d3] => { results := [.lit (.bool true)], args := [d1, d2, d3] }
  | _ => none }
def tansDecodesRow : OpenClaim := { program := "ytlcdjilmfjdmhaa", sum := "1471e23cd669ec9bdead0b18f0822bd9b6b773c892cb2844597ed9de948aac7d", func := "gladstone/gladstonelaw59.TansDecodes", spec := "tansDecodes", unfollowed := true, recurses := true, plainKeys := false, apart := false }
def TansDecodesSaid : Prop := tansDecodesRow.holds Try.pinned (OpenSpec.ofChange tansDecodesSpec)

/-- ITS FALSE NEIGHBOUR: 'it returns false'. Refute it at one input. -/
def tansDecodesWrong : ChangeSpec := { name := "tansDecodes", fn := fun _ => fun
  | [d1, d2, d3] => { results := [.lit (.bool false)], args := [d1, d2, d3] }
  | _ => none }
def TansDecodesWrongFalsely : Prop := tansDecodesRow.holds Try.pinned (OpenSpec.ofChange tansDecodesWrong)

/-- 'gladstonelaw59.TansBack': WHATEVER THE INPUT: true; the input reads as it did. -/
def tansBackSpec : ChangeSpec := { name := "tansBack", fn := fun _ => fun
  | [d1, d2, d3] => { results := [.lit (.bool true)], args := [d1, d2, d3] }
  | _ => none }
def tansBackRow : OpenClaim := { program := "ytlcdjilmfjdmhaa", sum := "1471e23cd669ec9bdead0b18f0822bd9b6b773c892cb2844597ed9de948aac7d", func := "gladstone/gladstonelaw59.TansBack", spec := "tansBack", unfollowed := true, recurses := true, plainKeys := false, apart := false }
def TansBackSaid : Prop := tansBackRow.holds Try.pinned (OpenSpec.ofChange tansBackSpec)

/-- ITS FALSE NEIGHBOUR: 'it returns false'. Refute it at one input. -/
def tansBackWrong : ChangeSpec := { name := "tansBack", fn := fun _ => fun
  | [d1, d2, d3] => { results := [.lit (.bool false)], args := [d1, d2, d3] }
  | _ => none }
def TansBackWrongFalsely : Prop := tansBackRow.holds Try.pinned (OpenSpec.ofChange tansBackWrong)

/-- 'gladstonelaw60.LzwEncodes': WHATEVER THE INPUT: true; the input reads as it did. -/
def lzwEncodesSpec : ChangeSpec := { name := "lzwEncodes", fn := fun _ => fun
  | [d1, d2] => { results := [.lit (.bool true)], args := [d1, d2] }
  | _ => none }
def lzwEncodesRow : OpenClaim := { program := "ytlcdjilmfjdmhaa", sum := "1471e23cd669ec9bdead0b18f0822bd9b6b773c892cb2844597ed9de948aac7d", func := "gladstone/gladstonelaw60.LzwEncodes", spec := "lzwEncodes", unfollowed := true, recurses := true, plainKeys := false, apart := false }
def LzwEncodesSaid : Prop := lzwEncodesRow.holds Try.pinned (OpenSpec.ofChange lzwEncodesSpec)

/-- ITS FALSE NEIGHBOUR: 'it returns false'. Refute it at one input. -/
def lzwEncodesWrong : ChangeSpec := { name := "lzwEncodes", fn := fun _ => fun
  | [d1, d2] => { results := [.lit (.bool false)], args := [d1, d2] }
  | _ => none }
def LzwEncodesWrongFalsely : Prop := lzwEncodesRow.holds Try.pinned (OpenSpec.ofChange lzwEncodesWrong)

/-- 'gladstonelaw60.LzwDecodes': WHATEVER THE INPUT: true; the input reads as it did. -/
def lzwDecodesSpec : ChangeSpec := { name := "lzwDecodes", fn := fun _ => fun
  | [d1, d2, d3] => { results := [.lit (.bool true)], args := [d1, d2, d3] }
  | _ => none }
def lzwDecodesRow : OpenClaim := { program := "ytlcdjilmfjdmhaa", sum := "1471e23cd669ec9bdead0b18f0822bd9b6b773c892cb2844597ed9de948aac7d", func := "gladstone/gladstonelaw60.LzwDecodes", spec := "lzwDecodes", unfollowed := true, recurses := true, plainKeys := false, apart := false }
def LzwDecodesSaid : Prop := lzwDecodesRow.holds Try.pinned (OpenSpec.ofChange lzwDecodesSpec)

/-- ITS FALSE NEIGHBOUR: 'it returns false'. Refute it at one input. -/
def lzwDecodesWrong : ChangeSpec := { name := "lzwDecodes", fn := fun _ => fun
  | [d1, d2, d3] => { results := [.lit (.bool false)], args := [d1, d2, d3] }
  | _ => none }
def LzwDecodesWrongFalsely : Prop := lzwDecodesRow.holds Try.pinned (OpenSpec.ofChange lzwDecodesWrong)

/-- 'gladstonelaw60.LzwBack': WHATEVER THE INPUT: true; the input reads as it did. -/
def lzwBackSpec : ChangeSpec := { name := "lzwBack", fn := fun _ => fun
  | [d1, d2] => { results := [.lit (.bool true)], args := [d1, d2] }
  | _ => none }
def lzwBackRow : OpenClaim := { program := "ytlcdjilmfjdmhaa", sum := "1471e23cd669ec9bdead0b18f0822bd9b6b773c892cb2844597ed9de948aac7d", func := "gladstone/gladstonelaw60.LzwBack", spec := "lzwBack", unfollowed := true, recurses := true, plainKeys := false, apart := false }
def LzwBackSaid : Prop := lzwBackRow.holds Try.pinned (OpenSpec.ofChange lzwBackSpec)

/-- ITS FALSE NEIGHBOUR: 'it returns false'. Refute it at one input. -/
def lzwBackWrong : ChangeSpec := { name := "lzwBack", fn := fun _ => fun
  | [d1, d2] => { results := [.lit (.bool false)], args := [d1, d2] }
  | _ => none }
def LzwBackWrongFalsely : Prop := lzwBackRow.holds Try.pinned (OpenSpec.ofChange lzwBackWrong)

/- THE SECOND FORM. 'bulk': how many values and letters a reading holds, each counted each time it is reached (what is shared counts as often as it is met; a slice's spare places count too). A statement '..UptoSaid' is the law's where the arguments, and the package variables that the reading takes, are together of bulk at most 1048576: NARROWER than '..Said'. Prove '..Said' where nothing that the law and all that it calls make is longer than what came in: it says more and counts as full. Else prove '..UptoSaid'. A law counts once. -/
mutual
def uptoBulk {H : Type} : DataW H → Nat
  | .lit (.string bytes) => bytes.length + 1
  | .lit _ => 1
  | .nil => 1
  | .ptr d => uptoBulk d + 1
  | .slice elems spare => uptoBulkAll elems + uptoBulkAll spare + 1
  | .agg parts => uptoBulkAll parts + 1
  | .iface _ d => uptoBulk d + 1
  | .map entries => uptoBulkEntries entries + 1
  | .held _ => 1
def uptoBulkAll {H : Type} : List (DataW H) → Nat
  | [] => 0
  | d :: r => uptoBulk d + uptoBulkAll r
def uptoBulkEntries {H : Type} : List (Lit × DataW H) → Nat
  | [] => 0
  | x :: r => uptoBulkEntry x + uptoBulkEntries r
def uptoBulkEntry {H : Type} : Lit × DataW H → Nat
  | (.string bytes, d) => bytes.length + uptoBulk d + 1
  | (_, d) => uptoBulk d + 1
 end
def uptoSmall : (H : Type) → List (DataW H) → Bool := fun _ ds => decide (uptoBulkAll ds ≤ 1048576)
def OpenSpec.upto (s : _root_.Go.ChangeSpec) : _root_.Go.OpenSpec := { _root_.Go.OpenSpec.ofChange s with cond := some uptoSmall }

/-- 'gladstonelaw07.PmergeMay', WHERE WHAT IT READS IS OF BULK AT MOST 1048576: true; the input reads as it did. -/
def pmergeMayUptoRow : OpenClaim := { program := "ytlcdjilmfjdmhaa", sum := "1471e23cd669ec9bdead0b18f0822bd9b6b773c892cb2844597ed9de948aac7d", func := "gladstone/gladstonelaw07.PmergeMay", spec := "pmergeMay", unfollowed := true, recurses := true, plainKeys := false, apart := false, narrowed := true }
def PmergeMayUptoSaid : Prop := pmergeMayUptoRow.holds Try.pinned (OpenSpec.upto pmergeMaySpec)

/-- 'gladstonelaw07.PmergeCosts', WHERE WHAT IT READS IS OF BULK AT MOST 1048576: true; the input reads as it did. -/
def pmergeCostsUptoRow : OpenClaim := { program := "ytlcdjilmfjdmhaa", sum := "1471e23cd669ec9bdead0b18f0822bd9b6b773c892cb2844597ed9de948aac7d", func := "gladstone/gladstonelaw07.PmergeCosts", spec := "pmergeCosts", unfollowed := true, recurses := true, plainKeys := false, apart := false, narrowed := true }
def PmergeCostsUptoSaid : Prop := pmergeCostsUptoRow.holds Try.pinned (OpenSpec.upto pmergeCostsSpec)

/-- 'gladstonelaw07.PmergeBest', WHERE WHAT IT READS IS OF BULK AT MOST 1048576: true; the input reads as it did. -/
def pmergeBestUptoRow : OpenClaim := { program := "ytlcdjilmfjdmhaa", sum := "1471e23cd669ec9bdead0b18f0822bd9b6b773c892cb2844597ed9de948aac7d", func := "gladstone/gladstonelaw07.PmergeBest", spec := "pmergeBest", unfollowed := true, recurses := true, plainKeys := false, apart := false, narrowed := true }
def PmergeBestUptoSaid : Prop := pmergeBestUptoRow.holds Try.pinned (OpenSpec.upto pmergeBestSpec)

/-- 'gladstonelaw07.PmergeFalls', WHERE WHAT IT READS IS OF BULK AT MOST 1048576: true; the input reads as it did. -/
def pmergeFallsUptoRow : OpenClaim := { program := "ytlcdjilmfjdmhaa", sum := "1471e23cd669ec9bdead0b18f0822bd9b6b773c892cb2844597ed9de948aac7d", func := "gladstone/gladstonelaw07.PmergeFalls", spec := "pmergeFalls", unfollowed := true, recurses := true, plainKeys := false, apart := false, narrowed := true }
def PmergeFallsUptoSaid : Prop := pmergeFallsUptoRow.holds Try.pinned (OpenSpec.upto pmergeFallsSpec)

/-- 'gladstonelaw53.SplitLeast', WHERE WHAT IT READS IS OF BULK AT MOST 1048576: true; the input reads as it did. -/
def splitLeastUptoRow : OpenClaim := { program := "ytlcdjilmfjdmhaa", sum := "1471e23cd669ec9bdead0b18f0822bd9b6b773c892cb2844597ed9de948aac7d", func := "gladstone/gladstonelaw53.SplitLeast", spec := "splitLeast", recurses := true, plainKeys := false, apart := false, narrowed := true }
def SplitLeastUptoSaid : Prop := splitLeastUptoRow.holds Try.pinned (OpenSpec.upto splitLeastSpec)

/-- 'gladstonelaw53.SplitNoLess', WHERE WHAT IT READS IS OF BULK AT MOST 1048576: true; the input reads as it did. -/
def splitNoLessUptoRow : OpenClaim := { program := "ytlcdjilmfjdmhaa", sum := "1471e23cd669ec9bdead0b18f0822bd9b6b773c892cb2844597ed9de948aac7d", func := "gladstone/gladstonelaw53.SplitNoLess", spec := "splitNoLess", plainKeys := false, apart := false, narrowed := true }
def SplitNoLessUptoSaid : Prop := splitNoLessUptoRow.holds Try.pinned (OpenSpec.upto splitNoLessSpec)

/-- 'gladstonelaw59.TansNorms', WHERE WHAT IT READS IS OF BULK AT MOST 1048576: true; the input reads as it did. -/
def tansNormsUptoRow : OpenClaim := { program := "ytlcdjilmfjdmhaa", sum := "1471e23cd669ec9bdead0b18f0822bd9b6b773c892cb2844597ed9de948aac7d", func := "gladstone/gladstonelaw59.TansNorms", spec := "tansNorms", unfollowed := true, recurses := true, plainKeys := false, apart := false, narrowed := true }
def TansNormsUptoSaid : Prop := tansNormsUptoRow.holds Try.pinned (OpenSpec.upto tansNormsSpec)

/-- 'gladstonelaw59.TansDecodes', WHERE WHAT IT READS IS OF BULK AT MOST 1048576: true; the input reads as it did. -/
def tansDecodesUptoRow : OpenClaim := { program := "ytlcdjilmfjdmhaa", sum := "1471e23cd669ec9bdead0b18f0822bd9b6b773c892cb2844597ed9de948aac7d", func := "gladstone/gladstonelaw59.TansDecodes", spec := "tansDecodes", unfollowed := true, recurses := true, plainKeys := false, apart := false, narrowed := true }
def TansDecodesUptoSaid : Prop := tansDecodesUptoRow.holds Try.pinned (OpenSpec.upto tansDecodesSpec)

/-- 'gladstonelaw59.TansBack', WHERE WHAT IT READS IS OF BULK AT MOST 1048576: true; the input reads as it did. -/
def tansBackUptoRow : OpenClaim := { program := "ytlcdjilmfjdmhaa", sum := "1471e23cd669ec9bdead0b18f0822bd9b6b773c892cb2844597ed9de948aac7d", func := "gladstone/gladstonelaw59.TansBack", spec := "tansBack", unfollowed := true, recurses := true, plainKeys := false, apart := false, narrowed := true }
def TansBackUptoSaid : Prop := tansBackUptoRow.holds Try.pinned (OpenSpec.upto tansBackSpec)

/-- 'gladstonelaw60.LzwEncodes', WHERE WHAT IT READS IS OF BULK AT MOST 1048576: true; the input reads as it did. -/
def lzwEncodesUptoRow : OpenClaim := { program := "ytlcdjilmfjdmhaa", sum := "1471e23cd669ec9bdead0b18f0822bd9b6b773c892cb2844597ed9de948aac7d", func := "gladstone/gladstonelaw60.LzwEncodes", spec := "lzwEncodes", unfollowed := true, recurses := true, plainKeys := false, apart := false, narrowed := true }
def LzwEncodesUptoSaid : Prop := lzwEncodesUptoRow.holds Try.pinned (OpenSpec.upto lzwEncodesSpec)

/-- 'gladstonelaw60.LzwDecodes', WHERE WHAT IT READS IS OF BULK AT MOST 1048576: true; the input reads as it did. -/
def lzwDecodesUptoRow : OpenClaim := { program := "ytlcdjilmfjdmhaa", sum := "1471e23cd669ec9bdead0b18f0822bd9b6b773c892cb2844597ed9de948aac7d", func := "gladstone/gladstonelaw60.LzwDecodes", spec := "lzwDecodes", unfollowed := true, recurses := true, plainKeys := false, apart := false, narrowed := true }
def LzwDecodesUptoSaid : Prop := lzwDecodesUptoRow.holds Try.pinned (OpenSpec.upto lzwDecodesSpec)

/-- 'gladstonelaw60.LzwBack', WHERE WHAT IT READS IS OF BULK AT MOST 1048576: true; the input reads as it did. -/
def lzwBackUptoRow : OpenClaim := { program := "ytlcdjilmfjdmhaa", sum := "1471e23cd669ec9bdead0b18f0822bd9b6b773c892cb2844597ed9de948aac7d", func := "gladstone/gladstonelaw60.LzwBack", spec := "lzwBack", unfollowed := true, recurses := true, plainKeys := false, apart := false, narrowed := true }
def LzwBackUptoSaid : Prop := lzwBackUptoRow.holds Try.pinned (OpenSpec.upto lzwBackSpec)

end Rows
end Go.Proofs.Ytlcdjilmfjdmhaa
