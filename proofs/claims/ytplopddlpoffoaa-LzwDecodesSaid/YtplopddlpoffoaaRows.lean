/-
  No cell of these rows narrows 'for every input' (looked for: loops, veiled, ifaces, maps, wideKeys, modest, calm, conditions, laid).
  DERIVED. THE GIVEN ROWS OF THIS SEAT. 6 by the template 'for every input the law returns true; each argument reads behind the call as it read before'; 0 by the template 'total and deterministic' (their statements: YtplopddlpoffoaaTotals.lean).
  GIVEN WITH THE SEED: the statements are not yours to turn. If you find one false, say at which input.
  Laid BY PROGRAM, IN A SANDBOX (cutbox-rows.mjs): the forced cells as the released guide's own fill.sh prints them over the translation 69c3d0f8ab37b8a3… (all of the seat's roots in one cut). By AI agents, Wed Nov 11 2026. No macro, syntax, notation, axiom, sorry.
-/
import Derived.Test.YtplopddlpoffoaaChecked
import GoSem.Claim
import GoSem.ClaimJoined
import GoSem.ClaimMapViews
import Derived.JoinedTies
import Derived.KernelRfl
namespace Go.Proofs.Ytplopddlpoffoaa
/- THE CELL 'sum', in the pinned program and in every row, IS THE sha256 OF THE DUMP (.gsa) THAT YtplopddlpoffoaaProg.lean LOADS. Nothing in Lean hashes anything: it is a label: what it is worth is what the hold of that sum in a sandbox is worth. -/
noncomputable def Try.pinned : Pinned := { name := "ytplopddlpoffoaa", sum := "69c3d0f8ab37b8a317bd24c461b030b3fbc36503098737fdfe1d7d77e9bbe4d4", checked := Try.checked }
namespace Rows
def none {H : Type} : Left H := { results := [], args := [] }

/-- 'gladstonelaw59.TansNorms': WHATEVER THE INPUT: true; the input reads as it did. -/
def tansNormsSpec : ChangeSpec := { name := "tansNorms", fn := fun _ => fun
  | [d1, d2, d3] => { results := [.lit (.bool true)], args := [d1, d2, d3] }
  | _ => none }
def tansNormsRow : OpenClaim := { program := "ytplopddlpoffoaa", sum := "69c3d0f8ab37b8a317bd24c461b030b3fbc36503098737fdfe1d7d77e9bbe4d4", func := "gladstone/gladstonelaw59.TansNorms", spec := "tansNorms", unfollowed := true, recurses := true, plainKeys := false, apart := false }
def TansNormsSaid : Prop := tansNormsRow.holds Try.pinned (OpenSpec.ofChange tansNormsSpec)

/-- ITS FALSE NEIGHBOUR: 'it returns false'. Refute it at one input. -/
def tansNormsWrong : ChangeSpec := { name := "tansNorms", fn := fun _ => fun
  | [d1, d2, d3] => { results := [.lit (.bool false)], args := [d1, d2, d3] }
  | _ => none }
def TansNormsWrongFalsely : Prop := tansNormsRow.holds Try.pinned (OpenSpec.ofChange tansNormsWrong)

/-- 'gladstonelaw59.TansDecodes': WHATEVER THE INPUT: true; the input reads as it did. -/
def tansDecodesSpec : ChangeSpec := { name := "tansDecodes", fn := fun _ => fun
  | [d1, d2, d3] => { results := [.lit (.bool true)], args := [d1, d2, d3] }
  | _ => none }
def tansDecodesRow : OpenClaim := { program := "ytplopddlpoffoaa", sum := "69c3d0f8ab37b8a317bd24c461b030b3fbc36503098737fdfe1d7d77e9bbe4d4", func := "gladstone/gladstonelaw59.TansDecodes", spec := "tansDecodes", unfollowed := true, recurses := true, plainKeys := false, apart := false }
def TansDecodesSaid : Prop := tansDecodesRow.holds Try.pinned (OpenSpec.ofChange tansDecodesSpec)

/-- ITS FALSE NEIGHBOUR: 'it returns false'. Refute it at one input. -/
def tansDecodesWrong : ChangeSpec := { name := "tansDecodes", fn := fun _ => fun
  | [d1, d2, d3] => { results := [.lit (.bool false)], args := [d1, d2, d3] }
  | _ => none }
def TansDecodesWrongFalsely : Prop := tansDecodesRow.holds Try.pinned (OpenSpec.ofChange tansDecodesWrong)

/-- 'gladstonelaw59.TansBack': WHATEVER THE INPUT: true; the input reads as it did. -/
def tansBackSpec : ChangeSpec := { name := "tansBack", fn := fun _ => fun
  | [d1, d2, d3] => { results := [.lit (.bool true)], args := [d1, d2, d3] }
  | _ => none }
def tansBackRow : OpenClaim := { program := "ytplopddlpoffoaa", sum := "69c3d0f8ab37b8a317bd24c461b030b3fbc36503098737fdfe1d7d77e9bbe4d4", func := "gladstone/gladstonelaw59.TansBack", spec := "tansBack", unfollowed := true, recurses := true, plainKeys := false, apart := false }
def TansBackSaid : Prop := tansBackRow.holds Try.pinned (OpenSpec.ofChange tansBackSpec)

/-- ITS FALSE NEIGHBOUR: 'it returns false'. Refute it at one input. -/
def tansBackWrong : ChangeSpec := { name := "tansBack", fn := fun _ => fun
  | [d1, d2, d3] => { results := [.lit (.bool false)], args := [d1, d2, d3] }
  | _ => none }
def TansBackWrongFalsely : Prop := tansBackRow.holds Try.pinned (OpenSpec.ofChange tansBackWrong)

/-- 'gladstonelaw60.LzwEncodes': WHATEVER THE INPUT: true; the input reads as it did. -/
def lzwEncodesSpec : ChangeSpec := { name := "lzwEncodes", fn := fun _ => fun
  | [d1, d2] => { results := [.lit (.bool true)], args := [d1, d2] }
  | _ => none }
def lzwEncodesRow : OpenClaim := { program := "ytplopddlpoffoaa", sum := "69c3d0f8ab37b8a317bd24c461b030b3fbc36503098737fdfe1d7d77e9bbe4d4", func := "gladstone/gladstonelaw60.LzwEncodes", spec := "lzwEncodes", unfollowed := true, recurses := true, plainKeys := false, apart := false }
def LzwEncodesSaid : Prop := lzwEncodesRow.holds Try.pinned (OpenSpec.ofChange lzwEncodesSpec)

/-- ITS FALSE NEIGHBOUR: 'it returns false'. Refute it at one input. -/
def lzwEncodesWrong : ChangeSpec := { name := "lzwEncodes", fn := fun _ => fun
  | [d1, d2] => { results := [.lit (.bool false)], args := [d1, d2] }
  | _ => none }
def LzwEncodesWrongFalsely : Prop := lzwEncodesRow.holds Try.pinned (OpenSpec.ofChange lzwEncodesWrong)

/-- 'gladstonelaw60.LzwDecodes': WHATEVER THE INPUT: true; the input reads as it did. -/
def lzwDecodesSpec : ChangeSpec := { name := "lzwDecodes", fn := fun _ => fun
  | [d1, d2, d3] => { results := [.lit (.bool true)], args := [d1, d2, d3] }
  | _ => none }
def lzwDecodesRow : OpenClaim := { program := "ytplopddlpoffoaa", sum := "69c3d0f8ab37b8a317bd24c461b030b3fbc36503098737fdfe1d7d77e9bbe4d4", func := "gladstone/gladstonelaw60.LzwDecodes", spec := "lzwDecodes", unfollowed := true, recurses := true, plainKeys := false, apart := false }
def LzwDecodesSaid : Prop := lzwDecodesRow.holds Try.pinned (OpenSpec.ofChange lzwDecodesSpec)

/-- ITS FALSE NEIGHBOUR: 'it returns false'. Refute it at one input. -/
def lzwDecodesWrong : ChangeSpec := { name := "lzwDecodes", fn := fun _ => fun
  | [d1, d2, d3] => { results := [.lit (.bool false)], args := [d1, d2, d3] }
  | _ => none }
def LzwDecodesWrongFalsely : Prop := lzwDecodesRow.holds Try.pinned (OpenSpec.ofChange lzwDecodesWrong)

/-- 'gladstonelaw60.LzwBack': WHATEVER THE INPUT: true; the input reads as it did. -/
def lzwBackSpec : ChangeSpec := { name := "lzwBack", fn := fun _ => fun
  | [d1, d2] => { results := [.lit (.bool true)], args := [d1, d2] }
  | _ => none }
def lzwBackRow : OpenClaim := { program := "ytplopddlpoffoaa", sum := "69c3d0f8ab37b8a317bd24c461b030b3fbc36503098737fdfe1d7d77e9bbe4d4", func := "gladstone/gladstonelaw60.LzwBack", spec := "lzwBack", unfollowed := true, recurses := true, plainKeys := false, apart := false }
def LzwBackSaid : Prop := lzwBackRow.holds Try.pinned (OpenSpec.ofChange lzwBackSpec)

/-- ITS FALSE NEIGHBOUR: 'it returns false'. Refute it at one input. -/
def lzwBackWrong : ChangeSpec := { name := "lzwBack", fn := fun _ => fun
  | [d1, d2] => { results := [.lit (.bool false)], args := [d1, d2] }
  | _ => none }
def LzwBackWrongFalsely : Prop := lzwBackRow.holds Try.pinned (OpenSpec.ofChange lzwBackWrong)

/- THE SECOND FORM. 'bulk': how many values and letters a reading holds, each counted each time it is reached (what is shared counts as often as it is met; a slice's spare places count too). A statement '..UptoSaid' is the law's where the arguments, and the package variables that the reading takes, are together of bulk at most 1048576: NARROWER than '..Said'. Prove '..Said' where nothing that the law and all that it calls make is longer than what came in: it says more and counts as full. Else prove '..UptoSaid'. A law counts once. -/
mutual
def uptoBulk {H : Type} : DataW H → Nat
  | .lit (.string bytes) => bytes.length + 1
  | .lit _ => 1
  | .nil => 1
  | .ptr d => uptoBulk d + 1
  | .slice elems spare => uptoBulkAll elems + uptoBulkAll spare + 1
  | .agg parts => uptoBulkAll parts + 1
  | .iface _ d => uptoBulk d + 1
  | .map entries => uptoBulkEntries entries + 1
  | .held _ => 1
def uptoBulkAll {H : Type} : List (DataW H) → Nat
  | [] => 0
  | d :: r => uptoBulk d + uptoBulkAll r
def uptoBulkEntries {H : Type} : List (Lit × DataW H) → Nat
  | [] => 0
  | x :: r => uptoBulkEntry x + uptoBulkEntries r
def uptoBulkEntry {H : Type} : Lit × DataW H → Nat
  | (.string bytes, d) => bytes.length + uptoBulk d + 1
  | (_, d) => uptoBulk d + 1
 end
def uptoSmall : (H : Type) → List (DataW H) → Bool := fun _ ds => decide (uptoBulkAll ds ≤ 1048576)
def OpenSpec.upto (s : _root_.Go.ChangeSpec) : _root_.Go.OpenSpec := { _root_.Go.OpenSpec.ofChange s with cond := some uptoSmall }

/-- 'gladstonelaw59.TansNorms', WHERE WHAT IT READS IS OF BULK AT MOST 1048576: true; the input reads as it did. -/
def tansNormsUptoRow : OpenClaim := { program := "ytplopddlpoffoaa", sum := "69c3d0f8ab37b8a317bd24c461b030b3fbc36503098737fdfe1d7d77e9bbe4d4", func := "gladstone/gladstonelaw59.TansNorms", spec := "tansNorms", unfollowed := true, recurses := true, plainKeys := false, apart := false, narrowed := true }
def TansNormsUptoSaid : Prop := tansNormsUptoRow.holds Try.pinned (OpenSpec.upto tansNormsSpec)

/-- 'gladstonelaw59.TansDecodes', WHERE WHAT IT READS IS OF BULK AT MOST 1048576: true; the input reads as it did. -/
def tansDecodesUptoRow : OpenClaim := { program := "ytplopddlpoffoaa", sum := "69c3d0f8ab37b8a317bd24c461b030b3fbc36503098737fdfe1d7d77e9bbe4d4", func := "gladstone/gladstonelaw59.TansDecodes", spec := "tansDecodes", unfollowed := true, recurses := true, plainKeys := false, apart := false, narrowed := true }
def TansDecodesUptoSaid : Prop := tansDecodesUptoRow.holds Try.pinned (OpenSpec.upto tansDecodesSpec)

/-- 'gladstonelaw59.TansBack', WHERE WHAT IT READS IS OF BULK AT MOST 1048576: true; the input reads as it did. -/
def tansBackUptoRow : OpenClaim := { program := "ytplopddlpoffoaa", sum := "69c3d0f8ab37b8a317bd24c461b030b3fbc36503098737fdfe1d7d77e9bbe4d4", func := "gladstone/gladstonelaw59.TansBack", spec := "tansBack", unfollowed := true, recurses := true, plainKeys := false, apart := false, narrowed := true }
def TansBackUptoSaid : Prop := tansBackUptoRow.holds Try.pinned (OpenSpec.upto tansBackSpec)

/-- 'gladstonelaw60.LzwEncodes', WHERE WHAT IT READS IS OF BULK AT MOST 1048576: true; the input reads as it did. -/
def lzwEncodesUptoRow : OpenClaim := { program := "ytplopddlpoffoaa", sum := "69c3d0f8ab37b8a317bd24c461b030b3fbc36503098737fdfe1d7d77e9bbe4d4", func := "gladstone/gladstonelaw60.LzwEncodes", spec := "lzwEncodes", unfollowed := true, recurses := true, plainKeys := false, apart := false, narrowed := true }
def LzwEncodesUptoSaid : Prop := lzwEncodesUptoRow.holds Try.pinned (OpenSpec.upto lzwEncodesSpec)

/-- 'gladstonelaw60.LzwDecodes', WHERE WHAT IT READS IS OF BULK AT MOST 1048576: true; the input reads as it did. -/
def lzwDecodesUptoRow : OpenClaim := { program := "ytplopddlpoffoaa", sum := "69c3d0f8ab37b8a317bd24c461b030b3fbc36503098737fdfe1d7d77e9bbe4d4", func := "gladstone/gladstonelaw60.LzwDecodes", spec := "lzwDecodes", unfollowed := true, recurses := true, plainKeys := false, apart := false, narrowed := true }
def LzwDecodesUptoSaid : Prop := lzwDecodesUptoRow.holds Try.pinned (OpenSpec.upto lzwDecodesSpec)

/-- 'gladstonelaw60.LzwBack', WHERE WHAT IT READS IS OF BULK AT MOST 1048576: true; the input reads as it did. -/
def lzwBackUptoRow : OpenClaim := { program := "ytplopddlpoffoaa", sum := "69c3d0f8ab37b8a317bd24c461b030b3fbc36503098737fdfe1d7d77e9bbe4d4", func := "gladstone/gladstonelaw60.LzwBack", spec := "lzwBack", unfollowed := true, recurses := true, plainKeys := false, apart := false, narrowed := true }
def LzwBackUptoSaid : Prop := lzwBackUptoRow.holds Try.pinned (OpenSpec.upto lzwBackSpec)

end Rows
end Go.Proofs.Ytplopddlpoffoaa
