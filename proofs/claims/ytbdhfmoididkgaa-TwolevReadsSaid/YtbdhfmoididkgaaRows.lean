/-
  No cell of these rows narrows 'for every input' (looked for: loops, veiled, ifaces, maps, wideKeys, modest, calm, conditions, laid).
  DERIVED. THE GIVEN ROWS OF THIS SEAT. 2 by the template 'for every input the law returns true; each argument reads behind the call as it read before'; 0 by the template 'total and deterministic' (their statements: YtbdhfmoididkgaaTotals.lean).
  GIVEN WITH THE SEED: the statements are not yours to turn. If you find one false, say at which input.
  Laid BY PROGRAM, IN A SANDBOX (cutbox-rows.mjs): the forced cells as the released guide's own fill.sh prints them over the translation ae0a934d1e2486f0… (all of the seat's roots in one cut). By AI agents, Wed Nov 11 2026. No macro, syntax, notation, axiom, sorry.
-/
import Derived.Test.YtbdhfmoididkgaaChecked
import GoSem.Claim
import GoSem.ClaimJoined
import GoSem.ClaimMapViews
import Derived.JoinedTies
import Derived.KernelRfl
namespace Go.Proofs.Ytbdhfmoididkgaa
/- THE CELL 'sum', in the pinned program and in every row, IS THE sha256 OF THE DUMP (.gsa) THAT YtbdhfmoididkgaaProg.lean LOADS. Nothing in Lean hashes anything: it is a label: what it is worth is what the hold of that sum in a sandbox is worth. -/
noncomputable def Try.pinned : Pinned := { name := "ytbdhfmoididkgaa", sum := "ae0a934d1e2486f0586db3b06f37b1190e85cdde265b900165c8eec383caae24", checked := Try.checked }
namespace Rows
def none {H : Type} : Left H := { results := [], args := [] }

/-- 'gladstonelaw11.TwolevReads': WHATEVER THE INPUT: true; the input reads as it did. -/
def twolevReadsSpec : ChangeSpec := { name := "twolevReads", fn := fun _ => fun
  | [d1, d2, d3] => { results := [.lit (.bool true)], args := [d1, d2, d3] }
  | _ => none }
def twolevReadsRow : OpenClaim := { program := "ytbdhfmoididkgaa", sum := "ae0a934d1e2486f0586db3b06f37b1190e85cdde265b900165c8eec383caae24", func := "gladstone/gladstonelaw11.TwolevReads", spec := "twolevReads", apart := false }
def TwolevReadsSaid : Prop := twolevReadsRow.holds Try.pinned (OpenSpec.ofChange twolevReadsSpec)

/-- ITS FALSE NEIGHBOUR: 'it returns false'. Refute it at one input. -/
def twolevReadsWrong : ChangeSpec := { name := "twolevReads", fn := fun _ => fun
  | [d1, d2, d3] => { results := [.lit (.bool false)], args := [d1, d2, d3] }
  | _ => none }
def TwolevReadsWrongFalsely : Prop := twolevReadsRow.holds Try.pinned (OpenSpec.ofChange twolevReadsWrong)

/-- 'gladstonelaw11.TwolevNone': WHATEVER THE INPUT: true; the input reads as it did. -/
def twolevNoneSpec : ChangeSpec := { name := "twolevNone", fn := fun _ => fun
  | [d] => { results := [.lit (.bool true)], args := [d] }
  | _ => none }
def twolevNoneRow : OpenClaim := { program := "ytbdhfmoididkgaa", sum := "ae0a934d1e2486f0586db3b06f37b1190e85cdde265b900165c8eec383caae24", func := "gladstone/gladstonelaw11.TwolevNone", spec := "twolevNone", apart := false }
def TwolevNoneSaid : Prop := twolevNoneRow.holds Try.pinned (OpenSpec.ofChange twolevNoneSpec)

/-- ITS FALSE NEIGHBOUR: 'it returns false'. Refute it at one input. -/
def twolevNoneWrong : ChangeSpec := { name := "twolevNone", fn := fun _ => fun
  | [d] => { results := [.lit (.bool false)], args := [d] }
  | _ => none }
def TwolevNoneWrongFalsely : Prop := twolevNoneRow.holds Try.pinned (OpenSpec.ofChange twolevNoneWrong)

/- THE SECOND FORM. 'bulk': how many values and letters a reading holds, each counted each time it is reached (what is shared counts as often as it is met; a slice's spare places count too). A statement '..UptoSaid' is the law's where the arguments, and the package variables that the reading takes, are together of bulk at most 1048576: NARROWER than '..Said'. Prove '..Said' where nothing that the law and all that it calls make is longer than what came in: it says more and counts as full. Else prove '..UptoSaid'. A law counts once. -/
mutual
def uptoBulk {H : Type} : DataW H → Nat
  | .lit (.string bytes) => bytes.length + 1
  | .lit _ => 1
  | .nil => 1
  | .ptr d => uptoBulk d + 1
  | .slice elems spare => uptoBulkAll elems + uptoBulkAll spare + 1
  | .agg parts => uptoBulkAll parts + 1
  | .iface _ d => uptoBulk d + 1
  | .map entries => uptoBulkEntries entries + 1
  | .held _ => 1
def uptoBulkAll {H : Type} : List (DataW H) → Nat
  | [] => 0
  | d :: r => uptoBulk d + uptoBulkAll r
def uptoBulkEntries {H : Type} : List (Lit × DataW H) → Nat
  | [] => 0
  | x :: r => uptoBulkEntry x + uptoBulkEntries r
def uptoBulkEntry {H : Type} : Lit × DataW H → Nat
  | (.string bytes, d) => bytes.length + uptoBulk d + 1
  | (_, d) => uptoBulk d + 1
 end
def uptoSmall : (H : Type) → List (DataW H) → Bool := fun _ ds => decide (uptoBulkAll ds ≤ 1048576)
def OpenSpec.upto (s : _root_.Go.ChangeSpec) : _root_.Go.OpenSpec := { _root_.Go.OpenSpec.ofChange s with cond := some uptoSmall }

/-- 'gladstonelaw11.TwolevReads', WHERE WHAT IT READS IS OF BULK AT MOST 1048576: true; the input reads as it did. -/
def twolevReadsUptoRow : OpenClaim := { program := "ytbdhfmoididkgaa", sum := "ae0a934d1e2486f0586db3b06f37b1190e85cdde265b900165c8eec383caae24", func := "gladstone/gladstonelaw11.TwolevReads", spec := "twolevReads", apart := false, narrowed := true }
def TwolevReadsUptoSaid : Prop := twolevReadsUptoRow.holds Try.pinned (OpenSpec.upto twolevReadsSpec)

/-- 'gladstonelaw11.TwolevNone', WHERE WHAT IT READS IS OF BULK AT MOST 1048576: true; the input reads as it did. -/
def twolevNoneUptoRow : OpenClaim := { program := "ytbdhfmoididkgaa", sum := "ae0a934d1e2486f0586db3b06f37b1190e85cdde265b900165c8eec383caae24", func := "gladstone/gladstonelaw11.TwolevNone", spec := "twolevNone", apart := false, narrowed := true }
def TwolevNoneUptoSaid : Prop := twolevNoneUptoRow.holds Try.pinned (OpenSpec.upto twolevNoneSpec)

end Rows
end Go.Proofs.Ytbdhfmoididkgaa
