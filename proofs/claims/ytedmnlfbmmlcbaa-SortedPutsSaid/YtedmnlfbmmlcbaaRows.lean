/-
  No cell of these rows narrows 'for every input' (looked for: loops, veiled, ifaces, maps, wideKeys, modest, calm, conditions, laid).
  DERIVED. THE GIVEN ROWS OF THIS SEAT. 2 by the template 'for every input the law returns true; each argument reads behind the call as it read before'; 0 by the template 'total and deterministic' (their statements: YtedmnlfbmmlcbaaTotals.lean).
  GIVEN WITH THE SEED: the statements are not yours to turn. If you find one false, say at which input.
  Laid BY PROGRAM, IN A SANDBOX (cutbox-rows.mjs): the forced cells as the released guide's own fill.sh prints them over the translation 8c4e6b08f71e56eb… (all of the seat's roots in one cut). By AI agents, Wed Nov 11 2026. No macro, syntax, notation, axiom, sorry.
-/
import Derived.Test.YtedmnlfbmmlcbaaChecked
import GoSem.Claim
import GoSem.ClaimJoined
import GoSem.ClaimMapViews
import Derived.JoinedTies
import Derived.KernelRfl
namespace Go.Proofs.Ytedmnlfbmmlcbaa
/- THE CELL 'sum', in the pinned program and in every row, IS THE sha256 OF THE DUMP (.gsa) THAT YtedmnlfbmmlcbaaProg.lean LOADS. Nothing in Lean hashes anything: it is a label: what it is worth is what the hold of that sum in a sandbox is worth. -/
noncomputable def Try.pinned : Pinned := { name := "ytedmnlfbmmlcbaa", sum := "8c4e6b08f71e56eb7e13562775e4c6525c938e8343e4ab013dd7528f264c9019", checked := Try.checked }
namespace Rows
def none {H : Type} : Left H := { results := [], args := [] }

/-- 'gladstonelaw50.SortedPuts': WHATEVER THE INPUT: true; the input reads as it did. -/
def sortedPutsSpec : ChangeSpec := { name := "sortedPuts", fn := fun _ => fun
  | [d] => { results := [.lit (.bool true)], args := [d] }
  | _ => none }
def sortedPutsRow : OpenClaim := { program := "ytedmnlfbmmlcbaa", sum := "8c4e6b08f71e56eb7e13562775e4c6525c938e8343e4ab013dd7528f264c9019", func := "gladstone/gladstonelaw50.SortedPuts", spec := "sortedPuts", inPlace := ["internal/bytealg.IndexByte"], unfollowed := true, recurses := true, apart := false }
def SortedPutsSaid : Prop := sortedPutsRow.holds Try.pinned (OpenSpec.ofChange sortedPutsSpec)

/-- ITS FALSE NEIGHBOUR: 'it returns false'. Refute it at one input. -/
def sortedPutsWrong : ChangeSpec := { name := "sortedPuts", fn := fun _ => fun
  | [d] => { results := [.lit (.bool false)], args := [d] }
  | _ => none }
def SortedPutsWrongFalsely : Prop := sortedPutsRow.holds Try.pinned (OpenSpec.ofChange sortedPutsWrong)

/-- 'gladstonelaw50.SortedBack': WHATEVER THE INPUT: true; the input reads as it did. -/
def sortedBackSpec : ChangeSpec := { name := "sortedBack", fn := fun _ => fun
  | [d] => { results := [.lit (.bool true)], args := [d] }
  | _ => none }
def sortedBackRow : OpenClaim := { program := "ytedmnlfbmmlcbaa", sum := "8c4e6b08f71e56eb7e13562775e4c6525c938e8343e4ab013dd7528f264c9019", func := "gladstone/gladstonelaw50.SortedBack", spec := "sortedBack", inPlace := ["internal/bytealg.IndexByte"], unfollowed := true, recurses := true, apart := false }
def SortedBackSaid : Prop := sortedBackRow.holds Try.pinned (OpenSpec.ofChange sortedBackSpec)

/-- ITS FALSE NEIGHBOUR: 'it returns false'. Refute it at one input. -/
def sortedBackWrong : ChangeSpec := { name := "sortedBack", fn := fun _ => fun
  | [d] => { results := [.lit (.bool false)], args := [d] }
  | _ => none }
def SortedBackWrongFalsely : Prop := sortedBackRow.holds Try.pinned (OpenSpec.ofChange sortedBackWrong)

/- THE SECOND FORM. 'bulk': how many values and letters a reading holds, each counted each time it is reached (what is shared counts as often as it is met; a slice's spare places count too). A statement '..UptoSaid' is the law's where the arguments, and the package variables that the reading takes, are together of bulk at most 1048576: NARROWER than '..Said'. Prove '..Said' where nothing that the law and all that it calls make is longer than what came in: it says more and counts as full. Else prove '..UptoSaid'. A law counts once. -/
mutual
def uptoBulk {H : Type} : DataW H → Nat
  | .lit (.string bytes) => bytes.length + 1
  | .lit _ => 1
  | .nil => 1
  | .ptr d => uptoBulk d + 1
  | .slice elems spare => uptoBulkAll elems + uptoBulkAll spare + 1
  | .agg parts => uptoBulkAll parts + 1
  | .iface _ d => uptoBulk d + 1
  | .map entries => uptoBulkEntries entries + 1
  | .held _ => 1
def uptoBulkAll {H : Type} : List (DataW H) → Nat
  | [] => 0
  | d :: r => uptoBulk d + uptoBulkAll r
def uptoBulkEntries {H : Type} : List (Lit × DataW H) → Nat
  | [] => 0
  | x :: r => uptoBulkEntry x + uptoBulkEntries r
def uptoBulkEntry {H : Type} : Lit × DataW H → Nat
  | (.string bytes, d) => bytes.length + uptoBulk d + 1
  | (_, d) => uptoBulk d + 1
 end
def uptoSmall : (H : Type) → List (DataW H) → Bool := fun _ ds => decide (uptoBulkAll ds ≤ 1048576)
def OpenSpec.upto (s : _root_.Go.ChangeSpec) : _root_.Go.OpenSpec := { _root_.Go.OpenSpec.ofChange s with cond := some uptoSmall }

/-- 'gladstonelaw50.SortedPuts', WHERE WHAT IT READS IS OF BULK AT MOST 1048576: true; the input reads as it did. -/
def sortedPutsUptoRow : OpenClaim := { program := "ytedmnlfbmmlcbaa", sum := "8c4e6b08f71e56eb7e13562775e4c6525c938e8343e4ab013dd7528f264c9019", func := "gladstone/gladstonelaw50.SortedPuts", spec := "sortedPuts", inPlace := ["internal/bytealg.IndexByte"], unfollowed := true, recurses := true, apart := false, narrowed := true }
def SortedPutsUptoSaid : Prop := sortedPutsUptoRow.holds Try.pinned (OpenSpec.upto sortedPutsSpec)

/-- 'gladstonelaw50.SortedBack', WHERE WHAT IT READS IS OF BULK AT MOST 1048576: true; the input reads as it did. -/
def sortedBackUptoRow : OpenClaim := { program := "ytedmnlfbmmlcbaa", sum := "8c4e6b08f71e56eb7e13562775e4c6525c938e8343e4ab013dd7528f264c9019", func := "gladstone/gladstonelaw50.SortedBack", spec := "sortedBack", inPlace := ["internal/bytealg.IndexByte"], unfollowed := true, recurses := true, apart := false, narrowed := true }
def SortedBackUptoSaid : Prop := sortedBackUptoRow.holds Try.pinned (OpenSpec.upto sortedBackSpec)

end Rows
end Go.Proofs.Ytedmnlfbmmlcbaa
