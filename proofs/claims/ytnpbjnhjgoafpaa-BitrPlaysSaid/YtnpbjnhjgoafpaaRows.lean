/-
  No cell of these rows narrows 'for every input' (looked for: loops, veiled, ifaces, maps, wideKeys, modest, calm, conditions, laid).
  DERIVED. THE GIVEN ROWS OF THIS SEAT. 12 by the template 'for every input the law returns true; each argument reads behind the call as it read before'; 0 by the template 'total and deterministic' (their statements: YtnpbjnhjgoafpaaTotals.lean).
  GIVEN WITH THE SEED: the statements are not yours to turn. If you find one false, say at which input.
  Laid BY PROGRAM, IN A SANDBOX (cutbox-rows.mjs): the forced cells as the released guide's own fill.sh prints them over the translation 4b949616d59909cb… (all of the seat's roots in one cut). By AI agents, Wed Nov 11 2026. No macro, syntax, notation, axiom, sorry.
-/
import Derived.Test.YtnpbjnhjgoafpaaChecked
import GoSem.Claim
import GoSem.ClaimJoined
import GoSem.ClaimMapViews
import Derived.JoinedTies
import Derived.KernelRfl
namespace Go.Proofs.Ytnpbjnhjgoafpaa
/- THE CELL 'sum', in the pinned program and in every row, IS THE sha256 OF THE DUMP (.gsa) THAT YtnpbjnhjgoafpaaProg.lean LOADS. Nothing in Lean hashes anything: it is a label: what it is worth is what the hold of that sum in a sandbox is worth. -/
noncomputable def Try.pinned : Pinned := { name := "ytnpbjnhjgoafpaa", sum := "4b949616d59909cbd5ac6d72e9f9cdbf1056715d50ba64f8342b5c5ad45e685e", checked := Try.checked }
namespace Rows
def none {H : Type} : Left H := { results := [], args := [] }

/-- 'gladstonelaw01.BitwPlays': WHATEVER THE INPUT: true; the input reads as it did. -/
def bitwPlaysSpec : ChangeSpec := { name := "bitwPlays", fn := fun _ => fun
  | [d] => { results := [.lit (.bool true)], args := [d] }
  | _ => none }
def bitwPlaysRow : OpenClaim := { program := "ytnpbjnhjgoafpaa", sum := "4b949616d59909cbd5ac6d72e9f9cdbf1056715d50ba64f8342b5c5ad45e685e", func := "gladstone/gladstonelaw01.BitwPlays", spec := "bitwPlays", unfollowed := true, recurses := true, apart := false }
def BitwPlaysSaid : Prop := bitwPlaysRow.holds Try.pinned (OpenSpec.ofChange bitwPlaysSpec)

/-- ITS FALSE NEIGHBOUR: 'it returns false'. Refute it at one input. -/
def bitwPlaysWrong : ChangeSpec := { name := "bitwPlays", fn := fun _ => fun
  | [d] => { results := [.lit (.bool false)], args := [d] }
  | _ => none }
def BitwPlaysWrongFalsely : Prop := bitwPlaysRow.holds Try.pinned (OpenSpec.ofChange bitwPlaysWrong)

/-- 'gladstonelaw01.BitwParts': WHATEVER THE INPUT: true; the input reads as it did. -/
def bitwPartsSpec : ChangeSpec := { name := "bitwParts", fn := fun _ => fun
  | [d1, d2, d3] => { results := [.lit (.bool true)], args := [d1, d2, d3] }
  | _ => none }
def bitwPartsRow : OpenClaim := { program := "ytnpbjnhjgoafpaa", sum := "4b949616d59909cbd5ac6d72e9f9cdbf1056715d50ba64f8342b5c5ad45e685e", func := "gladstone/gladstonelaw01.BitwParts", spec := "bitwParts", unfollowed := true, recurses := true, apart := false }
def BitwPartsSaid : Prop := bitwPartsRow.holds Try.pinned (OpenSpec.ofChange bitwPartsSpec)

/-- ITS FALSE NEIGHBOUR: 'it returns false'. Refute it at one input. -/
def bitwPartsWrong : ChangeSpec := { name := "bitwParts", fn := fun _ => fun
  | [d1, d2, d3] => { results := [.lit (.bool false)], args := [d1, d2, d3] }
  | _ => none }
def BitwPartsWrongFalsely : Prop := bitwPartsRow.holds Try.pinned (OpenSpec.ofChange bitwPartsWrong)

/-- 'gladstonelaw01.BitwNone': WHATEVER THE INPUT: true; the input reads as it did. -/
def bitwNoneSpec : ChangeSpec := { name := "bitwNone", fn := fun _ => fun
  | [d] => { results := [.lit (.bool true)], args := [d] }
  | _ => none }
def bitwNoneRow : OpenClaim := { program := "ytnpbjnhjgoafpaa", sum := "4b949616d59909cbd5ac6d72e9f9cdbf1056715d50ba64f8342b5c5ad45e685e", func := "gladstone/gladstonelaw01.BitwNone", spec := "bitwNone", unfollowed := true, recurses := true, apart := false }
def BitwNoneSaid : Prop := bitwNoneRow.holds Try.pinned (OpenSpec.ofChange bitwNoneSpec)

/-- ITS FALSE NEIGHBOUR: 'it returns false'. Refute it at one input. -/
def bitwNoneWrong : ChangeSpec := { name := "bitwNone", fn := fun _ => fun
  | [d] => { results := [.lit (.bool false)], args := [d] }
  | _ => none }
def BitwNoneWrongFalsely : Prop := bitwNoneRow.holds Try.pinned (OpenSpec.ofChange bitwNoneWrong)

/-- 'gladstonelaw02.BitrPlays': WHATEVER THE INPUT: true; the input reads as it did. -/
def bitrPlaysSpec : ChangeSpec := { name := "bitrPlays", fn := fun _ => fun
  | [d1, d2] => { results := [.lit (.bool true)], args := [d1, d2] }
  | _ => none }
def bitrPlaysRow : OpenClaim := { program := "ytnpbjnhjgoafpaa", sum := "4b949616d59909cbd5ac6d72e9f9cdbf1056715d50ba64f8342b5c5ad45e685e", func := "gladstone/gladstonelaw02.BitrPlays", spec := "bitrPlays", apart := false }
def BitrPlaysSaid : Prop := bitrPlaysRow.holds Try.pinned (OpenSpec.ofChange bitrPlaysSpec)

/-- ITS FALSE NEIGHBOUR: 'it returns false'. Refute it at one input. -/
def bitrPlaysWrong : ChangeSpec := { name := "bitrPlays", fn := fun _ => fun
  | [d1, d2] => { results := [.lit (.bool false)], args := [d1, d2] }
  | _ => none }
def BitrPlaysWrongFalsely : Prop := bitrPlaysRow.holds Try.pinned (OpenSpec.ofChange bitrPlaysWrong)

/-- 'gladstonelaw02.BitrBack': WHATEVER THE INPUT: true; the input reads as it did. -/
def bitrBackSpec : ChangeSpec := { name := "bitrBack", fn := fun _ => fun
  | [d1, d2] => { results := [.lit (.bool true)], args := [d1, d2] }
  | _ => none }
def bitrBackRow : OpenClaim := { program := "ytnpbjnhjgoafpaa", sum := "4b949616d59909cbd5ac6d72e9f9cdbf1056715d50ba64f8342b5c5ad45e685e", func := "gladstone/gladstonelaw02.BitrBack", spec := "bitrBack", apart := false }
def BitrBackSaid : Prop := bitrBackRow.holds Try.pinned (OpenSpec.ofChange bitrBackSpec)

/-- ITS FALSE NEIGHBOUR: 'it returns false'. Refute it at one input. -/
def bitrBackWrong : ChangeSpec := { name := "bitrBack", fn := fun _ => fun
  | [d1, d2] => { results := [.lit (.bool false)], args := [d1, d2] }
  | _ => none }
def BitrBackWrongFalsely : Prop := bitrBackRow.holds Try.pinned (OpenSpec.ofChange bitrBackWrong)

/-- 'gladstonelaw02.BitrNone': WHATEVER THE INPUT: true; the input reads as it did. -/
def bitrNoneSpec : ChangeSpec := { name := "bitrNone", fn := fun _ => fun
  | [d] => { results := [.lit (.bool true)], args := [d] }
  | _ => none }
def bitrNoneRow : OpenClaim := { program := "ytnpbjnhjgoafpaa", sum := "4b949616d59909cbd5ac6d72e9f9cdbf1056715d50ba64f8342b5c5ad45e685e", func := "gladstone/gladstonelaw02.BitrNone", spec := "bitrNone", apart := false }
def BitrNoneSaid : Prop := bitrNoneRow.holds Try.pinned (OpenSpec.ofChange bitrNoneSpec)

/-- ITS FALSE NEIGHBOUR: 'it returns false'. Refute it at one input. -/
def bitrNoneWrong : ChangeSpec := { name := "bitrNone", fn := fun _ => fun
  | [d] => { results := [.lit (.bool false)], args := [d] }
  | _ => none }
def BitrNoneWrongFalsely : Prop := bitrNoneRow.holds Try.pinned (OpenSpec.ofChange bitrNoneWrong)

/-- 'gladstonelaw03.VarintPuts': WHATEVER THE INPUT: true; the input reads as it did. -/
def varintPutsSpec : ChangeSpec := { name := "varintPuts", fn := fun _ => fun
  | [d] => { results := [.lit (.bool true)], args := [d] }
  | _ => none }
def varintPutsRow : OpenClaim := { program := "ytnpbjnhjgoafpaa", sum := "4b949616d59909cbd5ac6d72e9f9cdbf1056715d50ba64f8342b5c5ad45e685e", func := "gladstone/gladstonelaw03.VarintPuts", spec := "varintPuts", apart := false }
def VarintPutsSaid : Prop := varintPutsRow.holds Try.pinned (OpenSpec.ofChange varintPutsSpec)

/-- ITS FALSE NEIGHBOUR: 'it returns false'. Refute it at one input. -/
def varintPutsWrong : ChangeSpec := { name := "varintPuts", fn := fun _ => fun
  | [d] => { results := [.lit (.bool false)], args := [d] }
  | _ => none }
def VarintPutsWrongFalsely : Prop := varintPutsRow.holds Try.pinned (OpenSpec.ofChange varintPutsWrong)

/-- 'gladstonelaw03.VarintReads': WHATEVER THE INPUT: true; the input reads as it did. -/
def varintReadsSpec : ChangeSpec := { name := "varintReads", fn := fun _ => fun
  | [d] => { results := [.lit (.bool true)], args := [d] }
  | _ => none }
def varintReadsRow : OpenClaim := { program := "ytnpbjnhjgoafpaa", sum := "4b949616d59909cbd5ac6d72e9f9cdbf1056715d50ba64f8342b5c5ad45e685e", func := "gladstone/gladstonelaw03.VarintReads", spec := "varintReads", apart := false }
def VarintReadsSaid : Prop := varintReadsRow.holds Try.pinned (OpenSpec.ofChange varintReadsSpec)

/-- ITS FALSE NEIGHBOUR: 'it returns false'. Refute it at one input. -/
def varintReadsWrong : ChangeSpec := { name := "varintReads", fn := fun _ => fun
  | [d] => { results := [.lit (.bool false)], args := [d] }
  | _ => none }
def VarintReadsWrongFalsely : Prop := varintReadsRow.holds Try.pinned (OpenSpec.ofChange varintReadsWrong)

/-- 'gladstonelaw03.VarintBack': WHATEVER THE INPUT: true; the input reads as it did. -/
def varintBackSpec : ChangeSpec := { name := "varintBack", fn := fun _ => fun
  | [d1, d2] => { results := [.lit (.bool true)], args := [d1, d2] }
  | _ => none }
def varintBackRow : OpenClaim := { program := "ytnpbjnhjgoafpaa", sum := "4b949616d59909cbd5ac6d72e9f9cdbf1056715d50ba64f8342b5c5ad45e685e", func := "gladstone/gladstonelaw03.VarintBack", spec := "varintBack", apart := false }
def VarintBackSaid : Prop := varintBackRow.holds Try.pinned (OpenSpec.ofChange varintBackSpec)

/-- ITS FALSE NEIGHBOUR: 'it returns false'. Refute it at one input. -/
def varintBackWrong : ChangeSpec := { name := "varintBack", fn := fun _ => fun
  | [d1, d2] => { results := [.lit (.bool false)], args := [d1, d2] }
  | _ => none }
def VarintBackWrongFalsely : Prop := varintBackRow.holds Try.pinned (OpenSpec.ofChange varintBackWrong)

/-- 'gladstonelaw04.AdlerSums': WHATEVER THE INPUT: true; the input reads as it did. -/
def adlerSumsSpec : ChangeSpec := { name := "adlerSums", fn := fun _ => fun
  | [d1, d2] => { results := [.lit (.bool true)], args := [d1, d2] }
  | _ => none }
def adlerSumsRow : OpenClaim := { program := "ytnpbjnhjgoafpaa", sum := "4b949616d59909cbd5ac6d72e9f9cdbf1056715d50ba64f8342b5c5ad45e685e", func := "gladstone/gladstonelaw04.AdlerSums", spec := "adlerSums", apart := false }
def AdlerSumsSaid : Prop := adlerSumsRow.holds Try.pinned (OpenSpec.ofChange adlerSumsSpec)

/-- ITS FALSE NEIGHBOUR: 'it returns false'. Refute it at one input. -/
def adlerSumsWrong : ChangeSpec := { name := "adlerSums", fn := fun _ => fun
  | [d1, d2] => { results := [.lit (.bool false)], args := [d1, d2] }
  | _ => none }
def AdlerSumsWrongFalsely : Prop := adlerSumsRow.holds Try.pinned (OpenSpec.ofChange adlerSumsWrong)

/-- 'gladstonelaw04.AdlerJoins': WHATEVER THE INPUT: true; the input reads as it did. -/
def adlerJoinsSpec : ChangeSpec := { name := "adlerJoins", fn := fun _ => fun
  | [d1, d2, d3] => { results := [.lit (.bool true)], args := [d1, d2, d3] }
  | _ => none }
def adlerJoinsRow : OpenClaim := { program := "ytnpbjnhjgoafpaa", sum := "4b949616d59909cbd5ac6d72e9f9cdbf1056715d50ba64f8342b5c5ad45e685e", func := "gladstone/gladstonelaw04.AdlerJoins", spec := "adlerJoins", apart := false }
def AdlerJoinsSaid : Prop := adlerJoinsRow.holds Try.pinned (OpenSpec.ofChange adlerJoinsSpec)

/-- ITS FALSE NEIGHBOUR: 'it returns false'. Refute it at one input. -/
def adlerJoinsWrong : ChangeSpec := { name := "adlerJoins", fn := fun _ => fun
  | [d1, d2, d3] => { results := [.lit (.bool false)], args := [d1, d2, d3] }
  | _ => none }
def AdlerJoinsWrongFalsely : Prop := adlerJoinsRow.holds Try.pinned (OpenSpec.ofChange adlerJoinsWrong)

/-- 'gladstonelaw04.AdlerParts': WHATEVER THE INPUT: true; the input reads as it did. -/
def adlerPartsSpec : ChangeSpec := { name := "adlerParts", fn := fun _ => fun
  | [d1, d2] => { results := [.lit (.bool true)], args := [d1, d2] }
  | _ => none }
def adlerPartsRow : OpenClaim := { program := "ytnpbjnhjgoafpaa", sum := "4b949616d59909cbd5ac6d72e9f9cdbf1056715d50ba64f8342b5c5ad45e685e", func := "gladstone/gladstonelaw04.AdlerParts", spec := "adlerParts", apart := false }
def AdlerPartsSaid : Prop := adlerPartsRow.holds Try.pinned (OpenSpec.ofChange adlerPartsSpec)

/-- ITS FALSE NEIGHBOUR: 'it returns false'. Refute it at one input. -/
def adlerPartsWrong : ChangeSpec := { name := "adlerParts", fn := fun _ => fun
  | [d1, d2] => { results := [.lit (.bool false)], args := [d1, d2] }
  | _ => none }
def AdlerPartsWrongFalsely : Prop := adlerPartsRow.holds Try.pinned (OpenSpec.ofChange adlerPartsWrong)

/- THE SECOND FORM. 'bulk': how many values and letters a reading holds, each counted each time it is reached (what is shared counts as often as it is met; a slice's spare places count too). A statement '..UptoSaid' is the law's where the arguments, and the package variables that the reading takes, are together of bulk at most 1048576: NARROWER than '..Said'. Prove '..Said' where nothing that the law and all that it calls make is longer than what came in: it says more and counts as full. Else prove '..UptoSaid'. A law counts once. -/
mutual
def uptoBulk {H : Type} : DataW H → Nat
  | .lit (.string bytes) => bytes.length + 1
  | .lit _ => 1
  | .nil => 1
  | .ptr d => uptoBulk d + 1
  | .slice elems spare => uptoBulkAll elems + uptoBulkAll spare + 1
  | .agg parts => uptoBulkAll parts + 1
  | .iface _ d => uptoBulk d + 1
  | .map entries => uptoBulkEntries entries + 1
  | .held _ => 1
def uptoBulkAll {H : Type} : List (DataW H) → Nat
  | [] => 0
  | d :: r => uptoBulk d + uptoBulkAll r
def uptoBulkEntries {H : Type} : List (Lit × DataW H) → Nat
  | [] => 0
  | x :: r => uptoBulkEntry x + uptoBulkEntries r
def uptoBulkEntry {H : Type} : Lit × DataW H → Nat
  | (.string bytes, d) => bytes.length + uptoBulk d + 1
  | (_, d) => uptoBulk d + 1
 end
def uptoSmall : (H : Type) → List (DataW H) → Bool := fun _ ds => decide (uptoBulkAll ds ≤ 1048576)
def OpenSpec.upto (s : _root_.Go.ChangeSpec) : _root_.Go.OpenSpec := { _root_.Go.OpenSpec.ofChange s with cond := some uptoSmall }

/-- 'gladstonelaw01.BitwPlays', WHERE WHAT IT READS IS OF BULK AT MOST 1048576: true; the input reads as it did. -/
def bitwPlaysUptoRow : OpenClaim := { program := "ytnpbjnhjgoafpaa", sum := "4b949616d59909cbd5ac6d72e9f9cdbf1056715d50ba64f8342b5c5ad45e685e", func := "gladstone/gladstonelaw01.BitwPlays", spec := "bitwPlays", unfollowed := true, recurses := true, apart := false, narrowed := true }
def BitwPlaysUptoSaid : Prop := bitwPlaysUptoRow.holds Try.pinned (OpenSpec.upto bitwPlaysSpec)

/-- 'gladstonelaw01.BitwParts', WHERE WHAT IT READS IS OF BULK AT MOST 1048576: true; the input reads as it did. -/
def bitwPartsUptoRow : OpenClaim := { program := "ytnpbjnhjgoafpaa", sum := "4b949616d59909cbd5ac6d72e9f9cdbf1056715d50ba64f8342b5c5ad45e685e", func := "gladstone/gladstonelaw01.BitwParts", spec := "bitwParts", unfollowed := true, recurses := true, apart := false, narrowed := true }
def BitwPartsUptoSaid : Prop := bitwPartsUptoRow.holds Try.pinned (OpenSpec.upto bitwPartsSpec)

/-- 'gladstonelaw01.BitwNone', WHERE WHAT IT READS IS OF BULK AT MOST 1048576: true; the input reads as it did. -/
def bitwNoneUptoRow : OpenClaim := { program := "ytnpbjnhjgoafpaa", sum := "4b949616d59909cbd5ac6d72e9f9cdbf1056715d50ba64f8342b5c5ad45e685e", func := "gladstone/gladstonelaw01.BitwNone", spec := "bitwNone", unfollowed := true, recurses := true, apart := false, narrowed := true }
def BitwNoneUptoSaid : Prop := bitwNoneUptoRow.holds Try.pinned (OpenSpec.upto bitwNoneSpec)

/-- 'gladstonelaw02.BitrPlays', WHERE WHAT IT READS IS OF BULK AT MOST 1048576: true; the input reads as it did. -/
def bitrPlaysUptoRow : OpenClaim := { program := "ytnpbjnhjgoafpaa", sum := "4b949616d59909cbd5ac6d72e9f9cdbf1056715d50ba64f8342b5c5ad45e685e", func := "gladstone/gladstonelaw02.BitrPlays", spec := "bitrPlays", apart := false, narrowed := true }
def BitrPlaysUptoSaid : Prop := bitrPlaysUptoRow.holds Try.pinned (OpenSpec.upto bitrPlaysSpec)

/-- 'gladstonelaw02.BitrBack', WHERE WHAT IT READS IS OF BULK AT MOST 1048576: true; the input reads as it did. -/
def bitrBackUptoRow : OpenClaim := { program := "ytnpbjnhjgoafpaa", sum := "4b949616d59909cbd5ac6d72e9f9cdbf1056715d50ba64f8342b5c5ad45e685e", func := "gladstone/gladstonelaw02.BitrBack", spec := "bitrBack", apart := false, narrowed := true }
def BitrBackUptoSaid : Prop := bitrBackUptoRow.holds Try.pinned (OpenSpec.upto bitrBackSpec)

/-- 'gladstonelaw02.BitrNone', WHERE WHAT IT READS IS OF BULK AT MOST 1048576: true; the input reads as it did. -/
def bitrNoneUptoRow : OpenClaim := { program := "ytnpbjnhjgoafpaa", sum := "4b949616d59909cbd5ac6d72e9f9cdbf1056715d50ba64f8342b5c5ad45e685e", func := "gladstone/gladstonelaw02.BitrNone", spec := "bitrNone", apart := false, narrowed := true }
def BitrNoneUptoSaid : Prop := bitrNoneUptoRow.holds Try.pinned (OpenSpec.upto bitrNoneSpec)

/-- 'gladstonelaw03.VarintPuts', WHERE WHAT IT READS IS OF BULK AT MOST 1048576: true; the input reads as it did. -/
def varintPutsUptoRow : OpenClaim := { program := "ytnpbjnhjgoafpaa", sum := "4b949616d59909cbd5ac6d72e9f9cdbf1056715d50ba64f8342b5c5ad45e685e", func := "gladstone/gladstonelaw03.VarintPuts", spec := "varintPuts", apart := false, narrowed := true }
def VarintPutsUptoSaid : Prop := varintPutsUptoRow.holds Try.pinned (OpenSpec.upto varintPutsSpec)

/-- 'gladstonelaw03.VarintReads', WHERE WHAT IT READS IS OF BULK AT MOST 1048576: true; the input reads as it did. -/
def varintReadsUptoRow : OpenClaim := { program := "ytnpbjnhjgoafpaa", sum := "4b949616d59909cbd5ac6d72e9f9cdbf1056715d50ba64f8342b5c5ad45e685e", func := "gladstone/gladstonelaw03.VarintReads", spec := "varintReads", apart := false, narrowed := true }
def VarintReadsUptoSaid : Prop := varintReadsUptoRow.holds Try.pinned (OpenSpec.upto varintReadsSpec)

/-- 'gladstonelaw03.VarintBack', WHERE WHAT IT READS IS OF BULK AT MOST 1048576: true; the input reads as it did. -/
def varintBackUptoRow : OpenClaim := { program := "ytnpbjnhjgoafpaa", sum := "4b949616d59909cbd5ac6d72e9f9cdbf1056715d50ba64f8342b5c5ad45e685e", func := "gladstone/gladstonelaw03.VarintBack", spec := "varintBack", apart := false, narrowed := true }
def VarintBackUptoSaid : Prop := varintBackUptoRow.holds Try.pinned (OpenSpec.upto varintBackSpec)

/-- 'gladstonelaw04.AdlerSums', WHERE WHAT IT READS IS OF BULK AT MOST 1048576: true; the input reads as it did. -/
def adlerSumsUptoRow : OpenClaim := { program := "ytnpbjnhjgoafpaa", sum := "4b949616d59909cbd5ac6d72e9f9cdbf1056715d50ba64f8342b5c5ad45e685e", func := "gladstone/gladstonelaw04.AdlerSums", spec := "adlerSums", apart := false, narrowed := true }
def AdlerSumsUptoSaid : Prop := adlerSumsUptoRow.holds Try.pinned (OpenSpec.upto adlerSumsSpec)

/-- 'gladstonelaw04.AdlerJoins', WHERE WHAT IT READS IS OF BULK AT MOST 1048576: true; the input reads as it did. -/
def adlerJoinsUptoRow : OpenClaim := { program := "ytnpbjnhjgoafpaa", sum := "4b949616d59909cbd5ac6d72e9f9cdbf1056715d50ba64f8342b5c5ad45e685e", func := "gladstone/gladstonelaw04.AdlerJoins", spec := "adlerJoins", apart := false, narrowed := true }
def AdlerJoinsUptoSaid : Prop := adlerJoinsUptoRow.holds Try.pinned (OpenSpec.upto adlerJoinsSpec)

/-- 'gladstonelaw04.AdlerParts', WHERE WHAT IT READS IS OF BULK AT MOST 1048576: true; the input reads as it did. -/
def adlerPartsUptoRow : OpenClaim := { program := "ytnpbjnhjgoafpaa", sum := "4b949616d59909cbd5ac6d72e9f9cdbf1056715d50ba64f8342b5c5ad45e685e", func := "gladstone/gladstonelaw04.AdlerParts", spec := "adlerParts", apart := false, narrowed := true }
def AdlerPartsUptoSaid : Prop := adlerPartsUptoRow.holds Try.pinned (OpenSpec.upto adlerPartsSpec)

end Rows
end Go.Proofs.Ytnpbjnhjgoafpaa
