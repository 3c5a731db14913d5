/-
  No cell of these rows narrows 'for every input' (looked for: loops, veiled, ifaces, maps, wideKeys, modest, calm, conditions, laid).
  DERIVED. THE GIVEN ROWS OF THIS SEAT. 11 by the template 'for every input the law returns true; each argument reads behind the call as it read before'; 0 by the template 'total and deterministic' (their statements: YtkdkedgpchcfpaaTotals.lean).
  GIVEN WITH THE SEED: the statements are not yours to turn. If you find one false, say at which input.
  Laid BY PROGRAM, IN A SANDBOX (cutbox-rows.mjs): the forced cells as the released guide's own fill.sh prints them over the translation d88178c5be579716… (all of the seat's roots in one cut). By AI agents, Wed Nov 11 2026. No macro, syntax, notation, axiom, sorry.
-/
import Derived.Test.YtkdkedgpchcfpaaChecked
import GoSem.Claim
import GoSem.ClaimJoined
import GoSem.ClaimMapViews
import Derived.JoinedTies
import Derived.KernelRfl
namespace Go.Proofs.Ytkdkedgpchcfpaa
/- THE CELL 'sum', in the pinned program and in every row, IS THE sha256 OF THE DUMP (.gsa) THAT YtkdkedgpchcfpaaProg.lean LOADS. Nothing in Lean hashes anything: it is a label: what it is worth is what the hold of that sum in a sandbox is worth. -/
noncomputable def Try.pinned : Pinned := { name := "ytkdkedgpchcfpaa", sum := "d88178c5be579716d007ddef268c1e194ee1212e05e917076327ba61c3d9c77a", checked := Try.checked }
namespace Rows
def none {H : Type} : Left H := { results := [], args := [] }

/-- 'gladstonelaw45.RangerEncodes': WHATEVER THE INPUT: true; the input reads as it did. -/
def rangerEncodesSpec : ChangeSpec := { name := "rangerEncodes", fn := fun _ => fun
  | [d1, d2] => { results := [.lit (.bool true)], args := [d1, d2] }
  | _ => none }
def rangerEncodesRow : OpenClaim := { program := "ytkdkedgpchcfpaa", sum := "d88178c5be579716d007ddef268c1e194ee1212e05e917076327ba61c3d9c77a", func := "gladstone/gladstonelaw45.RangerEncodes", spec := "rangerEncodes", unfollowed := true, recurses := true, plainKeys := false, apart := false }
def RangerEncodesSaid : Prop := rangerEncodesRow.holds Try.pinned (OpenSpec.ofChange rangerEncodesSpec)

/-- ITS FALSE NEIGHBOUR: 'it returns false'. Refute it at one input. -/
def rangerEncodesWrong : ChangeSpec := { name := "rangerEncodes", fn := fun _ => fun
  | [d1, d2] => { results := [.lit (.bool false)], args := [d1, d2] }
  | _ => none }
def RangerEncodesWrongFalsely : Prop := rangerEncodesRow.holds Try.pinned (OpenSpec.ofChange rangerEncodesWrong)

/-- 'gladstonelaw45.RangerDecodes': WHATEVER THE INPUT: true; the input reads as it did. -/
def rangerDecodesSpec : ChangeSpec := { name := "rangerDecodes", fn := fun _ => fun
  | [d1, d2] => { results := [.lit (.bool true)], args := [d1, d2] }
  | _ => none }
def rangerDecodesRow : OpenClaim := { program := "ytkdkedgpchcfpaa", sum := "d88178c5be579716d007ddef268c1e194ee1212e05e917076327ba61c3d9c77a", func := "gladstone/gladstonelaw45.RangerDecodes", spec := "rangerDecodes", unfollowed := true, recurses := true, plainKeys := false, apart := false }
def RangerDecodesSaid : Prop := rangerDecodesRow.holds Try.pinned (OpenSpec.ofChange rangerDecodesSpec)

/-- ITS FALSE NEIGHBOUR: 'it returns false'. Refute it at one input. -/
def rangerDecodesWrong : ChangeSpec := { name := "rangerDecodes", fn := fun _ => fun
  | [d1, d2] => { results := [.lit (.bool false)], args := [d1, d2] }
  | _ => none }
def RangerDecodesWrongFalsely : Prop := rangerDecodesRow.holds Try.pinned (OpenSpec.ofChange rangerDecodesWrong)

/-- 'gladstonelaw45.RangerBack': WHATEVER THE INPUT: true; the input reads as it did. -/
def rangerBackSpec : ChangeSpec := { name := "rangerBack", fn := fun _ => fun
  | [d1, d2, d3] => { results := [.lit (.bool true)], args := [d1, d2, d3] }
  | _ => none }
def rangerBackRow : OpenClaim := { program := "ytkdkedgpchcfpaa", sum := "d88178c5be579716d007ddef268c1e194ee1212e05e917076327ba61c3d9c77a", func := "gladstone/gladstonelaw45.RangerBack", spec := "rangerBack", unfollowed := true, recurses := true, plainKeys := false, apart := false }
def RangerBackSaid : Prop := rangerBackRow.holds Try.pinned (OpenSpec.ofChange rangerBackSpec)

/-- ITS FALSE NEIGHBOUR: 'it returns false'. Refute it at one input. -/
def rangerBackWrong : ChangeSpec := { name := "rangerBack", fn := fun _ => fun
  | [d1, d2, d3] => { results := [.lit (.bool false)], args := [d1, d2, d3] }
  | _ => none }
def RangerBackWrongFalsely : Prop := rangerBackRow.holds Try.pinned (OpenSpec.ofChange rangerBackWrong)

/-- 'gladstonelaw45.RangerNone': WHATEVER THE INPUT: true; the input reads as it did. -/
def rangerNoneSpec : ChangeSpec := { name := "rangerNone", fn := fun _ => fun
  | [d] => { results := [.lit (.bool true)], args := [d] }
  | _ => none }
def rangerNoneRow : OpenClaim := { program := "ytkdkedgpchcfpaa", sum := "d88178c5be579716d007ddef268c1e194ee1212e05e917076327ba61c3d9c77a", func := "gladstone/gladstonelaw45.RangerNone", spec := "rangerNone", unfollowed := true, recurses := true, plainKeys := false, apart := false }
def RangerNoneSaid : Prop := rangerNoneRow.holds Try.pinned (OpenSpec.ofChange rangerNoneSpec)

/-- ITS FALSE NEIGHBOUR: 'it returns false'. Refute it at one input. -/
def rangerNoneWrong : ChangeSpec := { name := "rangerNone", fn := fun _ => fun
  | [d] => { results := [.lit (.bool false)], args := [d] }
  | _ => none }
def RangerNoneWrongFalsely : Prop := rangerNoneRow.holds Try.pinned (OpenSpec.ofChange rangerNoneWrong)

/-- 'gladstonelaw46.BittreeCodes': WHATEVER THE INPUT: true; the input reads as it did. -/
def bittreeCodesSpec : ChangeSpec := { name := "bittreeCodes", fn := fun _ => fun
  | [d1, d2, d3] => { results := [.lit (.bool true)], args := [d1, d2, d3] }
  | _ => none }
def bittreeCodesRow : OpenClaim := { program := "ytkdkedgpchcfpaa", sum := "d88178c5be579716d007ddef268c1e194ee1212e05e917076327ba61c3d9c77a", func := "gladstone/gladstonelaw46.BittreeCodes", spec := "bittreeCodes", unfollowed := true, recurses := true, plainKeys := false, apart := false }
def BittreeCodesSaid : Prop := bittreeCodesRow.holds Try.pinned (OpenSpec.ofChange bittreeCodesSpec)

/-- ITS FALSE NEIGHBOUR: 'it returns false'. Refute it at one input. -/
def bittreeCodesWrong : ChangeSpec := { name := "bittreeCodes", fn := fun _ => fun
  | [d1, d2, d3] => { results := [.lit (.bool false)], args := [d1, d2, d3] }
  | _ => none }
def BittreeCodesWrongFalsely : Prop := bittreeCodesRow.holds Try.pinned (OpenSpec.ofChange bittreeCodesWrong)

/-- 'gladstonelaw46.BittreeBack': WHATEVER THE INPUT: true; the input reads as it did. -/
def bittreeBackSpec : ChangeSpec := { name := "bittreeBack", fn := fun _ => fun
  | [d1, d2] => { results := [.lit (.bool true)], args := [d1, d2] }
  | _ => none }
def bittreeBackRow : OpenClaim := { program := "ytkdkedgpchcfpaa", sum := "d88178c5be579716d007ddef268c1e194ee1212e05e917076327ba61c3d9c77a", func := "gladstone/gladstonelaw46.BittreeBack", spec := "bittreeBack", unfollowed := true, recurses := true, plainKeys := false, apart := false }
def BittreeBackSaid : Prop := bittreeBackRow.holds Try.pinned (OpenSpec.ofChange bittreeBackSpec)

/-- ITS FALSE NEIGHBOUR: 'it returns false'. Refute it at one input. -/
def bittreeBackWrong : ChangeSpec := { name := "bittreeBack", fn := fun _ => fun
  | [d1, d2] => { results := [.lit (.bool false)], args := [d1, d2] }
  | _ => none }
def BittreeBackWrongFalsely : Prop := bittreeBackRow.holds Try.pinned (OpenSpec.ofChange bittreeBackWrong)

/-- 'gladstonelaw60.LzwEncodes': WHATEVER THE INPUT: true; the input reads as it did. -/
def lzwEncodesSpec : ChangeSpec := { name := "lzwEncodes", fn := fun _ => fun
  | [d1, d2] => { results := [.lit (.bool true)], args := [d1, d2] }
  | _ => none }
def lzwEncodesRow : OpenClaim := { program := "ytkdkedgpchcfpaa", sum := "d88178c5be579716d007ddef268c1e194ee1212e05e917076327ba61c3d9c77a", func := "gladstone/gladstonelaw60.LzwEncodes", spec := "lzwEncodes", unfollowed := true, recurses := true, plainKeys := false, apart := false }
def LzwEncodesSaid : Prop := lzwEncodesRow.holds Try.pinned (OpenSpec.ofChange lzwEncodesSpec)

/-- ITS FALSE NEIGHBOUR: 'it returns false'. Refute it at one input. -/
def lzwEncodesWrong : ChangeSpec := { name := "lzwEncodes", fn := fun _ => fun
  | [d1, d2] => { results := [.lit (.bool false)], args := [d1, d2] }
  | _ => none }
def LzwEncodesWrongFalsely : Prop := lzwEncodesRow.holds Try.pinned (OpenSpec.ofChange lzwEncodesWrong)

/-- 'gladstonelaw60.LzwDecodes': WHATEVER THE INPUT: true; the input reads as it did. -/
def lzwDecodesSpec : ChangeSpec := { name := "lzwDecodes", fn := fun _ => fun
  | [d1, d2, d3] => { results := [.lit (.bool true)], args := [d1, d2, d3] }
  | _ => none }
def lzwDecodesRow : OpenClaim := { program := "ytkdkedgpchcfpaa", sum := "d88178c5be579716d007ddef268c1e194ee1212e05e917076327ba61c3d9c77a", func := "gladstone/gladstonelaw60.LzwDecodes", spec := "lzwDecodes", unfollowed := true, recurses := true, plainKeys := false, apart := false }
def LzwDecodesSaid : Prop := lzwDecodesRow.holds Try.pinned (OpenSpec.ofChange lzwDecodesSpec)

/-- ITS FALSE NEIGHBOUR: 'it returns false'. Refute it at one input. -/
def lzwDecodesWrong : ChangeSpec := { name := "lzwDecodes", fn := fun _ => fun
  | [d1, d2, d3] => { results := [.lit (.bool false)], args := [d1, d2, d3] }
  | _ => none }
def LzwDecodesWrongFalsely : Prop := lzwDecodesRow.holds Try.pinned (OpenSpec.ofChange lzwDecodesWrong)

/-- 'gladstonelaw60.LzwBack': WHATEVER THE INPUT: true; the input reads as it did. -/
def lzwBackSpec : ChangeSpec := { name := "lzwBack", fn := fun _ => fun
  | [d1, d2] => { results := [.lit (.bool true)], args := [d1, d2] }
  | _ => none }
def lzwBackRow : OpenClaim := { program := "ytkdkedgpchcfpaa", sum := "d88178c5be579716d007ddef268c1e194ee1212e05e917076327ba61c3d9c77a", func := "gladstone/gladstonelaw60.LzwBack", spec := "lzwBack", unfollowed := true, recurses := true, plainKeys := false, apart := false }
def LzwBackSaid : Prop := lzwBackRow.holds Try.pinned (OpenSpec.ofChange lzwBackSpec)

/-- ITS FALSE NEIGHBOUR: 'it returns false'. Refute it at one input. -/
def lzwBackWrong : ChangeSpec := { name := "lzwBack", fn := fun _ => fun
  | [d1, d2] => { results := [.lit (.bool false)], args := [d1, d2] }
  | _ => none }
def LzwBackWrongFalsely : Prop := lzwBackRow.holds Try.pinned (OpenSpec.ofChange lzwBackWrong)

/-- 'gladstonelaw61.MarkovCodes': WHATEVER THE INPUT: true; the input reads as it did. -/
def markovCodesSpec : ChangeSpec := { name := "markovCodes", fn := fun _ => fun
  | [d1, d2, d3] => { results := [.lit (.bool true)], args := [d1, d2, d3] }
  | _ => none }
def markovCodesRow : OpenClaim := { program := "ytkdkedgpchcfpaa", sum := "d88178c5be579716d007ddef268c1e194ee1212e05e917076327ba61c3d9c77a", func := "gladstone/gladstonelaw61.MarkovCodes", spec := "markovCodes", unfollowed := true, recurses := true, plainKeys := false, apart := false }
def MarkovCodesSaid : Prop := markovCodesRow.holds Try.pinned (OpenSpec.ofChange markovCodesSpec)

/-- ITS FALSE NEIGHBOUR: 'it returns false'. Refute it at one input. -/
def markovCodesWrong : ChangeSpec := { name := "markovCodes", fn := fun _ => fun
  | [d1, d2, d3] => { results := [.lit (.bool false)], args := [d1, d2, d3] }
  | _ => none }
def MarkovCodesWrongFalsely : Prop := markovCodesRow.holds Try.pinned (OpenSpec.ofChange markovCodesWrong)

/-- 'gladstonelaw61.MarkovBack': WHATEVER THE INPUT: true; the input reads as it did. -/
def markovBackSpec : ChangeSpec := { name := "markovBack", fn := fun _ => fun
  | [d1, d2] => { results := [.lit (.bool true)], args := [d1, d2] }
  | _ => none }
def markovBackRow : OpenClaim := { program := "ytkdkedgpchcfpaa", sum := "d88178c5be579716d007ddef268c1e194ee1212e05e917076327ba61c3d9c77a", func := "gladstone/gladstonelaw61.MarkovBack", spec := "markovBack", unfollowed := true, recurses := true, plainKeys := false, apart := false }
def MarkovBackSaid : Prop := markovBackRow.holds Try.pinned (OpenSpec.ofChange markovBackSpec)

/-- ITS FALSE NEIGHBOUR: 'it returns false'. Refute it at one input. -/
def markovBackWrong : ChangeSpec := { name := "markovBack", fn := fun _ => fun
  | [d1, d2] => { results := [.lit (.bool false)], args := [d1, d2] }
  | _ => none }
def MarkovBackWrongFalsely : Prop := markovBackRow.holds Try.pinned (OpenSpec.ofChange markovBackWrong)

/- THE SECOND FORM. 'bulk': how many values and letters a reading holds, each counted each time it is reached (what is shared counts as often as it is met; a slice's spare places count too). A statement '..UptoSaid' is the law's where the arguments, and the package variables that the reading takes, are together of bulk at most 1048576: NARROWER than '..Said'. Prove '..Said' where nothing that the law and all that it calls make is longer than what came in: it says more and counts as full. Else prove '..UptoSaid'. A law counts once. -/
mutual
def uptoBulk {H : Type} : DataW H → Nat
  | .lit (.string bytes) => bytes.length + 1
  | .lit _ => 1
  | .nil => 1
  | .ptr d => uptoBulk d + 1
  | .slice elems spare => uptoBulkAll elems + uptoBulkAll spare + 1
  | .agg parts => uptoBulkAll parts + 1
  | .iface _ d => uptoBulk d + 1
  | .map entries => uptoBulkEntries entries + 1
  | .held _ => 1
def uptoBulkAll {H : Type} : List (DataW H) → Nat
  | [] => 0
  | d :: r => uptoBulk d + uptoBulkAll r
def uptoBulkEntries {H : Type} : List (Lit × DataW H) → Nat
  | [] => 0
  | x :: r => uptoBulkEntry x + uptoBulkEntries r
def uptoBulkEntry {H : Type} : Lit × DataW H → Nat
  | (.string bytes, d) => bytes.length + uptoBulk d + 1
  | (_, d) => uptoBulk d + 1
 end
def uptoSmall : (H : Type) → List (DataW H) → Bool := fun _ ds => decide (uptoBulkAll ds ≤ 1048576)
def OpenSpec.upto (s : _root_.Go.ChangeSpec) : _root_.Go.OpenSpec := { _root_.Go.OpenSpec.ofChange s with cond := some uptoSmall }

/-- 'gladstonelaw45.RangerEncodes', WHERE WHAT IT READS IS OF BULK AT MOST 1048576: true; the input reads as it did. -/
def rangerEncodesUptoRow : OpenClaim := { program := "ytkdkedgpchcfpaa", sum := "d88178c5be579716d007ddef268c1e194ee1212e05e917076327ba61c3d9c77a", func := "gladstone/gladstonelaw45.RangerEncodes", spec := "rangerEncodes", unfollowed := true, recurses := true, plainKeys := false, apart := false, narrowed := true }
def RangerEncodesUptoSaid : Prop := rangerEncodesUptoRow.holds Try.pinned (OpenSpec.upto rangerEncodesSpec)

/-- 'gladstonelaw45.RangerDecodes', WHERE WHAT IT READS IS OF BULK AT MOST 1048576: true; the input reads as it did. -/
def rangerDecodesUptoRow : OpenClaim := { program := "ytkdkedgpchcfpaa", sum := "d88178c5be579716d007ddef268c1e194ee1212e05e917076327ba61c3d9c77a", func := "gladstone/gladstonelaw45.RangerDecodes", spec := "rangerDecodes", unfollowed := true, recurses := true, plainKeys := false, apart := false, narrowed := true }
def RangerDecodesUptoSaid : Prop := rangerDecodesUptoRow.holds Try.pinned (OpenSpec.upto rangerDecodesSpec)

/-- 'gladstonelaw45.RangerBack', WHERE WHAT IT READS IS OF BULK AT MOST 1048576: true; the input reads as it did. -/
def rangerBackUptoRow : OpenClaim := { program := "ytkdkedgpchcfpaa", sum := "d88178c5be579716d007ddef268c1e194ee1212e05e917076327ba61c3d9c77a", func := "gladstone/gladstonelaw45.RangerBack", spec := "rangerBack", unfollowed := true, recurses := true, plainKeys := false, apart := false, narrowed := true }
def RangerBackUptoSaid : Prop := rangerBackUptoRow.holds Try.pinned (OpenSpec.upto rangerBackSpec)

/-- 'gladstonelaw45.RangerNone', WHERE WHAT IT READS IS OF BULK AT MOST 1048576: true; the input reads as it did. -/
def rangerNoneUptoRow : OpenClaim := { program := "ytkdkedgpchcfpaa", sum := "d88178c5be579716d007ddef268c1e194ee1212e05e917076327ba61c3d9c77a", func := "gladstone/gladstonelaw45.RangerNone", spec := "rangerNone", unfollowed := true, recurses := true, plainKeys := false, apart := false, narrowed := true }
def RangerNoneUptoSaid : Prop := rangerNoneUptoRow.holds Try.pinned (OpenSpec.upto rangerNoneSpec)

/-- 'gladstonelaw46.BittreeCodes', WHERE WHAT IT READS IS OF BULK AT MOST 1048576: true; the input reads as it did. -/
def bittreeCodesUptoRow : OpenClaim := { program := "ytkdkedgpchcfpaa", sum := "d88178c5be579716d007ddef268c1e194ee1212e05e917076327ba61c3d9c77a", func := "gladstone/gladstonelaw46.BittreeCodes", spec := "bittreeCodes", unfollowed := true, recurses := true, plainKeys := false, apart := false, narrowed := true }
def BittreeCodesUptoSaid : Prop := bittreeCodesUptoRow.holds Try.pinned (OpenSpec.upto bittreeCodesSpec)

/-- 'gladstonelaw46.BittreeBack', WHERE WHAT IT READS IS OF BULK AT MOST 1048576: true; the input reads as it did. -/
def bittreeBackUptoRow : OpenClaim := { program := "ytkdkedgpchcfpaa", sum := "d88178c5be579716d007ddef268c1e194ee1212e05e917076327ba61c3d9c77a", func := "gladstone/gladstonelaw46.BittreeBack", spec := "bittreeBack", unfollowed := true, recurses := true, plainKeys := false, apart := false, narrowed := true }
def BittreeBackUptoSaid : Prop := bittreeBackUptoRow.holds Try.pinned (OpenSpec.upto bittreeBackSpec)

/-- 'gladstonelaw60.LzwEncodes', WHERE WHAT IT READS IS OF BULK AT MOST 1048576: true; the input reads as it did. -/
def lzwEncodesUptoRow : OpenClaim := { program := "ytkdkedgpchcfpaa", sum := "d88178c5be579716d007ddef268c1e194ee1212e05e917076327ba61c3d9c77a", func := "gladstone/gladstonelaw60.LzwEncodes", spec := "lzwEncodes", unfollowed := true, recurses := true, plainKeys := false, apart := false, narrowed := true }
def LzwEncodesUptoSaid : Prop := lzwEncodesUptoRow.holds Try.pinned (OpenSpec.upto lzwEncodesSpec)

/-- 'gladstonelaw60.LzwDecodes', WHERE WHAT IT READS IS OF BULK AT MOST 1048576: true; the input reads as it did. -/
def lzwDecodesUptoRow : OpenClaim := { program := "ytkdkedgpchcfpaa", sum := "d88178c5be579716d007ddef268c1e194ee1212e05e917076327ba61c3d9c77a", func := "gladstone/gladstonelaw60.LzwDecodes", spec := "lzwDecodes", unfollowed := true, recurses := true, plainKeys := false, apart := false, narrowed := true }
def LzwDecodesUptoSaid : Prop := lzwDecodesUptoRow.holds Try.pinned (OpenSpec.upto lzwDecodesSpec)

/-- 'gladstonelaw60.LzwBack', WHERE WHAT IT READS IS OF BULK AT MOST 1048576: true; the input reads as it did. -/
def lzwBackUptoRow : OpenClaim := { program := "ytkdkedgpchcfpaa", sum := "d88178c5be579716d007ddef268c1e194ee1212e05e917076327ba61c3d9c77a", func := "gladstone/gladstonelaw60.LzwBack", spec := "lzwBack", unfollowed := true, recurses := true, plainKeys := false, apart := false, narrowed := true }
def LzwBackUptoSaid : Prop := lzwBackUptoRow.holds Try.pinned (OpenSpec.upto lzwBackSpec)

/-- 'gladstonelaw61.MarkovCodes', WHERE WHAT IT READS IS OF BULK AT MOST 1048576: true; the input reads as it did. -/
def markovCodesUptoRow : OpenClaim := { program := "ytkdkedgpchcfpaa", sum := "d88178c5be579716d007ddef268c1e194ee1212e05e917076327ba61c3d9c77a", func := "gladstone/gladstonelaw61.MarkovCodes", spec := "markovCodes", unfollowed := true, recurses := true, plainKeys := false, apart := false, narrowed := true }
def MarkovCodesUptoSaid : Prop := markovCodesUptoRow.holds Try.pinned (OpenSpec.upto markovCodesSpec)

/-- 'gladstonelaw61.MarkovBack', WHERE WHAT IT READS IS OF BULK AT MOST 1048576: true; the input reads as it did. -/
def markovBackUptoRow : OpenClaim := { program := "ytkdkedgpchcfpaa", sum := "d88178c5be579716d007ddef268c1e194ee1212e05e917076327ba61c3d9c77a", func := "gladstone/gladstonelaw61.MarkovBack", spec := "markovBack", unfollowed := true, recurses := true, plainKeys := false, apart := false, narrowed := true }
def MarkovBackUptoSaid : Prop := markovBackUptoRow.holds Try.pinned (OpenSpec.upto markovBackSpec)

end Rows
end Go.Proofs.Ytkdkedgpchcfpaa
