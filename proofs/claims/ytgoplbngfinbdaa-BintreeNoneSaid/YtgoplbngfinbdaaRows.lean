/-
  No cell of these rows narrows 'for every input' (looked for: loops, veiled, ifaces, maps, wideKeys, modest, calm, conditions, laid).
  DERIVED. THE GIVEN ROWS OF THIS SEAT. 11 by the template 'for every input the law returns true; each argument reads behind the call as it read before'; 0 by the template 'total and deterministic' (their statements: YtgoplbngfinbdaaTotals.lean).
  GIVEN WITH THE SEED: the statements are not yours to turn. If you find one false, say at which input.
  Laid BY PROGRAM, IN A SANDBOX (cutbox-rows.mjs): the forced cells as the released guide's own fill.sh prints them over the translation a883d239c80fd70d… (all of the seat's roots in one cut). By AI agents, Wed Nov 11 2026. No macro, syntax, notation, axiom, sorry.
-/
import Derived.Test.YtgoplbngfinbdaaChecked
import GoSem.Claim
import GoSem.ClaimJoined
import GoSem.ClaimMapViews
import Derived.JoinedTies
import Derived.KernelRfl
namespace Go.Proofs.Ytgoplbngfinbdaa
/- THE CELL 'sum', in the pinned program and in every row, IS THE sha256 OF THE DUMP (.gsa) THAT YtgoplbngfinbdaaProg.lean LOADS. Nothing in Lean hashes anything: it is a label: what it is worth is what the hold of that sum in a sandbox is worth. -/
noncomputable def Try.pinned : Pinned := { name := "ytgoplbngfinbdaa", sum := "a883d239c80fd70d99a1ca74a0694d31326fe7a15790fdaf49569a1c751765a3", checked := Try.checked }
namespace Rows
def none {H : Type} : Left H := { results := [], args := [] }

/-- 'gladstonelaw10.FlatReads': WHATEVER THE INPUT: true; the input reads as it did. -/
def flatReadsSpec : ChangeSpec := { name := "flatReads", fn := fun _ => fun
  | [d1, d2, d3] => { results := [.lit (.bool true)], args := [d1, d2, d3] }
  | _ => none }
def flatReadsRow : OpenClaim := { program := "ytgoplbngfinbdaa", sum := "a883d239c80fd70d99a1ca74a0694d31326fe7a15790fdaf49569a1c751765a3", func := "gladstone/gladstonelaw10.FlatReads", spec := "flatReads", apart := false }
def FlatReadsSaid : Prop := flatReadsRow.holds Try.pinned (OpenSpec.ofChange flatReadsSpec)

/-- ITS FALSE NEIGHBOUR: 'it returns false'. Refute it at one input. -/
def flatReadsWrong : ChangeSpec := { name := "flatReads", fn := fun _ => fun
  | [d1, d2, d3] => { results := [.lit (.bool false)], args := [d1, d2, d3] }
  | _ => none }
def FlatReadsWrongFalsely : Prop := flatReadsRow.holds Try.pinned (OpenSpec.ofChange flatReadsWrong)

/-- 'gladstonelaw10.FlatNone': WHATEVER THE INPUT: true; the input reads as it did. -/
def flatNoneSpec : ChangeSpec := { name := "flatNone", fn := fun _ => fun
  | [d] => { results := [.lit (.bool true)], args := [d] }
  | _ => none }
def flatNoneRow : OpenClaim := { program := "ytgoplbngfinbdaa", sum := "a883d239c80fd70d99a1ca74a0694d31326fe7a15790fdaf49569a1c751765a3", func := "gladstone/gladstonelaw10.FlatNone", spec := "flatNone", apart := false }
def FlatNoneSaid : Prop := flatNoneRow.holds Try.pinned (OpenSpec.ofChange flatNoneSpec)

/-- ITS FALSE NEIGHBOUR: 'it returns false'. Refute it at one input. -/
def flatNoneWrong : ChangeSpec := { name := "flatNone", fn := fun _ => fun
  | [d] => { results := [.lit (.bool false)], args := [d] }
  | _ => none }
def FlatNoneWrongFalsely : Prop := flatNoneRow.holds Try.pinned (OpenSpec.ofChange flatNoneWrong)

/-- 'gladstonelaw11.TwolevReads': WHATEVER THE INPUT: true; the input reads as it did. -/
def twolevReadsSpec : ChangeSpec := { name := "twolevReads", fn := fun _ => fun
  | [d1, d2, d3] => { results := [.lit (.bool true)], args := [d1, d2, d3] }
  | _ => none }
def twolevReadsRow : OpenClaim := { program := "ytgoplbngfinbdaa", sum := "a883d239c80fd70d99a1ca74a0694d31326fe7a15790fdaf49569a1c751765a3", func := "gladstone/gladstonelaw11.TwolevReads", spec := "twolevReads", apart := false }
def TwolevReadsSaid : Prop := twolevReadsRow.holds Try.pinned (OpenSpec.ofChange twolevReadsSpec)

/-- ITS FALSE NEIGHBOUR: 'it returns false'. Refute it at one input. -/
def twolevReadsWrong : ChangeSpec := { name := "twolevReads", fn := fun _ => fun
  | [d1, d2, d3] => { results := [.lit (.bool false)], args := [d1, d2, d3] }
  | _ => none }
def TwolevReadsWrongFalsely : Prop := twolevReadsRow.holds Try.pinned (OpenSpec.ofChange twolevReadsWrong)

/-- 'gladstonelaw11.TwolevNone': WHATEVER THE INPUT: true; the input reads as it did. -/
def twolevNoneSpec : ChangeSpec := { name := "twolevNone", fn := fun _ => fun
  | [d] => { results := [.lit (.bool true)], args := [d] }
  | _ => none }
def twolevNoneRow : OpenClaim := { program := "ytgoplbngfinbdaa", sum := "a883d239c80fd70d99a1ca74a0694d31326fe7a15790fdaf49569a1c751765a3", func := "gladstone/gladstonelaw11.TwolevNone", spec := "twolevNone", apart := false }
def TwolevNoneSaid : Prop := twolevNoneRow.holds Try.pinned (OpenSpec.ofChange twolevNoneSpec)

/-- ITS FALSE NEIGHBOUR: 'it returns false'. Refute it at one input. -/
def twolevNoneWrong : ChangeSpec := { name := "twolevNone", fn := fun _ => fun
  | [d] => { results := [.lit (.bool false)], args := [d] }
  | _ => none }
def TwolevNoneWrongFalsely : Prop := twolevNoneRow.holds Try.pinned (OpenSpec.ofChange twolevNoneWrong)

/-- 'gladstonelaw21.NearAll': WHATEVER THE INPUT: true; the input reads as it did. -/
def nearAllSpec : ChangeSpec := { name := "nearAll", fn := fun _ => fun
  | [d1, d2, d3] => { results := [.lit (.bool true)], args := [d1, d2, d3] }
  | _ => none }
def nearAllRow : OpenClaim := { program := "ytgoplbngfinbdaa", sum := "a883d239c80fd70d99a1ca74a0694d31326fe7a15790fdaf49569a1c751765a3", func := "gladstone/gladstonelaw21.NearAll", spec := "nearAll", unfollowed := true, recurses := true, apart := false }
def NearAllSaid : Prop := nearAllRow.holds Try.pinned (OpenSpec.ofChange nearAllSpec)

/-- ITS FALSE NEIGHBOUR: 'it returns false'. Refute it at one input. -/
def nearAllWrong : ChangeSpec := { name := "nearAll", fn := fun _ => fun
  | [d1, d2, d3] => { results := [.lit (.bool false)], args := [d1, d2, d3] }
  | _ => none }
def NearAllWrongFalsely : Prop := nearAllRow.holds Try.pinned (OpenSpec.ofChange nearAllWrong)

/-- 'gladstonelaw21.NearKnows': WHATEVER THE INPUT: true; the input reads as it did. -/
def nearKnowsSpec : ChangeSpec := { name := "nearKnows", fn := fun _ => fun
  | [d1, d2, d3] => { results := [.lit (.bool true)], args := [d1, d2, d3] }
  | _ => none }
def nearKnowsRow : OpenClaim := { program := "ytgoplbngfinbdaa", sum := "a883d239c80fd70d99a1ca74a0694d31326fe7a15790fdaf49569a1c751765a3", func := "gladstone/gladstonelaw21.NearKnows", spec := "nearKnows", unfollowed := true, recurses := true, apart := false }
def NearKnowsSaid : Prop := nearKnowsRow.holds Try.pinned (OpenSpec.ofChange nearKnowsSpec)

/-- ITS FALSE NEIGHBOUR: 'it returns false'. Refute it at one input. -/
def nearKnowsWrong : ChangeSpec := { name := "nearKnows", fn := fun _ => fun
  | [d1, d2, d3] => { results := [.lit (.bool false)], args := [d1, d2, d3] }
  | _ => none }
def NearKnowsWrongFalsely : Prop := nearKnowsRow.holds Try.pinned (OpenSpec.ofChange nearKnowsWrong)

/-- 'gladstonelaw21.NearNone': WHATEVER THE INPUT: true; the input reads as it did. -/
def nearNoneSpec : ChangeSpec := { name := "nearNone", fn := fun _ => fun
  | [d1, d2, d3] => { results := [.lit (.bool true)], args := [d1, d2, d3] }
  | _ => none }
def nearNoneRow : OpenClaim := { program := "ytgoplbngfinbdaa", sum := "a883d239c80fd70d99a1ca74a0694d31326fe7a15790fdaf49569a1c751765a3", func := "gladstone/gladstonelaw21.NearNone", spec := "nearNone", unfollowed := true, recurses := true, apart := false }
def NearNoneSaid : Prop := nearNoneRow.holds Try.pinned (OpenSpec.ofChange nearNoneSpec)

/-- ITS FALSE NEIGHBOUR: 'it returns false'. Refute it at one input. -/
def nearNoneWrong : ChangeSpec := { name := "nearNone", fn := fun _ => fun
  | [d1, d2, d3] => { results := [.lit (.bool false)], args := [d1, d2, d3] }
  | _ => none }
def NearNoneWrongFalsely : Prop := nearNoneRow.holds Try.pinned (OpenSpec.ofChange nearNoneWrong)

/-- 'gladstonelaw22.BintreeAll': WHATEVER THE INPUT: true; the input reads as it did. -/
def bintreeAllSpec : ChangeSpec := { name := "bintreeAll", fn := fun _ => fun
  | [d1, d2, d3] => { results := [.lit (.bool true)], args := [d1, d2, d3] }
  | _ => none }
def bintreeAllRow : OpenClaim := { program := "ytgoplbngfinbdaa", sum := "a883d239c80fd70d99a1ca74a0694d31326fe7a15790fdaf49569a1c751765a3", func := "gladstone/gladstonelaw22.BintreeAll", spec := "bintreeAll", apart := false }
def BintreeAllSaid : Prop := bintreeAllRow.holds Try.pinned (OpenSpec.ofChange bintreeAllSpec)

/-- ITS FALSE NEIGHBOUR: 'it returns false'. Refute it at one input. -/
def bintreeAllWrong : ChangeSpec := { name := "bintreeAll", fn := fun _ => fun
  | [d1, d2, d3] => { results := [.lit (.bool false)], args := [d1, d2, d3] }
  | _ => none }
def BintreeAllWrongFalsely : Prop := bintreeAllRow.holds Try.pinned (OpenSpec.ofChange bintreeAllWrong)

/-- 'gladstonelaw22.BintreeNone': WHATEVER THE INPUT: true; the input reads as it did. -/
def bintreeNoneSpec : ChangeSpec := { name := "bintreeNone", fn := fun _ => fun
  | [d] => { results := [.lit (.bool true)], args := [d] }
  | _ => none }
def bintreeNoneRow : OpenClaim := { program := "ytgoplbngfinbdaa", sum := "a883d239c80fd70d99a1ca74a0694d31326fe7a15790fdaf49569a1c751765a3", func := "gladstone/gladstonelaw22.BintreeNone", spec := "bintreeNone", apart := false }
def BintreeNoneSaid : Prop := bintreeNoneRow.holds Try.pinned (OpenSpec.ofChange bintreeNoneSpec)

/-- ITS FALSE NEIGHBOUR: 'it returns false'. Refute it at one input. -/
def bintreeNoneWrong : ChangeSpec := { name := "bintreeNone", fn := fun _ => fun
  | [d] => { results := [.lit (.bool false)], args := [d] }
  | _ => none }
def BintreeNoneWrongFalsely : Prop := bintreeNoneRow.holds Try.pinned (OpenSpec.ofChange bintreeNoneWrong)

/-- 'gladstonelaw41.ChainAll': WHATEVER THE INPUT: true; the input reads as it did. -/
def chainAllSpec : ChangeSpec := { name := "chainAll", fn := fun _ => fun
  | [d1, d2] => { results := [.lit (.bool true)], args := [d1, d2] }
  | _ => none }
def chainAllRow : OpenClaim := { program := "ytgoplbngfinbdaa", sum := "a883d239c80fd70d99a1ca74a0694d31326fe7a15790fdaf49569a1c751765a3", func := "gladstone/gladstonelaw41.ChainAll", spec := "chainAll", apart := false }
def ChainAllSaid : Prop := chainAllRow.holds Try.pinned (OpenSpec.ofChange chainAllSpec)

/-- ITS FALSE NEIGHBOUR: 'it returns false'. Refute it at one input. -/
def chainAllWrong : ChangeSpec := { name := "chainAll", fn := fun _ => fun
  | [d1, d2] => { results := [.lit (.bool false)], args := [d1, d2] }
  | _ => none }
def ChainAllWrongFalsely : Prop := chainAllRow.holds Try.pinned (OpenSpec.ofChange chainAllWrong)

/-- 'gladstonelaw41.ChainNone': WHATEVER THE INPUT: true; the input reads as it did. -/
def chainNoneSpec : ChangeSpec := { name := "chainNone", fn := fun _ => fun
  | [d] => { results := [.lit (.bool true)], args := [d] }
  | _ => none }
def chainNoneRow : OpenClaim := { program := "ytgoplbngfinbdaa", sum := "a883d239c80fd70d99a1ca74a0694d31326fe7a15790fdaf49569a1c751765a3", func := "gladstone/gladstonelaw41.ChainNone", spec := "chainNone", apart := false }
def ChainNoneSaid : Prop := chainNoneRow.holds Try.pinned (OpenSpec.ofChange chainNoneSpec)

/-- ITS FALSE NEIGHBOUR: 'it returns false'. Refute it at one input. -/
def chainNoneWrong : ChangeSpec := { name := "chainNone", fn := fun _ => fun
  | [d] => { results := [.lit (.bool false)], args := [d] }
  | _ => none }
def ChainNoneWrongFalsely : Prop := chainNoneRow.holds Try.pinned (OpenSpec.ofChange chainNoneWrong)

/- THE SECOND FORM. 'bulk': how many values and letters a reading holds, each counted each time it is reached (what is shared counts as often as it is met; a slice's spare places count too). A statement '..UptoSaid' is the law's where the arguments, and the package variables that the reading takes, are together of bulk at most 1048576: NARROWER than '..Said'. Prove '..Said' where nothing that the law and all that it calls make is longer than what came in: it says more and counts as full. Else prove '..UptoSaid'. A law counts once. -/
mutual
def uptoBulk {H : Type} : DataW H → Nat
  | .lit (.string bytes) => bytes.length + 1
  | .lit _ => 1
  | .nil => 1
  | .ptr d => uptoBulk d + 1
  | .slice elems spare => uptoBulkAll elems + uptoBulkAll spare + 1
  | .agg parts => uptoBulkAll parts + 1
  | .iface _ d => uptoBulk d + 1
  | .map entries => uptoBulkEntries entries + 1
  | .held _ => 1
def uptoBulkAll {H : Type} : List (DataW H) → Nat
  | [] => 0
  | d :: r => uptoBulk d + uptoBulkAll r
def uptoBulkEntries {H : Type} : List (Lit × DataW H) → Nat
  | [] => 0
  | x :: r => uptoBulkEntry x + uptoBulkEntries r
def uptoBulkEntry {H : Type} : Lit × DataW H → Nat
  | (.string bytes, d) => bytes.length + uptoBulk d + 1
  | (_, d) => uptoBulk d + 1
 end
def uptoSmall : (H : Type) → List (DataW H) → Bool := fun _ ds => decide (uptoBulkAll ds ≤ 1048576)
def OpenSpec.upto (s : _root_.Go.ChangeSpec) : _root_.Go.OpenSpec := { _root_.Go.OpenSpec.ofChange s with cond := some uptoSmall }

/-- 'gladstonelaw10.FlatReads', WHERE WHAT IT READS IS OF BULK AT MOST 1048576: true; the input reads as it did. -/
def flatReadsUptoRow : OpenClaim := { program := "ytgoplbngfinbdaa", sum := "a883d239c80fd70d99a1ca74a0694d31326fe7a15790fdaf49569a1c751765a3", func := "gladstone/gladstonelaw10.FlatReads", spec := "flatReads", apart := false, narrowed := true }
def FlatReadsUptoSaid : Prop := flatReadsUptoRow.holds Try.pinned (OpenSpec.upto flatReadsSpec)

/-- 'gladstonelaw10.FlatNone', WHERE WHAT IT READS IS OF BULK AT MOST 1048576: true; the input reads as it did. -/
def flatNoneUptoRow : OpenClaim := { program := "ytgoplbngfinbdaa", sum := "a883d239c80fd70d99a1ca74a0694d31326fe7a15790fdaf49569a1c751765a3", func := "gladstone/gladstonelaw10.FlatNone", spec := "flatNone", apart := false, narrowed := true }
def FlatNoneUptoSaid : Prop := flatNoneUptoRow.holds Try.pinned (OpenSpec.upto flatNoneSpec)

/-- 'gladstonelaw11.TwolevReads', WHERE WHAT IT READS IS OF BULK AT MOST 1048576: true; the input reads as it did. -/
def twolevReadsUptoRow : OpenClaim := { program := "ytgoplbngfinbdaa", sum := "a883d239c80fd70d99a1ca74a0694d31326fe7a15790fdaf49569a1c751765a3", func := "gladstone/gladstonelaw11.TwolevReads", spec := "twolevReads", apart := false, narrowed := true }
def TwolevReadsUptoSaid : Prop := twolevReadsUptoRow.holds Try.pinned (OpenSpec.upto twolevReadsSpec)

/-- 'gladstonelaw11.TwolevNone', WHERE WHAT IT READS IS OF BULK AT MOST 1048576: true; the input reads as it did. -/
def twolevNoneUptoRow : OpenClaim := { program := "ytgoplbngfinbdaa", sum := "a883d239c80fd70d99a1ca74a0694d31326fe7a15790fdaf49569a1c751765a3", func := "gladstone/gladstonelaw11.TwolevNone", spec := "twolevNone", apart := false, narrowed := true }
def TwolevNoneUptoSaid : Prop := twolevNoneUptoRow.holds Try.pinned (OpenSpec.upto twolevNoneSpec)

/-- 'gladstonelaw21.NearAll', WHERE WHAT IT READS IS OF BULK AT MOST 1048576: true; the input reads as it did. -/
def nearAllUptoRow : OpenClaim := { program := "ytgoplbngfinbdaa", sum := "a883d239c80fd70d99a1ca74a0694d31326fe7a15790fdaf49569a1c751765a3", func := "gladstone/gladstonelaw21.NearAll", spec := "nearAll", unfollowed := true, recurses := true, apart := false, narrowed := true }
def NearAllUptoSaid : Prop := nearAllUptoRow.holds Try.pinned (OpenSpec.upto nearAllSpec)

/-- 'gladstonelaw21.NearKnows', WHERE WHAT IT READS IS OF BULK AT MOST 1048576: true; the input reads as it did. -/
def nearKnowsUptoRow : OpenClaim := { program := "ytgoplbngfinbdaa", sum := "a883d239c80fd70d99a1ca74a0694d31326fe7a15790fdaf49569a1c751765a3", func := "gladstone/gladstonelaw21.NearKnows", spec := "nearKnows", unfollowed := true, recurses := true, apart := false, narrowed := true }
def NearKnowsUptoSaid : Prop := nearKnowsUptoRow.holds Try.pinned (OpenSpec.upto nearKnowsSpec)

/-- 'gladstonelaw21.NearNone', WHERE WHAT IT READS IS OF BULK AT MOST 1048576: true; the input reads as it did. -/
def nearNoneUptoRow : OpenClaim := { program := "ytgoplbngfinbdaa", sum := "a883d239c80fd70d99a1ca74a0694d31326fe7a15790fdaf49569a1c751765a3", func := "gladstone/gladstonelaw21.NearNone", spec := "nearNone", unfollowed := true, recurses := true, apart := false, narrowed := true }
def NearNoneUptoSaid : Prop := nearNoneUptoRow.holds Try.pinned (OpenSpec.upto nearNoneSpec)

/-- 'gladstonelaw22.BintreeAll', WHERE WHAT IT READS IS OF BULK AT MOST 1048576: true; the input reads as it did. -/
def bintreeAllUptoRow : OpenClaim := { program := "ytgoplbngfinbdaa", sum := "a883d239c80fd70d99a1ca74a0694d31326fe7a15790fdaf49569a1c751765a3", func := "gladstone/gladstonelaw22.BintreeAll", spec := "bintreeAll", apart := false, narrowed := true }
def BintreeAllUptoSaid : Prop := bintreeAllUptoRow.holds Try.pinned (OpenSpec.upto bintreeAllSpec)

/-- 'gladstonelaw22.BintreeNone', WHERE WHAT IT READS IS OF BULK AT MOST 1048576: true; the input reads as it did. -/
def bintreeNoneUptoRow : OpenClaim := { program := "ytgoplbngfinbdaa", sum := "a883d239c80fd70d99a1ca74a0694d31326fe7a15790fdaf49569a1c751765a3", func := "gladstone/gladstonelaw22.BintreeNone", spec := "bintreeNone", apart := false, narrowed := true }
def BintreeNoneUptoSaid : Prop := bintreeNoneUptoRow.holds Try.pinned (OpenSpec.upto bintreeNoneSpec)

/-- 'gladstonelaw41.ChainAll', WHERE WHAT IT READS IS OF BULK AT MOST 1048576: true; the input reads as it did. -/
def chainAllUptoRow : OpenClaim := { program := "ytgoplbngfinbdaa", sum := "a883d239c80fd70d99a1ca74a0694d31326fe7a15790fdaf49569a1c751765a3", func := "gladstone/gladstonelaw41.ChainAll", spec := "chainAll", apart := false, narrowed := true }
def ChainAllUptoSaid : Prop := chainAllUptoRow.holds Try.pinned (OpenSpec.upto chainAllSpec)

/-- 'gladstonelaw41.ChainNone', WHERE WHAT IT READS IS OF BULK AT MOST 1048576: true; the input reads as it did. -/
def chainNoneUptoRow : OpenClaim := { program := "ytgoplbngfinbdaa", sum := "a883d239c80fd70d99a1ca74a0694d31326fe7a15790fdaf49569a1c751765a3", func := "gladstone/gladstonelaw41.ChainNone", spec := "chainNone", apart := false, narrowed := true }
def ChainNoneUptoSaid : Prop := chainNoneUptoRow.holds Try.pinned (OpenSpec.upto chainNoneSpec)

end Rows
end Go.Proofs.Ytgoplbngfinbdaa
