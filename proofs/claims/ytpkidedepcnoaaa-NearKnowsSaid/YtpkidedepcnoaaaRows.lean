/-
  No cell of these rows narrows 'for every input' (looked for: loops, veiled, ifaces, maps, wideKeys, modest, calm, conditions, laid).
  DERIVED. THE GIVEN ROWS OF THIS SEAT. 9 by the template 'for every input the law returns true; each argument reads behind the call as it read before'; 0 by the template 'total and deterministic' (their statements: YtpkidedepcnoaaaTotals.lean).
  GIVEN WITH THE SEED: the statements are not yours to turn. If you find one false, say at which input.
  Laid BY PROGRAM, IN A SANDBOX (cutbox-rows.mjs): the forced cells as the released guide's own fill.sh prints them over the translation 69c971fdb1d20398… (all of the seat's roots in one cut). By AI agents, Wed Nov 11 2026. No macro, syntax, notation, axiom, sorry.
-/
import Derived.Test.YtpkidedepcnoaaaChecked
import GoSem.Claim
import GoSem.ClaimJoined
import GoSem.ClaimMapViews
import Derived.JoinedTies
import Derived.KernelRfl
namespace Go.Proofs.Ytpkidedepcnoaaa
/- THE CELL 'sum', in the pinned program and in every row, IS THE sha256 OF THE DUMP (.gsa) THAT YtpkidedepcnoaaaProg.lean LOADS. Nothing in Lean hashes anything: it is a label: what it is worth is what the hold of that sum in a sandbox is worth. -/
noncomputable def Try.pinned : Pinned := { name := "ytpkidedepcnoaaa", sum := "69c971fdb1d2039896607de37555fb7b9e58bca50905aebdf0aa8e04ebad8937", checked := Try.checked }
namespace Rows
def none {H : Type} : Left H := { results := [], args := [] }

/-- 'gladstonelaw19.SuffixSorts': WHATEVER THE INPUT: true; the input reads as it did. -/
def suffixSortsSpec : ChangeSpec := { name := "suffixSorts", fn := fun _ => fun
  | [d1, d2] => { results := [.lit (.bool true)], args := [d1, d2] }
  | _ => none }
def suffixSortsRow : OpenClaim := { program := "ytpkidedepcnoaaa", sum := "69c971fdb1d2039896607de37555fb7b9e58bca50905aebdf0aa8e04ebad8937", func := "gladstone/gladstonelaw19.SuffixSorts", spec := "suffixSorts", unfollowed := true, recurses := true, apart := false }
def SuffixSortsSaid : Prop := suffixSortsRow.holds Try.pinned (OpenSpec.ofChange suffixSortsSpec)

/-- ITS FALSE NEIGHBOUR: 'it returns false'. Refute it at one input. -/
def suffixSortsWrong : ChangeSpec := { name := "suffixSorts", fn := fun _ => fun
  | [d1, d2] => { results := [.lit (.bool false)], args := [d1, d2] }
  | _ => none }
def SuffixSortsWrongFalsely : Prop := suffixSortsRow.holds Try.pinned (OpenSpec.ofChange suffixSortsWrong)

/-- 'gladstonelaw19.SuffixRises': WHATEVER THE INPUT: true; the input reads as it did. -/
def suffixRisesSpec : ChangeSpec := { name := "suffixRises", fn := fun _ => fun
  | [d] => { results := [.lit (.bool true)], args := [d] }
  | _ => none }
def suffixRisesRow : OpenClaim := { program := "ytpkidedepcnoaaa", sum := "69c971fdb1d2039896607de37555fb7b9e58bca50905aebdf0aa8e04ebad8937", func := "gladstone/gladstonelaw19.SuffixRises", spec := "suffixRises", unfollowed := true, recurses := true, apart := false }
def SuffixRisesSaid : Prop := suffixRisesRow.holds Try.pinned (OpenSpec.ofChange suffixRisesSpec)

/-- ITS FALSE NEIGHBOUR: 'it returns false'. Refute it at one input. -/
def suffixRisesWrong : ChangeSpec := { name := "suffixRises", fn := fun _ => fun
  | [d] => { results := [.lit (.bool false)], args := [d] }
  | _ => none }
def SuffixRisesWrongFalsely : Prop := suffixRisesRow.holds Try.pinned (OpenSpec.ofChange suffixRisesWrong)

/-- 'gladstonelaw20.LcpRows': WHATEVER THE INPUT: true; the input reads as it did. -/
def lcpRowsSpec : ChangeSpec := { name := "lcpRows", fn := fun _ => fun
  | [d1, d2, d3] => { results := [.lit (.bool true)], args := [d1, d2, d3] }
  | _ => none }
def lcpRowsRow : OpenClaim := { program := "ytpkidedepcnoaaa", sum := "69c971fdb1d2039896607de37555fb7b9e58bca50905aebdf0aa8e04ebad8937", func := "gladstone/gladstonelaw20.LcpRows", spec := "lcpRows", unfollowed := true, recurses := true, apart := false }
def LcpRowsSaid : Prop := lcpRowsRow.holds Try.pinned (OpenSpec.ofChange lcpRowsSpec)

/-- ITS FALSE NEIGHBOUR: 'it returns false'. Refute it at one input. -/
def lcpRowsWrong : ChangeSpec := { name := "lcpRows", fn := fun _ => fun
  | [d1, d2, d3] => { results := [.lit (.bool false)], args := [d1, d2, d3] }
  | _ => none }
def LcpRowsWrongFalsely : Prop := lcpRowsRow.holds Try.pinned (OpenSpec.ofChange lcpRowsWrong)

/-- 'gladstonelaw20.LcpLeast': WHATEVER THE INPUT: true; the input reads as it did. -/
def lcpLeastSpec : ChangeSpec := { name := "lcpLeast", fn := fun _ => fun
  | [d1, d2, d3] => { results := [.lit (.bool true)], args := [d1, d2, d3] }
  | _ => none }
def lcpLeastRow : OpenClaim := { program := "ytpkidedepcnoaaa", sum := "69c971fdb1d2039896607de37555fb7b9e58bca50905aebdf0aa8e04ebad8937", func := "gladstone/gladstonelaw20.LcpLeast", spec := "lcpLeast", unfollowed := true, recurses := true, apart := false }
def LcpLeastSaid : Prop := lcpLeastRow.holds Try.pinned (OpenSpec.ofChange lcpLeastSpec)

/-- ITS FALSE NEIGHBOUR: 'it returns false'. Refute it at one input. -/
def lcpLeastWrong : ChangeSpec := { name := "lcpLeast", fn := fun _ => fun
  | [d1, d2, d3] => { results := [.lit (.bool false)], args := [d1, d2, d3] }
  | _ => none }
def LcpLeastWrongFalsely : Prop := lcpLeastRow.holds Try.pinned (OpenSpec.ofChange lcpLeastWrong)

/-- 'gladstonelaw21.NearAll': WHATEVER THE INPUT: true; the input reads as it did. -/
def nearAllSpec : ChangeSpec := { name := "nearAll", fn := fun _ => fun
  | [d1, d2, d3] => { results := [.lit (.bool true)], args := [d1, d2, d3] }
  | _ => none }
def nearAllRow : OpenClaim := { program := "ytpkidedepcnoaaa", sum := "69c971fdb1d2039896607de37555fb7b9e58bca50905aebdf0aa8e04ebad8937", func := "gladstone/gladstonelaw21.NearAll", spec := "nearAll", unfollowed := true, recurses := true, apart := false }
def NearAllSaid : Prop := nearAllRow.holds Try.pinned (OpenSpec.ofChange nearAllSpec)

/-- ITS FALSE NEIGHBOUR: 'it returns false'. Refute it at one input. -/
def nearAllWrong : ChangeSpec := { name := "nearAll", fn := fun _ => fun
  | [d1, d2, d3] => { results := [.lit (.bool false)], args := [d1, d2, d3] }
  | _ => none }
def NearAllWrongFalsely : Prop := nearAllRow.holds Try.pinned (OpenSpec.ofChange nearAllWrong)

/-- 'gladstonelaw21.NearKnows': WHATEVER THE INPUT: true; the input reads as it did. -/
def nearKnowsSpec : ChangeSpec := { name := "nearKnows", fn := fun _ => fun
  | [d1, d2, d3] => { results := [.lit (.bool true)], args := [d1, d2, d3] }
  | _ => none }
def nearKnowsRow : OpenClaim := { program := "ytpkidedepcnoaaa", sum := "69c971fdb1d2039896607de37555fb7b9e58bca50905aebdf0aa8e04ebad8937", func := "gladstone/gladstonelaw21.NearKnows", spec := "nearKnows", unfollowed := true, recurses := true, apart := false }
def NearKnowsSaid : Prop := nearKnowsRow.holds Try.pinned (OpenSpec.ofChange nearKnowsSpec)

/-- ITS FALSE NEIGHBOUR: 'it returns false'. Refute it at one input. -/
def nearKnowsWrong : ChangeSpec := { name := "nearKnows", fn := fun _ => fun
  | [d1, d2, d3] => { results := [.lit (.bool false)], args := [d1, d2, d3] }
  | _ => none }
def NearKnowsWrongFalsely : Prop := nearKnowsRow.holds Try.pinned (OpenSpec.ofChange nearKnowsWrong)

/-- 'gladstonelaw21.NearNone': WHATEVER THE INPUT: true; the input reads as it did. -/
def nearNoneSpec : ChangeSpec := { name := "nearNone", fn := fun _ => fun
  | [d1, d2, d3] => { results := [.lit (.bool true)], args := [d1, d2, d3] }
  | _ => none }
def nearNoneRow : OpenClaim := { program := "ytpkidedepcnoaaa", sum := "69c971fdb1d2039896607de37555fb7b9e58bca50905aebdf0aa8e04ebad8937", func := "gladstone/gladstonelaw21.NearNone", spec := "nearNone", unfollowed := true, recurses := true, apart := false }
def NearNoneSaid : Prop := nearNoneRow.holds Try.pinned (OpenSpec.ofChange nearNoneSpec)

/-- ITS FALSE NEIGHBOUR: 'it returns false'. Refute it at one input. -/
def nearNoneWrong : ChangeSpec := { name := "nearNone", fn := fun _ => fun
  | [d1, d2, d3] => { results := [.lit (.bool false)], args := [d1, d2, d3] }
  | _ => none }
def NearNoneWrongFalsely : Prop := nearNoneRow.holds Try.pinned (OpenSpec.ofChange nearNoneWrong)

/-- 'gladstonelaw48.BwtTurns': WHATEVER THE INPUT: true; the input reads as it did. -/
def bwtTurnsSpec : ChangeSpec := { name := "bwtTurns", fn := fun _ => fun
  | [d1, d2, d3] => { results := [.lit (.bool true)], args := [d1, d2, d3] }
  | _ => none }
def bwtTurnsRow : OpenClaim := { program := "ytpkidedepcnoaaa", sum := "69c971fdb1d2039896607de37555fb7b9e58bca50905aebdf0aa8e04ebad8937", func := "gladstone/gladstonelaw48.BwtTurns", spec := "bwtTurns", unfollowed := true, recurses := true, apart := false }
def BwtTurnsSaid : Prop := bwtTurnsRow.holds Try.pinned (OpenSpec.ofChange bwtTurnsSpec)

/-- ITS FALSE NEIGHBOUR: 'it returns false'. Refute it at one input. -/
def bwtTurnsWrong : ChangeSpec := { name := "bwtTurns", fn := fun _ => fun
  | [d1, d2, d3] => { results := [.lit (.bool false)], args := [d1, d2, d3] }
  | _ => none }
def BwtTurnsWrongFalsely : Prop := bwtTurnsRow.holds Try.pinned (OpenSpec.ofChange bwtTurnsWrong)

/-- 'gladstonelaw48.BwtBack': WHATEVER THE INPUT: true; the input reads as it did. -/
def bwtBackSpec : ChangeSpec := { name := "bwtBack", fn := fun _ => fun
  | [d] => { results := [.lit (.bool true)], args := [d] }
  | _ => none }
def bwtBackRow : OpenClaim := { program := "ytpkidedepcnoaaa", sum := "69c971fdb1d2039896607de37555fb7b9e58bca50905aebdf0aa8e04ebad8937", func := "gladstone/gladstonelaw48.BwtBack", spec := "bwtBack", unfollowed := true, recurses := true, apart := false }
def BwtBackSaid : Prop := bwtBackRow.holds Try.pinned (OpenSpec.ofChange bwtBackSpec)

/-- ITS FALSE NEIGHBOUR: 'it returns false'. Refute it at one input. -/
def bwtBackWrong : ChangeSpec := { name := "bwtBack", fn := fun _ => fun
  | [d] => { results := [.lit (.bool false)], args := [d] }
  | _ => none }
def BwtBackWrongFalsely : Prop := bwtBackRow.holds Try.pinned (OpenSpec.ofChange bwtBackWrong)

/- THE SECOND FORM. 'bulk': how many values and letters a reading holds, each counted each time it is reached (what is shared counts as often as it is met; a slice's spare places count too). A statement '..UptoSaid' is the law's where the arguments, and the package variables that the reading takes, are together of bulk at most 1048576: NARROWER than '..Said'. Prove '..Said' where nothing that the law and all that it calls make is longer than what came in: it says more and counts as full. Else prove '..UptoSaid'. A law counts once. -/
mutual
def uptoBulk {H : Type} : DataW H → Nat
  | .lit (.string bytes) => bytes.length + 1
  | .lit _ => 1
  | .nil => 1
  | .ptr d => uptoBulk d + 1
  | .slice elems spare => uptoBulkAll elems + uptoBulkAll spare + 1
  | .agg parts => uptoBulkAll parts + 1
  | .iface _ d => uptoBulk d + 1
  | .map entries => uptoBulkEntries entries + 1
  | .held _ => 1
def uptoBulkAll {H : Type} : List (DataW H) → Nat
  | [] => 0
  | d :: r => uptoBulk d + uptoBulkAll r
def uptoBulkEntries {H : Type} : List (Lit × DataW H) → Nat
  | [] => 0
  | x :: r => uptoBulkEntry x + uptoBulkEntries r
def uptoBulkEntry {H : Type} : Lit × DataW H → Nat
  | (.string bytes, d) => bytes.length + uptoBulk d + 1
  | (_, d) => uptoBulk d + 1
 end
def uptoSmall : (H : Type) → List (DataW H) → Bool := fun _ ds => decide (uptoBulkAll ds ≤ 1048576)
def OpenSpec.upto (s : _root_.Go.ChangeSpec) : _root_.Go.OpenSpec := { _root_.Go.OpenSpec.ofChange s with cond := some uptoSmall }

/-- 'gladstonelaw19.SuffixSorts', WHERE WHAT IT READS IS OF BULK AT MOST 1048576: true; the input reads as it did. -/
def suffixSortsUptoRow : OpenClaim := { program := "ytpkidedepcnoaaa", sum := "69c971fdb1d2039896607de37555fb7b9e58bca50905aebdf0aa8e04ebad8937", func := "gladstone/gladstonelaw19.SuffixSorts", spec := "suffixSorts", unfollowed := true, recurses := true, apart := false, narrowed := true }
def SuffixSortsUptoSaid : Prop := suffixSortsUptoRow.holds Try.pinned (OpenSpec.upto suffixSortsSpec)

/-- 'gladstonelaw19.SuffixRises', WHERE WHAT IT READS IS OF BULK AT MOST 1048576: true; the input reads as it did. -/
def suffixRisesUptoRow : OpenClaim := { program := "ytpkidedepcnoaaa", sum := "69c971fdb1d2039896607de37555fb7b9e58bca50905aebdf0aa8e04ebad8937", func := "gladstone/gladstonelaw19.SuffixRises", spec := "suffixRises", unfollowed := true, recurses := true, apart := false, narrowed := true }
def SuffixRisesUptoSaid : Prop := suffixRisesUptoRow.holds Try.pinned (OpenSpec.upto suffixRisesSpec)

/-- 'gladstonelaw20.LcpRows', WHERE WHAT IT READS IS OF BULK AT MOST 1048576: true; the input reads as it did. -/
def lcpRowsUptoRow : OpenClaim := { program := "ytpkidedepcnoaaa", sum := "69c971fdb1d2039896607de37555fb7b9e58bca50905aebdf0aa8e04ebad8937", func := "gladstone/gladstonelaw20.LcpRows", spec := "lcpRows", unfollowed := true, recurses := true, apart := false, narrowed := true }
def LcpRowsUptoSaid : Prop := lcpRowsUptoRow.holds Try.pinned (OpenSpec.upto lcpRowsSpec)

/-- 'gladstonelaw20.LcpLeast', WHERE WHAT IT READS IS OF BULK AT MOST 1048576: true; the input reads as it did. -/
def lcpLeastUptoRow : OpenClaim := { program := "ytpkidedepcnoaaa", sum := "69c971fdb1d2039896607de37555fb7b9e58bca50905aebdf0aa8e04ebad8937", func := "gladstone/gladstonelaw20.LcpLeast", spec := "lcpLeast", unfollowed := true, recurses := true, apart := false, narrowed := true }
def LcpLeastUptoSaid : Prop := lcpLeastUptoRow.holds Try.pinned (OpenSpec.upto lcpLeastSpec)

/-- 'gladstonelaw21.NearAll', WHERE WHAT IT READS IS OF BULK AT MOST 1048576: true; the input reads as it did. -/
def nearAllUptoRow : OpenClaim := { program := "ytpkidedepcnoaaa", sum := "69c971fdb1d2039896607de37555fb7b9e58bca50905aebdf0aa8e04ebad8937", func := "gladstone/gladstonelaw21.NearAll", spec := "nearAll", unfollowed := true, recurses := true, apart := false, narrowed := true }
def NearAllUptoSaid : Prop := nearAllUptoRow.holds Try.pinned (OpenSpec.upto nearAllSpec)

/-- 'gladstonelaw21.NearKnows', WHERE WHAT IT READS IS OF BULK AT MOST 1048576: true; the input reads as it did. -/
def nearKnowsUptoRow : OpenClaim := { program := "ytpkidedepcnoaaa", sum := "69c971fdb1d2039896607de37555fb7b9e58bca50905aebdf0aa8e04ebad8937", func := "gladstone/gladstonelaw21.NearKnows", spec := "nearKnows", unfollowed := true, recurses := true, apart := false, narrowed := true }
def NearKnowsUptoSaid : Prop := nearKnowsUptoRow.holds Try.pinned (OpenSpec.upto nearKnowsSpec)

/-- 'gladstonelaw21.NearNone', WHERE WHAT IT READS IS OF BULK AT MOST 1048576: true; the input reads as it did. -/
def nearNoneUptoRow : OpenClaim := { program := "ytpkidedepcnoaaa", sum := "69c971fdb1d2039896607de37555fb7b9e58bca50905aebdf0aa8e04ebad8937", func := "gladstone/gladstonelaw21.NearNone", spec := "nearNone", unfollowed := true, recurses := true, apart := false, narrowed := true }
def NearNoneUptoSaid : Prop := nearNoneUptoRow.holds Try.pinned (OpenSpec.upto nearNoneSpec)

/-- 'gladstonelaw48.BwtTurns', WHERE WHAT IT READS IS OF BULK AT MOST 1048576: true; the input reads as it did. -/
def bwtTurnsUptoRow : OpenClaim := { program := "ytpkidedepcnoaaa", sum := "69c971fdb1d2039896607de37555fb7b9e58bca50905aebdf0aa8e04ebad8937", func := "gladstone/gladstonelaw48.BwtTurns", spec := "bwtTurns", unfollowed := true, recurses := true, apart := false, narrowed := true }
def BwtTurnsUptoSaid : Prop := bwtTurnsUptoRow.holds Try.pinned (OpenSpec.upto bwtTurnsSpec)

/-- 'gladstonelaw48.BwtBack', WHERE WHAT IT READS IS OF BULK AT MOST 1048576: true; the input reads as it did. -/
def bwtBackUptoRow : OpenClaim := { program := "ytpkidedepcnoaaa", sum := "69c971fdb1d2039896607de37555fb7b9e58bca50905aebdf0aa8e04ebad8937", func := "gladstone/gladstonelaw48.BwtBack", spec := "bwtBack", unfollowed := true, recurses := true, apart := false, narrowed := true }
def BwtBackUptoSaid : Prop := bwtBackUptoRow.holds Try.pinned (OpenSpec.upto bwtBackSpec)

end Rows
end Go.Proofs.Ytpkidedepcnoaaa
