/-
  No cell of these rows narrows 'for every input' (looked for: loops, veiled, ifaces, maps, wideKeys, modest, calm, conditions, laid).
  DERIVED. THE GIVEN ROWS OF THIS SEAT. 12 by the template 'for every input the law returns true; each argument reads behind the call as it read before'; 0 by the template 'total and deterministic' (their statements: YtlampmedeebekaaTotals.lean).
  GIVEN WITH THE SEED: the statements are not yours to turn. If you find one false, say at which input.
  Laid BY PROGRAM, IN A SANDBOX (cutbox-rows.mjs): the forced cells as the released guide's own fill.sh prints them over the translation 8630dffc366f050a… (all of the seat's roots in one cut). By AI agents, Wed Nov 11 2026. No macro, syntax, notation, axiom, sorry.
-/
import Derived.Test.YtlampmedeebekaaChecked
import GoSem.Claim
import GoSem.ClaimJoined
import GoSem.ClaimMapViews
import Derived.JoinedTies
import Derived.KernelRfl
namespace Go.Proofs.Ytlampmedeebekaa
/- THE CELL 'sum', in the pinned program and in every row, IS THE sha256 OF THE DUMP (.gsa) THAT YtlampmedeebekaaProg.lean LOADS. Nothing in Lean hashes anything: it is a label: what it is worth is what the hold of that sum in a sandbox is worth. -/
noncomputable def Try.pinned : Pinned := { name := "ytlampmedeebekaa", sum := "8630dffc366f050adc853f9b3ab919c25860e506f76cef1a840607d701666fa3", checked := Try.checked }
namespace Rows
def none {H : Type} : Left H := { results := [], args := [] }

/-- 'gladstonelaw09.SlowDecodes': WHATEVER THE INPUT: true; the input reads as it did. -/
def slowDecodesSpec : ChangeSpec := { name := "slowDecodes", fn := fun _ => fun
  | [d1, d2, d3] => { results := [.lit (.bool true)], args := [d1, d2, d3] }
  | _ => none }
def slowDecodesRow : OpenClaim := { program := "ytlampmedeebekaa", sum := "8630dffc366f050adc853f9b3ab919c25860e506f76cef1a840607d701666fa3", func := "gladstone/gladstonelaw09.SlowDecodes", spec := "slowDecodes", unfollowed := true, recurses := true, apart := false }
def SlowDecodesSaid : Prop := slowDecodesRow.holds Try.pinned (OpenSpec.ofChange slowDecodesSpec)

/-- ITS FALSE NEIGHBOUR: 'it returns false'. Refute it at one input. -/
def slowDecodesWrong : ChangeSpec := { name := "slowDecodes", fn := fun _ => fun
  | [d1, d2, d3] => { results := [.lit (.bool false)], args := [d1, d2, d3] }
  | _ => none }
def SlowDecodesWrongFalsely : Prop := slowDecodesRow.holds Try.pinned (OpenSpec.ofChange slowDecodesWrong)

/-- 'gladstonelaw09.SlowBack': WHATEVER THE INPUT: true; the input reads as it did. -/
def slowBackSpec : ChangeSpec := { name := "slowBack", fn := fun _ => fun
  | [d1, d2, d3] => { results := [.lit (.bool true)], args := [d1, d2, d3] }
  | _ => none }
def slowBackRow : OpenClaim := { program := "ytlampmedeebekaa", sum := "8630dffc366f050adc853f9b3ab919c25860e506f76cef1a840607d701666fa3", func := "gladstone/gladstonelaw09.SlowBack", spec := "slowBack", unfollowed := true, recurses := true, apart := false }
def SlowBackSaid : Prop := slowBackRow.holds Try.pinned (OpenSpec.ofChange slowBackSpec)

/-- ITS FALSE NEIGHBOUR: 'it returns false'. Refute it at one input. -/
def slowBackWrong : ChangeSpec := { name := "slowBack", fn := fun _ => fun
  | [d1, d2, d3] => { results := [.lit (.bool false)], args := [d1, d2, d3] }
  | _ => none }
def SlowBackWrongFalsely : Prop := slowBackRow.holds Try.pinned (OpenSpec.ofChange slowBackWrong)

/-- 'gladstonelaw11.TwolevNone': WHATEVER THE INPUT: true; the input reads as it did. -/
def twolevNoneSpec : ChangeSpec := { name := "twolevNone", fn := fun _ => fun
  | [d] => { results := [.lit (.bool true)], args := [d] }
  | _ => none }
def twolevNoneRow : OpenClaim := { program := "ytlampmedeebekaa", sum := "8630dffc366f050adc853f9b3ab919c25860e506f76cef1a840607d701666fa3", func := "gladstone/gladstonelaw11.TwolevNone", spec := "twolevNone", apart := false }
def TwolevNoneSaid : Prop := twolevNoneRow.holds Try.pinned (OpenSpec.ofChange twolevNoneSpec)

/-- ITS FALSE NEIGHBOUR: 'it returns false'. Refute it at one input. -/
def twolevNoneWrong : ChangeSpec := { name := "twolevNone", fn := fun _ => fun
  | [d] => { results := [.lit (.bool false)], args := [d] }
  | _ => none }
def TwolevNoneWrongFalsely : Prop := twolevNoneRow.holds Try.pinned (OpenSpec.ofChange twolevNoneWrong)

/-- 'gladstonelaw14.WeightWholes': WHATEVER THE INPUT: true; the input reads as it did. -/
def weightWholesSpec : ChangeSpec := { name := "weightWholes", fn := fun _ => fun
  | [d1, d2, d3] => { results := [.lit (.bool true)], args := [d1, d2, d3] }
  | _ => none }
def weightWholesRow : OpenClaim := { program := "ytlampmedeebekaa", sum := "8630dffc366f050adc853f9b3ab919c25860e506f76cef1a840607d701666fa3", func := "gladstone/gladstonelaw14.WeightWholes", spec := "weightWholes", inPlace := ["math.archFloor", "math.Float64bits", "math.Float64frombits", "math.archTrunc"], unfollowed := true, recurses := true, apart := false }
def WeightWholesSaid : Prop := weightWholesRow.holds Try.pinned (OpenSpec.ofChange weightWholesSpec)

/-- ITS FALSE NEIGHBOUR: 'it returns false'. Refute it at one input. -/
def weightWholesWrong : ChangeSpec := { name := "weightWholes", fn := fun _ => fun
  | [d1, d2, d3] => { results := [.lit (.bool false)], args := [d1, d2, d3] }
  | _ => none }
def WeightWholesWrongFalsely : Prop := weightWholesRow.holds Try.pinned (OpenSpec.ofChange weightWholesWrong)

/-- 'gladstonelaw14.WeightMixes': WHATEVER THE INPUT: true; the input reads as it did. -/
def weightMixesSpec : ChangeSpec := { name := "weightMixes", fn := fun _ => fun
  | [d1, d2, d3] => { results := [.lit (.bool true)], args := [d1, d2, d3] }
  | _ => none }
def weightMixesRow : OpenClaim := { program := "ytlampmedeebekaa", sum := "8630dffc366f050adc853f9b3ab919c25860e506f76cef1a840607d701666fa3", func := "gladstone/gladstonelaw14.WeightMixes", spec := "weightMixes", inPlace := ["math.archFloor", "math.Float64bits", "math.Float64frombits", "math.archTrunc"], unfollowed := true, recurses := true, apart := false }
def WeightMixesSaid : Prop := weightMixesRow.holds Try.pinned (OpenSpec.ofChange weightMixesSpec)

/-- ITS FALSE NEIGHBOUR: 'it returns false'. Refute it at one input. -/
def weightMixesWrong : ChangeSpec := { name := "weightMixes", fn := fun _ => fun
  | [d1, d2, d3] => { results := [.lit (.bool false)], args := [d1, d2, d3] }
  | _ => none }
def WeightMixesWrongFalsely : Prop := weightMixesRow.holds Try.pinned (OpenSpec.ofChange weightMixesWrong)

/-- 'gladstonelaw14.WeightBetween': WHATEVER THE INPUT: true; the input reads as it did. -/
def weightBetweenSpec : ChangeSpec := { name := "weightBetween", fn := fun _ => fun
  | [d1, d2, d3] => { results := [.lit (.bool true)], args := [d1, d2, d3] }
  | _ => none }
def weightBetweenRow : OpenClaim := { program := "ytlampmedeebekaa", sum := "8630dffc366f050adc853f9b3ab919c25860e506f76cef1a840607d701666fa3", func := "gladstone/gladstonelaw14.WeightBetween", spec := "weightBetween", inPlace := ["math.archFloor", "math.Float64bits", "math.Float64frombits", "math.archTrunc"], unfollowed := true, recurses := true, apart := false }
def WeightBetweenSaid : Prop := weightBetweenRow.holds Try.pinned (OpenSpec.ofChange weightBetweenSpec)

/-- ITS FALSE NEIGHBOUR: 'it returns false'. Refute it at one input. -/
def weightBetweenWrong : ChangeSpec := { name := "weightBetween", fn := fun _ => fun
  | [d1, d2, d3] => { results := [.lit (.bool false)], args := [d1, d2, d3] }
  | _ => none }
def WeightBetweenWrongFalsely : Prop := weightBetweenRow.holds Try.pinned (OpenSpec.ofChange weightBetweenWrong)

/-- 'gladstonelaw19.SuffixSorts': WHATEVER THE INPUT: true; the input reads as it did. -/
def suffixSortsSpec : ChangeSpec := { name := "suffixSorts", fn := fun _ => fun
  | [d1, d2] => { results := [.lit (.bool true)], args := [d1, d2] }
  | _ => none }
def suffixSortsRow : OpenClaim := { program := "ytlampmedeebekaa", sum := "8630dffc366f050adc853f9b3ab919c25860e506f76cef1a840607d701666fa3", func := "gladstone/gladstonelaw19.SuffixSorts", spec := "suffixSorts", unfollowed := true, recurses := true, apart := false }
def SuffixSortsSaid : Prop := suffixSortsRow.holds Try.pinned (OpenSpec.ofChange suffixSortsSpec)

/-- ITS FALSE NEIGHBOUR: 'it returns false'. Refute it at one input. -/
def suffixSortsWrong : ChangeSpec := { name := "suffixSorts", fn := fun _ => fun
  | [d1, d2] => { results := [.lit (.bool false)], args := [d1, d2] }
  | _ => none }
def SuffixSortsWrongFalsely : Prop := suffixSortsRow.holds Try.pinned (OpenSpec.ofChange suffixSortsWrong)

/-- 'gladstonelaw19.SuffixRises': WHATEVER THE INPUT: true; the input reads as it did. -/
def suffixRisesSpec : ChangeSpec := { name := "suffixRises", fn := fun _ => fun
  | [d] => { results := [.lit (.bool true)], args := [d] }
  | _ => none }
def suffixRisesRow : OpenClaim := { program := "ytlampmedeebekaa", sum := "8630dffc366f050adc853f9b3ab919c25860e506f76cef1a840607d701666fa3", func := "gladstone/gladstonelaw19.SuffixRises", spec := "suffixRises", unfollowed := true, recurses := true, apart := false }
def SuffixRisesSaid : Prop := suffixRisesRow.holds Try.pinned (OpenSpec.ofChange suffixRisesSpec)

/-- ITS FALSE NEIGHBOUR: 'it returns false'. Refute it at one input. -/
def suffixRisesWrong : ChangeSpec := { name := "suffixRises", fn := fun _ => fun
  | [d] => { results := [.lit (.bool false)], args := [d] }
  | _ => none }
def SuffixRisesWrongFalsely : Prop := suffixRisesRow.holds Try.pinned (OpenSpec.ofChange suffixRisesWrong)

/-- 'gladstonelaw20.LcpRows': WHATEVER THE INPUT: true; the input reads as it did. -/
def lcpRowsSpec : ChangeSpec := { name := "lcpRows", fn := fun _ => fun
  | [d1, d2, d3] => { results := [.lit (.bool true)], args := [d1, d2, d3] }
  | _ => none }
def lcpRowsRow : OpenClaim := { program := "ytlampmedeebekaa", sum := "8630dffc366f050adc853f9b3ab919c25860e506f76cef1a840607d701666fa3", func := "gladstone/gladstonelaw20.LcpRows", spec := "lcpRows", unfollowed := true, recurses := true, apart := false }
def LcpRowsSaid : Prop := lcpRowsRow.holds Try.pinned (OpenSpec.ofChange lcpRowsSpec)

/-- ITS FALSE NEIGHBOUR: 'it returns false'. Refute it at one input. -/
def lcpRowsWrong : ChangeSpec := { name := "lcpRows", fn := fun _ => fun
  | [d1, d2, d3] => { results := [.lit (.bool false)], args := [d1, d2, d3] }
  | _ => none }
def LcpRowsWrongFalsely : Prop := lcpRowsRow.holds Try.pinned (OpenSpec.ofChange lcpRowsWrong)

/-- 'gladstonelaw20.LcpLeast': WHATEVER THE INPUT: true; the input reads as it did. -/
def lcpLeastSpec : ChangeSpec := { name := "lcpLeast", fn := fun _ => fun
  | [d1, d2, d3] => { results := [.lit (.bool true)], args := [d1, d2, d3] }
  | _ => none }
def lcpLeastRow : OpenClaim := { program := "ytlampmedeebekaa", sum := "8630dffc366f050adc853f9b3ab919c25860e506f76cef1a840607d701666fa3", func := "gladstone/gladstonelaw20.LcpLeast", spec := "lcpLeast", unfollowed := true, recurses := true, apart := false }
def LcpLeastSaid : Prop := lcpLeastRow.holds Try.pinned (OpenSpec.ofChange lcpLeastSpec)

/-- ITS FALSE NEIGHBOUR: 'it returns false'. Refute it at one input. -/
def lcpLeastWrong : ChangeSpec := { name := "lcpLeast", fn := fun _ => fun
  | [d1, d2, d3] => { results := [.lit (.bool false)], args := [d1, d2, d3] }
  | _ => none }
def LcpLeastWrongFalsely : Prop := lcpLeastRow.holds Try.pinned (OpenSpec.ofChange lcpLeastWrong)

/-- 'gladstonelaw48.BwtTurns': WHATEVER THE INPUT: true; the input reads as it did. -/
def bwtTurnsSpec : ChangeSpec := { name := "bwtTurns", fn := fun _ => fun
  | [d1, d2, d3] => { results := [.lit (.bool true)], args := [d1, d2, d3] }
  | _ => none }
def bwtTurnsRow : OpenClaim := { program := "ytlampmedeebekaa", sum := "8630dffc366f050adc853f9b3ab919c25860e506f76cef1a840607d701666fa3", func := "gladstone/gladstonelaw48.BwtTurns", spec := "bwtTurns", unfollowed := true, recurses := true, apart := false }
def BwtTurnsSaid : Prop := bwtTurnsRow.holds Try.pinned (OpenSpec.ofChange bwtTurnsSpec)

/-- ITS FALSE NEIGHBOUR: 'it returns false'. Refute it at one input. -/
def bwtTurnsWrong : ChangeSpec := { name := "bwtTurns", fn := fun _ => fun
  | [d1, d2, d3] => { results := [.lit (.bool false)], args := [d1, d2, d3] }
  | _ => none }
def BwtTurnsWrongFalsely : Prop := bwtTurnsRow.holds Try.pinned (OpenSpec.ofChange bwtTurnsWrong)

/-- 'gladstonelaw48.BwtBack': WHATEVER THE INPUT: true; the input reads as it did. -/
def bwtBackSpec : ChangeSpec := { name := "bwtBack", fn := fun _ => fun
  | [d] => { results := [.lit (.bool true)], args := [d] }
  | _ => none }
def bwtBackRow : OpenClaim := { program := "ytlampmedeebekaa", sum := "8630dffc366f050adc853f9b3ab919c25860e506f76cef1a840607d701666fa3", func := "gladstone/gladstonelaw48.BwtBack", spec := "bwtBack", unfollowed := true, recurses := true, apart := false }
def BwtBackSaid : Prop := bwtBackRow.holds Try.pinned (OpenSpec.ofChange bwtBackSpec)

/-- ITS FALSE NEIGHBOUR: 'it returns false'. Refute it at one input. -/
def bwtBackWrong : ChangeSpec := { name := "bwtBack", fn := fun _ => fun
  | [d] => { results := [.lit (.bool false)], args := [d] }
  | _ => none }
def BwtBackWrongFalsely : Prop := bwtBackRow.holds Try.pinned (OpenSpec.ofChange bwtBackWrong)

/- THE SECOND FORM. 'bulk': how many values and letters a reading holds, each counted each time it is reached (what is shared counts as often as it is met; a slice's spare places count too). A statement '..UptoSaid' is the law's where the arguments, and the package variables that the reading takes, are together of bulk at most 1048576: NARROWER than '..Said'. Prove '..Said' where nothing that the law and all that it calls make is longer than what came in: it says more and counts as full. Else prove '..UptoSaid'. A law counts once. -/
mutual
def uptoBulk {H : Type} : DataW H → Nat
  | .lit (.string bytes) => bytes.length + 1
  | .lit _ => 1
  | .nil => 1
  | .ptr d => uptoBulk d + 1
  | .slice elems spare => uptoBulkAll elems + uptoBulkAll spare + 1
  | .agg parts => uptoBulkAll parts + 1
  | .iface _ d => uptoBulk d + 1
  | .map entries => uptoBulkEntries entries + 1
  | .held _ => 1
def uptoBulkAll {H : Type} : List (DataW H) → Nat
  | [] => 0
  | d :: r => uptoBulk d + uptoBulkAll r
def uptoBulkEntries {H : Type} : List (Lit × DataW H) → Nat
  | [] => 0
  | x :: r => uptoBulkEntry x + uptoBulkEntries r
def uptoBulkEntry {H : Type} : Lit × DataW H → Nat
  | (.string bytes, d) => bytes.length + uptoBulk d + 1
  | (_, d) => uptoBulk d + 1
 end
def uptoSmall : (H : Type) → List (DataW H) → Bool := fun _ ds => decide (uptoBulkAll ds ≤ 1048576)
def OpenSpec.upto (s : _root_.Go.ChangeSpec) : _root_.Go.OpenSpec := { _root_.Go.OpenSpec.ofChange s with cond := some uptoSmall }

/-- 'gladstonelaw09.SlowDecodes', WHERE WHAT IT READS IS OF BULK AT MOST 1048576: true; the input reads as it did. -/
def slowDecodesUptoRow : OpenClaim := { program := "ytlampmedeebekaa", sum := "8630dffc366f050adc853f9b3ab919c25860e506f76cef1a840607d701666fa3", func := "gladstone/gladstonelaw09.SlowDecodes", spec := "slowDecodes", unfollowed := true, recurses := true, apart := false, narrowed := true }
def SlowDecodesUptoSaid : Prop := slowDecodesUptoRow.holds Try.pinned (OpenSpec.upto slowDecodesSpec)

/-- 'gladstonelaw09.SlowBack', WHERE WHAT IT READS IS OF BULK AT MOST 1048576: true; the input reads as it did. -/
def slowBackUptoRow : OpenClaim := { program := "ytlampmedeebekaa", sum := "8630dffc366f050adc853f9b3ab919c25860e506f76cef1a840607d701666fa3", func := "gladstone/gladstonelaw09.SlowBack", spec := "slowBack", unfollowed := true, recurses := true, apart := false, narrowed := true }
def SlowBackUptoSaid : Prop := slowBackUptoRow.holds Try.pinned (OpenSpec.upto slowBackSpec)

/-- 'gladstonelaw11.TwolevNone', WHERE WHAT IT READS IS OF BULK AT MOST 1048576: true; the input reads as it did. -/
def twolevNoneUptoRow : OpenClaim := { program := "ytlampmedeebekaa", sum := "8630dffc366f050adc853f9b3ab919c25860e506f76cef1a840607d701666fa3", func := "gladstone/gladstonelaw11.TwolevNone", spec := "twolevNone", apart := false, narrowed := true }
def TwolevNoneUptoSaid : Prop := twolevNoneUptoRow.holds Try.pinned (OpenSpec.upto twolevNoneSpec)

/-- 'gladstonelaw14.WeightWholes', WHERE WHAT IT READS IS OF BULK AT MOST 1048576: true; the input reads as it did. -/
def weightWholesUptoRow : OpenClaim := { program := "ytlampmedeebekaa", sum := "8630dffc366f050adc853f9b3ab919c25860e506f76cef1a840607d701666fa3", func := "gladstone/gladstonelaw14.WeightWholes", spec := "weightWholes", inPlace := ["math.archFloor", "math.Float64bits", "math.Float64frombits", "math.archTrunc"], unfollowed := true, recurses := true, apart := false, narrowed := true }
def WeightWholesUptoSaid : Prop := weightWholesUptoRow.holds Try.pinned (OpenSpec.upto weightWholesSpec)

/-- 'gladstonelaw14.WeightMixes', WHERE WHAT IT READS IS OF BULK AT MOST 1048576: true; the input reads as it did. -/
def weightMixesUptoRow : OpenClaim := { program := "ytlampmedeebekaa", sum := "8630dffc366f050adc853f9b3ab919c25860e506f76cef1a840607d701666fa3", func := "gladstone/gladstonelaw14.WeightMixes", spec := "weightMixes", inPlace := ["math.archFloor", "math.Float64bits", "math.Float64frombits", "math.archTrunc"], unfollowed := true, recurses := true, apart := false, narrowed := true }
def WeightMixesUptoSaid : Prop := weightMixesUptoRow.holds Try.pinned (OpenSpec.upto weightMixesSpec)

/-- 'gladstonelaw14.WeightBetween', WHERE WHAT IT READS IS OF BULK AT MOST 1048576: true; the input reads as it did. -/
def weightBetweenUptoRow : OpenClaim := { program := "ytlampmedeebekaa", sum := "8630dffc366f050adc853f9b3ab919c25860e506f76cef1a840607d701666fa3", func := "gladstone/gladstonelaw14.WeightBetween", spec := "weightBetween", inPlace := ["math.archFloor", "math.Float64bits", "math.Float64frombits", "math.archTrunc"], unfollowed := true, recurses := true, apart := false, narrowed := true }
def WeightBetweenUptoSaid : Prop := weightBetweenUptoRow.holds Try.pinned (OpenSpec.upto weightBetweenSpec)

/-- 'gladstonelaw19.SuffixSorts', WHERE WHAT IT READS IS OF BULK AT MOST 1048576: true; the input reads as it did. -/
def suffixSortsUptoRow : OpenClaim := { program := "ytlampmedeebekaa", sum := "8630dffc366f050adc853f9b3ab919c25860e506f76cef1a840607d701666fa3", func := "gladstone/gladstonelaw19.SuffixSorts", spec := "suffixSorts", unfollowed := true, recurses := true, apart := false, narrowed := true }
def SuffixSortsUptoSaid : Prop := suffixSortsUptoRow.holds Try.pinned (OpenSpec.upto suffixSortsSpec)

/-- 'gladstonelaw19.SuffixRises', WHERE WHAT IT READS IS OF BULK AT MOST 1048576: true; the input reads as it did. -/
def suffixRisesUptoRow : OpenClaim := { program := "ytlampmedeebekaa", sum := "8630dffc366f050adc853f9b3ab919c25860e506f76cef1a840607d701666fa3", func := "gladstone/gladstonelaw19.SuffixRises", spec := "suffixRises", unfollowed := true, recurses := true, apart := false, narrowed := true }
def SuffixRisesUptoSaid : Prop := suffixRisesUptoRow.holds Try.pinned (OpenSpec.upto suffixRisesSpec)

/-- 'gladstonelaw20.LcpRows', WHERE WHAT IT READS IS OF BULK AT MOST 1048576: true; the input reads as it did. -/
def lcpRowsUptoRow : OpenClaim := { program := "ytlampmedeebekaa", sum := "8630dffc366f050adc853f9b3ab919c25860e506f76cef1a840607d701666fa3", func := "gladstone/gladstonelaw20.LcpRows", spec := "lcpRows", unfollowed := true, recurses := true, apart := false, narrowed := true }
def LcpRowsUptoSaid : Prop := lcpRowsUptoRow.holds Try.pinned (OpenSpec.upto lcpRowsSpec)

/-- 'gladstonelaw20.LcpLeast', WHERE WHAT IT READS IS OF BULK AT MOST 1048576: true; the input reads as it did. -/
def lcpLeastUptoRow : OpenClaim := { program := "ytlampmedeebekaa", sum := "8630dffc366f050adc853f9b3ab919c25860e506f76cef1a840607d701666fa3", func := "gladstone/gladstonelaw20.LcpLeast", spec := "lcpLeast", unfollowed := true, recurses := true, apart := false, narrowed := true }
def LcpLeastUptoSaid : Prop := lcpLeastUptoRow.holds Try.pinned (OpenSpec.upto lcpLeastSpec)

/-- 'gladstonelaw48.BwtTurns', WHERE WHAT IT READS IS OF BULK AT MOST 1048576: true; the input reads as it did. -/
def bwtTurnsUptoRow : OpenClaim := { program := "ytlampmedeebekaa", sum := "8630dffc366f050adc853f9b3ab919c25860e506f76cef1a840607d701666fa3", func := "gladstone/gladstonelaw48.BwtTurns", spec := "bwtTurns", unfollowed := true, recurses := true, apart := false, narrowed := true }
def BwtTurnsUptoSaid : Prop := bwtTurnsUptoRow.holds Try.pinned (OpenSpec.upto bwtTurnsSpec)

/-- 'gladstonelaw48.BwtBack', WHERE WHAT IT READS IS OF BULK AT MOST 1048576: true; the input reads as it did. -/
def bwtBackUptoRow : OpenClaim := { program := "ytlampmedeebekaa", sum := "8630dffc366f050adc853f9b3ab919c25860e506f76cef1a840607d701666fa3", func := "gladstone/gladstonelaw48.BwtBack", spec := "bwtBack", unfollowed := true, recurses := true, apart := false, narrowed := true }
def BwtBackUptoSaid : Prop := bwtBackUptoRow.holds Try.pinned (OpenSpec.upto bwtBackSpec)

end Rows
end Go.Proofs.Ytlampmedeebekaa
