/-
  No cell of these rows narrows 'for every input' (looked for: loops, veiled, ifaces, maps, wideKeys, modest, calm, conditions, laid).
  DERIVED. THE GIVEN ROWS OF THIS SEAT. 12 by the template 'for every input the law returns true; each argument reads behind the call as it read before'; 0 by the template 'total and deterministic' (their statements: YtfemcehglolnjaaTotals.lean).
  GIVEN WITH THE SEED: the statements are not yours to turn. If you find one false, say at which input.
  Laid BY PROGRAM, IN A SANDBOX (cutbox-rows.mjs): the forced cells as the released guide's own fill.sh prints them over the translation 4754633f808ccffb… (all of the seat's roots in one cut). By AI agents, Wed Nov 11 2026. No macro, syntax, notation, axiom, sorry.
-/
import Derived.Test.YtfemcehglolnjaaChecked
import GoSem.Claim
import GoSem.ClaimJoined
import GoSem.ClaimMapViews
import Derived.JoinedTies
import Derived.KernelRfl
namespace Go.Proofs.Ytfemcehglolnjaa
/- THE CELL 'sum', in the pinned program and in every row, IS THE sha256 OF THE DUMP (.gsa) THAT YtfemcehglolnjaaProg.lean LOADS. Nothing in Lean hashes anything: it is a label: what it is worth is what the hold of that sum in a sandbox is worth. -/
noncomputable def Try.pinned : Pinned := { name := "ytfemcehglolnjaa", sum := "4754633f808ccffbaa02f5b7b86523fd3d6714c1cb23771d37ebae35ba999818", checked := Try.checked }
namespace Rows
def none {H : Type} : Left H := { results := [], args := [] }

/-- 'gladstonelaw05.CrcSums': WHATEVER THE INPUT: true; the input reads as it did. -/
def crcSumsSpec : ChangeSpec := { name := "crcSums", fn := fun _ => fun
  | [d1, d2] => { results := [.lit (.bool true)], args := [d1, d2] }
  | _ => none }
def crcSumsRow : OpenClaim := { program := "ytfemcehglolnjaa", sum := "4754633f808ccffbaa02f5b7b86523fd3d6714c1cb23771d37ebae35ba999818", func := "gladstone/gladstonelaw05.CrcSums", spec := "crcSums", apart := false }
def CrcSumsSaid : Prop := crcSumsRow.holds Try.pinned (OpenSpec.ofChange crcSumsSpec)

/-- ITS FALSE NEIGHBOUR: 'it returns false'. Refute it at one input. -/
def crcSumsWrong : ChangeSpec := { name := "crcSums", fn := fun _ => fun
  | [d1, d2] => { results := [.lit (.bool false)], args := [d1, d2] }
  | _ => none }
def CrcSumsWrongFalsely : Prop := crcSumsRow.holds Try.pinned (OpenSpec.ofChange crcSumsWrong)

/-- 'gladstonelaw05.CrcParts': WHATEVER THE INPUT: true; the input reads as it did. -/
def crcPartsSpec : ChangeSpec := { name := "crcParts", fn := fun _ => fun
  | [d1, d2] => { results := [.lit (.bool true)], args := [d1, d2] }
  | _ => none }
def crcPartsRow : OpenClaim := { program := "ytfemcehglolnjaa", sum := "4754633f808ccffbaa02f5b7b86523fd3d6714c1cb23771d37ebae35ba999818", func := "gladstone/gladstonelaw05.CrcParts", spec := "crcParts", apart := false }
def CrcPartsSaid : Prop := crcPartsRow.holds Try.pinned (OpenSpec.ofChange crcPartsSpec)

/-- ITS FALSE NEIGHBOUR: 'it returns false'. Refute it at one input. -/
def crcPartsWrong : ChangeSpec := { name := "crcParts", fn := fun _ => fun
  | [d1, d2] => { results := [.lit (.bool false)], args := [d1, d2] }
  | _ => none }
def CrcPartsWrongFalsely : Prop := crcPartsRow.holds Try.pinned (OpenSpec.ofChange crcPartsWrong)

/-- 'gladstonelaw05.CrcOne': WHATEVER THE INPUT: true; the input reads as it did. -/
def crcOneSpec : ChangeSpec := { name := "crcOne", fn := fun _ => fun
  | [d1, d2, d3] => { results := [.lit (.bool true)], args := [d1, d2, d3] }
  | _ => none }
def crcOneRow : OpenClaim := { program := "ytfemcehglolnjaa", sum := "4754633f808ccffbaa02f5b7b86523fd3d6714c1cb23771d37ebae35ba999818", func := "gladstone/gladstonelaw05.CrcOne", spec := "crcOne", apart := false }
def CrcOneSaid : Prop := crcOneRow.holds Try.pinned (OpenSpec.ofChange crcOneSpec)

/-- ITS FALSE NEIGHBOUR: 'it returns false'. Refute it at one input. -/
def crcOneWrong : ChangeSpec := { name := "crcOne", fn := fun _ => fun
  | [d1, d2, d3] => { results := [.lit (.bool false)], args := [d1, d2, d3] }
  | _ => none }
def CrcOneWrongFalsely : Prop := crcOneRow.holds Try.pinned (OpenSpec.ofChange crcOneWrong)

/-- 'gladstonelaw15.SlotsOf': WHATEVER THE INPUT: true; the input reads as it did. -/
def slotsOfSpec : ChangeSpec := { name := "slotsOf", fn := fun _ => fun
  | [d1, d2] => { results := [.lit (.bool true)], args := [d1, d2] }
  | _ => none }
def slotsOfRow : OpenClaim := { program := "ytfemcehglolnjaa", sum := "4754633f808ccffbaa02f5b7b86523fd3d6714c1cb23771d37ebae35ba999818", func := "gladstone/gladstonelaw15.SlotsOf", spec := "slotsOf", apart := false }
def SlotsOfSaid : Prop := slotsOfRow.holds Try.pinned (OpenSpec.ofChange slotsOfSpec)

/-- ITS FALSE NEIGHBOUR: 'it returns false'. Refute it at one input. -/
def slotsOfWrong : ChangeSpec := { name := "slotsOf", fn := fun _ => fun
  | [d1, d2] => { results := [.lit (.bool false)], args := [d1, d2] }
  | _ => none }
def SlotsOfWrongFalsely : Prop := slotsOfRow.holds Try.pinned (OpenSpec.ofChange slotsOfWrong)

/-- 'gladstonelaw15.SlotsBack': WHATEVER THE INPUT: true; the input reads as it did. -/
def slotsBackSpec : ChangeSpec := { name := "slotsBack", fn := fun _ => fun
  | [d1, d2] => { results := [.lit (.bool true)], args := [d1, d2] }
  | _ => none }
def slotsBackRow : OpenClaim := { program := "ytfemcehglolnjaa", sum := "4754633f808ccffbaa02f5b7b86523fd3d6714c1cb23771d37ebae35ba999818", func := "gladstone/gladstonelaw15.SlotsBack", spec := "slotsBack", apart := false }
def SlotsBackSaid : Prop := slotsBackRow.holds Try.pinned (OpenSpec.ofChange slotsBackSpec)

/-- ITS FALSE NEIGHBOUR: 'it returns false'. Refute it at one input. -/
def slotsBackWrong : ChangeSpec := { name := "slotsBack", fn := fun _ => fun
  | [d1, d2] => { results := [.lit (.bool false)], args := [d1, d2] }
  | _ => none }
def SlotsBackWrongFalsely : Prop := slotsBackRow.holds Try.pinned (OpenSpec.ofChange slotsBackWrong)

/-- 'gladstonelaw15.SlotsRound': WHATEVER THE INPUT: true; the input reads as it did. -/
def slotsRoundSpec : ChangeSpec := { name := "slotsRound", fn := fun _ => fun
  | [d1, d2] => { results := [.lit (.bool true)], args := [d1, d2] }
  | _ => none }
def slotsRoundRow : OpenClaim := { program := "ytfemcehglolnjaa", sum := "4754633f808ccffbaa02f5b7b86523fd3d6714c1cb23771d37ebae35ba999818", func := "gladstone/gladstonelaw15.SlotsRound", spec := "slotsRound", apart := false }
def SlotsRoundSaid : Prop := slotsRoundRow.holds Try.pinned (OpenSpec.ofChange slotsRoundSpec)

/-- ITS FALSE NEIGHBOUR: 'it returns false'. Refute it at one input. -/
def slotsRoundWrong : ChangeSpec := { name := "slotsRound", fn := fun _ => fun
  | [d1, d2] => { results := [.lit (.bool false)], args := [d1, d2] }
  | _ => none }
def SlotsRoundWrongFalsely : Prop := slotsRoundRow.holds Try.pinned (OpenSpec.ofChange slotsRoundWrong)

/-- 'gladstonelaw38.BoundSums': WHATEVER THE INPUT: true; the input reads as it did. -/
def boundSumsSpec : ChangeSpec := { name := "boundSums", fn := fun _ => fun
  | [d1, d2] => { results := [.lit (.bool true)], args := [d1, d2] }
  | _ => none }
def boundSumsRow : OpenClaim := { program := "ytfemcehglolnjaa", sum := "4754633f808ccffbaa02f5b7b86523fd3d6714c1cb23771d37ebae35ba999818", func := "gladstone/gladstonelaw38.BoundSums", spec := "boundSums", apart := false }
def BoundSumsSaid : Prop := boundSumsRow.holds Try.pinned (OpenSpec.ofChange boundSumsSpec)

/-- ITS FALSE NEIGHBOUR: 'it returns false'. Refute it at one input. -/
def boundSumsWrong : ChangeSpec := { name := "boundSums", fn := fun _ => fun
  | [d1, d2] => { results := [.lit (.bool false)], args := [d1, d2] }
  | _ => none }
def BoundSumsWrongFalsely : Prop := boundSumsRow.holds Try.pinned (OpenSpec.ofChange boundSumsWrong)

/-- 'gladstonelaw38.BoundRises': WHATEVER THE INPUT: true; the input reads as it did. -/
def boundRisesSpec : ChangeSpec := { name := "boundRises", fn := fun _ => fun
  | [d1, d2] => { results := [.lit (.bool true)], args := [d1, d2] }
  | _ => none }
def boundRisesRow : OpenClaim := { program := "ytfemcehglolnjaa", sum := "4754633f808ccffbaa02f5b7b86523fd3d6714c1cb23771d37ebae35ba999818", func := "gladstone/gladstonelaw38.BoundRises", spec := "boundRises", apart := false }
def BoundRisesSaid : Prop := boundRisesRow.holds Try.pinned (OpenSpec.ofChange boundRisesSpec)

/-- ITS FALSE NEIGHBOUR: 'it returns false'. Refute it at one input. -/
def boundRisesWrong : ChangeSpec := { name := "boundRises", fn := fun _ => fun
  | [d1, d2] => { results := [.lit (.bool false)], args := [d1, d2] }
  | _ => none }
def BoundRisesWrongFalsely : Prop := boundRisesRow.holds Try.pinned (OpenSpec.ofChange boundRisesWrong)

/-- 'gladstonelaw44.ProbUpdates': WHATEVER THE INPUT: true; the input reads as it did. -/
def probUpdatesSpec : ChangeSpec := { name := "probUpdates", fn := fun _ => fun
  | [d1, d2] => { results := [.lit (.bool true)], args := [d1, d2] }
  | _ => none }
def probUpdatesRow : OpenClaim := { program := "ytfemcehglolnjaa", sum := "4754633f808ccffbaa02f5b7b86523fd3d6714c1cb23771d37ebae35ba999818", func := "gladstone/gladstonelaw44.ProbUpdates", spec := "probUpdates", apart := false }
def ProbUpdatesSaid : Prop := probUpdatesRow.holds Try.pinned (OpenSpec.ofChange probUpdatesSpec)

/-- ITS FALSE NEIGHBOUR: 'it returns false'. Refute it at one input. -/
def probUpdatesWrong : ChangeSpec := { name := "probUpdates", fn := fun _ => fun
  | [d1, d2] => { results := [.lit (.bool false)], args := [d1, d2] }
  | _ => none }
def ProbUpdatesWrongFalsely : Prop := probUpdatesRow.holds Try.pinned (OpenSpec.ofChange probUpdatesWrong)

/-- 'gladstonelaw44.ProbStays': WHATEVER THE INPUT: true; the input reads as it did. -/
def probStaysSpec : ChangeSpec := { name := "probStays", fn := fun _ => fun
  | [d] => { results := [.lit (.bool true)], args := [d] }
  | _ => none }
def probStaysRow : OpenClaim := { program := "ytfemcehglolnjaa", sum := "4754633f808ccffbaa02f5b7b86523fd3d6714c1cb23771d37ebae35ba999818", func := "gladstone/gladstonelaw44.ProbStays", spec := "probStays", apart := false }
def ProbStaysSaid : Prop := probStaysRow.holds Try.pinned (OpenSpec.ofChange probStaysSpec)

/-- ITS FALSE NEIGHBOUR: 'it returns false'. Refute it at one input. -/
def probStaysWrong : ChangeSpec := { name := "probStays", fn := fun _ => fun
  | [d] => { results := [.lit (.bool false)], args := [d] }
  | _ => none }
def ProbStaysWrongFalsely : Prop := probStaysRow.holds Try.pinned (OpenSpec.ofChange probStaysWrong)

/-- 'gladstonelaw52.IlogLogs': WHATEVER THE INPUT: true; the input reads as it did. -/
def ilogLogsSpec : ChangeSpec := { name := "ilogLogs", fn := fun _ => fun
  | [d] => { results := [.lit (.bool true)], args := [d] }
  | _ => none }
def ilogLogsRow : OpenClaim := { program := "ytfemcehglolnjaa", sum := "4754633f808ccffbaa02f5b7b86523fd3d6714c1cb23771d37ebae35ba999818", func := "gladstone/gladstonelaw52.IlogLogs", spec := "ilogLogs", apart := false }
def IlogLogsSaid : Prop := ilogLogsRow.holds Try.pinned (OpenSpec.ofChange ilogLogsSpec)

/-- ITS FALSE NEIGHBOUR: 'it returns false'. Refute it at one input. -/
def ilogLogsWrong : ChangeSpec := { name := "ilogLogs", fn := fun _ => fun
  | [d] => { results := [.lit (.bool false)], args := [d] }
  | _ => none }
def IlogLogsWrongFalsely : Prop := ilogLogsRow.holds Try.pinned (OpenSpec.ofChange ilogLogsWrong)

/-- 'gladstonelaw52.IlogRises': WHATEVER THE INPUT: true; the input reads as it did. -/
def ilogRisesSpec : ChangeSpec := { name := "ilogRises", fn := fun _ => fun
  | [d1, d2] => { results := [.lit (.bool true)], args := [d1, d2] }
  | _ => none }
def ilogRisesRow : OpenClaim := { program := "ytfemcehglolnjaa", sum := "4754633f808ccffbaa02f5b7b86523fd3d6714c1cb23771d37ebae35ba999818", func := "gladstone/gladstonelaw52.IlogRises", spec := "ilogRises", apart := false }
def IlogRisesSaid : Prop := ilogRisesRow.holds Try.pinned (OpenSpec.ofChange ilogRisesSpec)

/-- ITS FALSE NEIGHBOUR: 'it returns false'. Refute it at one input. -/
def ilogRisesWrong : ChangeSpec := { name := "ilogRises", fn := fun _ => fun
  | [d1, d2] => { results := [.lit (.bool false)], args := [d1, d2] }
  | _ => none }
def IlogRisesWrongFalsely : Prop := ilogRisesRow.holds Try.pinned (OpenSpec.ofChange ilogRisesWrong)

/- THE SECOND FORM. 'bulk': how many values and letters a reading holds, each counted each time it is reached (what is shared counts as often as it is met; a slice's spare places count too). A statement '..UptoSaid' is the law's where the arguments, and the package variables that the reading takes, are together of bulk at most 1048576: NARROWER than '..Said'. Prove '..Said' where nothing that the law and all that it calls make is longer than what came in: it says more and counts as full. Else prove '..UptoSaid'. A law counts once. -/
mutual
def uptoBulk {H : Type} : DataW H → Nat
  | .lit (.string bytes) => bytes.length + 1
  | .lit _ => 1
  | .nil => 1
  | .ptr d => uptoBulk d + 1
  | .slice elems spare => uptoBulkAll elems + uptoBulkAll spare + 1
  | .agg parts => uptoBulkAll parts + 1
  | .iface _ d => uptoBulk d + 1
  | .map entries => uptoBulkEntries entries + 1
  | .held _ => 1
def uptoBulkAll {H : Type} : List (DataW H) → Nat
  | [] => 0
  | d :: r => uptoBulk d + uptoBulkAll r
def uptoBulkEntries {H : Type} : List (Lit × DataW H) → Nat
  | [] => 0
  | x :: r => uptoBulkEntry x + uptoBulkEntries r
def uptoBulkEntry {H : Type} : Lit × DataW H → Nat
  | (.string bytes, d) => bytes.length + uptoBulk d + 1
  | (_, d) => uptoBulk d + 1
 end
def uptoSmall : (H : Type) → List (DataW H) → Bool := fun _ ds => decide (uptoBulkAll ds ≤ 1048576)
def OpenSpec.upto (s : _root_.Go.ChangeSpec) : _root_.Go.OpenSpec := { _root_.Go.OpenSpec.ofChange s with cond := some uptoSmall }

/-- 'gladstonelaw05.CrcSums', WHERE WHAT IT READS IS OF BULK AT MOST 1048576: true; the input reads as it did. -/
def crcSumsUptoRow : OpenClaim := { program := "ytfemcehglolnjaa", sum := "4754633f808ccffbaa02f5b7b86523fd3d6714c1cb23771d37ebae35ba999818", func := "gladstone/gladstonelaw05.CrcSums", spec := "crcSums", apart := false, narrowed := true }
def CrcSumsUptoSaid : Prop := crcSumsUptoRow.holds Try.pinned (OpenSpec.upto crcSumsSpec)

/-- 'gladstonelaw05.CrcParts', WHERE WHAT IT READS IS OF BULK AT MOST 1048576: true; the input reads as it did. -/
def crcPartsUptoRow : OpenClaim := { program := "ytfemcehglolnjaa", sum := "4754633f808ccffbaa02f5b7b86523fd3d6714c1cb23771d37ebae35ba999818", func := "gladstone/gladstonelaw05.CrcParts", spec := "crcParts", apart := false, narrowed := true }
def CrcPartsUptoSaid : Prop := crcPartsUptoRow.holds Try.pinned (OpenSpec.upto crcPartsSpec)

/-- 'gladstonelaw05.CrcOne', WHERE WHAT IT READS IS OF BULK AT MOST 1048576: true; the input reads as it did. -/
def crcOneUptoRow : OpenClaim := { program := "ytfemcehglolnjaa", sum := "4754633f808ccffbaa02f5b7b86523fd3d6714c1cb23771d37ebae35ba999818", func := "gladstone/gladstonelaw05.CrcOne", spec := "crcOne", apart := false, narrowed := true }
def CrcOneUptoSaid : Prop := crcOneUptoRow.holds Try.pinned (OpenSpec.upto crcOneSpec)

/-- 'gladstonelaw15.SlotsOf', WHERE WHAT IT READS IS OF BULK AT MOST 1048576: true; the input reads as it did. -/
def slotsOfUptoRow : OpenClaim := { program := "ytfemcehglolnjaa", sum := "4754633f808ccffbaa02f5b7b86523fd3d6714c1cb23771d37ebae35ba999818", func := "gladstone/gladstonelaw15.SlotsOf", spec := "slotsOf", apart := false, narrowed := true }
def SlotsOfUptoSaid : Prop := slotsOfUptoRow.holds Try.pinned (OpenSpec.upto slotsOfSpec)

/-- 'gladstonelaw15.SlotsBack', WHERE WHAT IT READS IS OF BULK AT MOST 1048576: true; the input reads as it did. -/
def slotsBackUptoRow : OpenClaim := { program := "ytfemcehglolnjaa", sum := "4754633f808ccffbaa02f5b7b86523fd3d6714c1cb23771d37ebae35ba999818", func := "gladstone/gladstonelaw15.SlotsBack", spec := "slotsBack", apart := false, narrowed := true }
def SlotsBackUptoSaid : Prop := slotsBackUptoRow.holds Try.pinned (OpenSpec.upto slotsBackSpec)

/-- 'gladstonelaw15.SlotsRound', WHERE WHAT IT READS IS OF BULK AT MOST 1048576: true; the input reads as it did. -/
def slotsRoundUptoRow : OpenClaim := { program := "ytfemcehglolnjaa", sum := "4754633f808ccffbaa02f5b7b86523fd3d6714c1cb23771d37ebae35ba999818", func := "gladstone/gladstonelaw15.SlotsRound", spec := "slotsRound", apart := false, narrowed := true }
def SlotsRoundUptoSaid : Prop := slotsRoundUptoRow.holds Try.pinned (OpenSpec.upto slotsRoundSpec)

/-- 'gladstonelaw38.BoundSums', WHERE WHAT IT READS IS OF BULK AT MOST 1048576: true; the input reads as it did. -/
def boundSumsUptoRow : OpenClaim := { program := "ytfemcehglolnjaa", sum := "4754633f808ccffbaa02f5b7b86523fd3d6714c1cb23771d37ebae35ba999818", func := "gladstone/gladstonelaw38.BoundSums", spec := "boundSums", apart := false, narrowed := true }
def BoundSumsUptoSaid : Prop := boundSumsUptoRow.holds Try.pinned (OpenSpec.upto boundSumsSpec)

/-- 'gladstonelaw38.BoundRises', WHERE WHAT IT READS IS OF BULK AT MOST 1048576: true; the input reads as it did. -/
def boundRisesUptoRow : OpenClaim := { program := "ytfemcehglolnjaa", sum := "4754633f808ccffbaa02f5b7b86523fd3d6714c1cb23771d37ebae35ba999818", func := "gladstone/gladstonelaw38.BoundRises", spec := "boundRises", apart := false, narrowed := true }
def BoundRisesUptoSaid : Prop := boundRisesUptoRow.holds Try.pinned (OpenSpec.upto boundRisesSpec)

/-- 'gladstonelaw44.ProbUpdates', WHERE WHAT IT READS IS OF BULK AT MOST 1048576: true; the input reads as it did. -/
def probUpdatesUptoRow : OpenClaim := { program := "ytfemcehglolnjaa", sum := "4754633f808ccffbaa02f5b7b86523fd3d6714c1cb23771d37ebae35ba999818", func := "gladstone/gladstonelaw44.ProbUpdates", spec := "probUpdates", apart := false, narrowed := true }
def ProbUpdatesUptoSaid : Prop := probUpdatesUptoRow.holds Try.pinned (OpenSpec.upto probUpdatesSpec)

/-- 'gladstonelaw44.ProbStays', WHERE WHAT IT READS IS OF BULK AT MOST 1048576: true; the input reads as it did. -/
def probStaysUptoRow : OpenClaim := { program := "ytfemcehglolnjaa", sum := "4754633f808ccffbaa02f5b7b86523fd3d6714c1cb23771d37ebae35ba999818", func := "gladstone/gladstonelaw44.ProbStays", spec := "probStays", apart := false, narrowed := true }
def ProbStaysUptoSaid : Prop := probStaysUptoRow.holds Try.pinned (OpenSpec.upto probStaysSpec)

/-- 'gladstonelaw52.IlogLogs', WHERE WHAT IT READS IS OF BULK AT MOST 1048576: true; the input reads as it did. -/
def ilogLogsUptoRow : OpenClaim := { program := "ytfemcehglolnjaa", sum := "4754633f808ccffbaa02f5b7b86523fd3d6714c1cb23771d37ebae35ba999818", func := "gladstone/gladstonelaw52.IlogLogs", spec := "ilogLogs", apart := false, narrowed := true }
def IlogLogsUptoSaid : Prop := ilogLogsUptoRow.holds Try.pinned (OpenSpec.upto ilogLogsSpec)

/-- 'gladstonelaw52.IlogRises', WHERE WHAT IT READS IS OF BULK AT MOST 1048576: true; the input reads as it did. -/
def ilogRisesUptoRow : OpenClaim := { program := "ytfemcehglolnjaa", sum := "4754633f808ccffbaa02f5b7b86523fd3d6714c1cb23771d37ebae35ba999818", func := "gladstone/gladstonelaw52.IlogRises", spec := "ilogRises", apart := false, narrowed := true }
def IlogRisesUptoSaid : Prop := ilogRisesUptoRow.holds Try.pinned (OpenSpec.upto ilogRisesSpec)

end Rows
end Go.Proofs.Ytfemcehglolnjaa
