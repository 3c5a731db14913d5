/-
  No cell of these rows narrows 'for every input' (looked for: loops, veiled, ifaces, maps, wideKeys, modest, calm, conditions, laid).
  DERIVED. THE GIVEN ROWS OF THIS SEAT. 12 by the template 'for every input the law returns true; each argument reads behind the call as it read before'; 0 by the template 'total and deterministic' (their statements: YtmpmioffngonjaaTotals.lean).
  GIVEN WITH THE SEED: the statements are not yours to turn. If you find one false, say at which input.
  Laid BY PROGRAM, IN A SANDBOX (cutbox-rows.mjs): the forced cells as the released guide's own fill.sh prints them over the translation 0b221cd4ae269acb… (all of the seat's roots in one cut). By AI agents, Wed Nov 11 2026. No macro, syntax, notation, axiom, sorry.
-/
import Derived.Test.YtmpmioffngonjaaChecked
import GoSem.Claim
import GoSem.ClaimJoined
import GoSem.ClaimMapViews
import Derived.JoinedTies
import Derived.KernelRfl
namespace Go.Proofs.Ytmpmioffngonjaa
/- THE CELL 'sum', in the pinned program and in every row, IS THE sha256 OF THE DUMP (.gsa) THAT YtmpmioffngonjaaProg.lean LOADS. Nothing in Lean hashes anything: it is a label: what it is worth is what the hold of that sum in a sandbox is worth. -/
noncomputable def Try.pinned : Pinned := { name := "ytmpmioffngonjaa", sum := "0b221cd4ae269acbe553910d63726eab1ffdbfbae7b0e7efd54e6deeb96c7173", checked := Try.checked }
namespace Rows
def none {H : Type} : Left H := { results := [], args := [] }

/-- 'gladstonelaw06.KraftLooks': WHATEVER THE INPUT: true; the input reads as it did. -/
def kraftLooksSpec : ChangeSpec := { name := "kraftLooks", fn := fun _ => fun
  | [d1, d2] => { results := [.lit (.bool true)], args := [d1, d2] }
  | _ => none }
def kraftLooksRow : OpenClaim := { program := "ytmpmioffngonjaa", sum := "0b221cd4ae269acbe553910d63726eab1ffdbfbae7b0e7efd54e6deeb96c7173", func := "gladstone/gladstonelaw06.KraftLooks", spec := "kraftLooks", apart := false }
def KraftLooksSaid : Prop := kraftLooksRow.holds Try.pinned (OpenSpec.ofChange kraftLooksSpec)

/-- ITS FALSE NEIGHBOUR: 'it returns false'. Refute it at one input. -/
def kraftLooksWrong : ChangeSpec := { name := "kraftLooks", fn := fun _ => fun
  | [d1, d2] => { results := [.lit (.bool false)], args := [d1, d2] }
  | _ => none }
def KraftLooksWrongFalsely : Prop := kraftLooksRow.holds Try.pinned (OpenSpec.ofChange kraftLooksWrong)

/-- 'gladstonelaw06.KraftSplits': WHATEVER THE INPUT: true; the input reads as it did. -/
def kraftSplitsSpec : ChangeSpec := { name := "kraftSplits", fn := fun _ => fun
  | [d1, d2, d3] => { results := [.lit (.bool true)], args := [d1, d2, d3] }
  | _ => none }
def kraftSplitsRow : OpenClaim := { program := "ytmpmioffngonjaa", sum := "0b221cd4ae269acbe553910d63726eab1ffdbfbae7b0e7efd54e6deeb96c7173", func := "gladstone/gladstonelaw06.KraftSplits", spec := "kraftSplits", apart := false }
def KraftSplitsSaid : Prop := kraftSplitsRow.holds Try.pinned (OpenSpec.ofChange kraftSplitsSpec)

/-- ITS FALSE NEIGHBOUR: 'it returns false'. Refute it at one input. -/
def kraftSplitsWrong : ChangeSpec := { name := "kraftSplits", fn := fun _ => fun
  | [d1, d2, d3] => { results := [.lit (.bool false)], args := [d1, d2, d3] }
  | _ => none }
def KraftSplitsWrongFalsely : Prop := kraftSplitsRow.holds Try.pinned (OpenSpec.ofChange kraftSplitsWrong)

/-- 'gladstonelaw16.TokenLooks': WHATEVER THE INPUT: true; the input reads as it did. -/
def tokenLooksSpec : ChangeSpec := { name := "tokenLooks", fn := fun _ => fun
  | [d1, d2] => { results := [.lit (.bool true)], args := [d1, d2] }
  | _ => none }
def tokenLooksRow : OpenClaim := { program := "ytmpmioffngonjaa", sum := "0b221cd4ae269acbe553910d63726eab1ffdbfbae7b0e7efd54e6deeb96c7173", func := "gladstone/gladstonelaw16.TokenLooks", spec := "tokenLooks", apart := false }
def TokenLooksSaid : Prop := tokenLooksRow.holds Try.pinned (OpenSpec.ofChange tokenLooksSpec)

/-- ITS FALSE NEIGHBOUR: 'it returns false'. Refute it at one input. -/
def tokenLooksWrong : ChangeSpec := { name := "tokenLooks", fn := fun _ => fun
  | [d1, d2] => { results := [.lit (.bool false)], args := [d1, d2] }
  | _ => none }
def TokenLooksWrongFalsely : Prop := tokenLooksRow.holds Try.pinned (OpenSpec.ofChange tokenLooksWrong)

/-- 'gladstonelaw16.TokenBack': WHATEVER THE INPUT: true; the input reads as it did. -/
def tokenBackSpec : ChangeSpec := { name := "tokenBack", fn := fun _ => fun
  | [d] => { results := [.lit (.bool true)], args := [d] }
  | _ => none }
def tokenBackRow : OpenClaim := { program := "ytmpmioffngonjaa", sum := "0b221cd4ae269acbe553910d63726eab1ffdbfbae7b0e7efd54e6deeb96c7173", func := "gladstone/gladstonelaw16.TokenBack", spec := "tokenBack", apart := false }
def TokenBackSaid : Prop := tokenBackRow.holds Try.pinned (OpenSpec.ofChange tokenBackSpec)

/-- ITS FALSE NEIGHBOUR: 'it returns false'. Refute it at one input. -/
def tokenBackWrong : ChangeSpec := { name := "tokenBack", fn := fun _ => fun
  | [d] => { results := [.lit (.bool false)], args := [d] }
  | _ => none }
def TokenBackWrongFalsely : Prop := tokenBackRow.holds Try.pinned (OpenSpec.ofChange tokenBackWrong)

/-- 'gladstonelaw17.RepsUses': WHATEVER THE INPUT: true; the input reads as it did. -/
def repsUsesSpec : ChangeSpec := { name := "repsUses", fn := fun _ => fun
  | [d1, d2, d3] => { results := [.lit (.bool true)], args := [d1, d2, d3] }
  | _ => none }
def repsUsesRow : OpenClaim := { program := "ytmpmioffngonjaa", sum := "0b221cd4ae269acbe553910d63726eab1ffdbfbae7b0e7efd54e6deeb96c7173", func := "gladstone/gladstonelaw17.RepsUses", spec := "repsUses", apart := false }
def RepsUsesSaid : Prop := repsUsesRow.holds Try.pinned (OpenSpec.ofChange repsUsesSpec)

/-- ITS FALSE NEIGHBOUR: 'it returns false'. Refute it at one input. -/
def repsUsesWrong : ChangeSpec := { name := "repsUses", fn := fun _ => fun
  | [d1, d2, d3] => { results := [.lit (.bool false)], args := [d1, d2, d3] }
  | _ => none }
def RepsUsesWrongFalsely : Prop := repsUsesRow.holds Try.pinned (OpenSpec.ofChange repsUsesWrong)

/-- 'gladstonelaw17.RepsMoves': WHATEVER THE INPUT: true; the input reads as it did. -/
def repsMovesSpec : ChangeSpec := { name := "repsMoves", fn := fun _ => fun
  | [d1, d2, d3] => { results := [.lit (.bool true)], args := [d1, d2, d3] }
  | _ => none }
def repsMovesRow : OpenClaim := { program := "ytmpmioffngonjaa", sum := "0b221cd4ae269acbe553910d63726eab1ffdbfbae7b0e7efd54e6deeb96c7173", func := "gladstone/gladstonelaw17.RepsMoves", spec := "repsMoves", apart := false }
def RepsMovesSaid : Prop := repsMovesRow.holds Try.pinned (OpenSpec.ofChange repsMovesSpec)

/-- ITS FALSE NEIGHBOUR: 'it returns false'. Refute it at one input. -/
def repsMovesWrong : ChangeSpec := { name := "repsMoves", fn := fun _ => fun
  | [d1, d2, d3] => { results := [.lit (.bool false)], args := [d1, d2, d3] }
  | _ => none }
def RepsMovesWrongFalsely : Prop := repsMovesRow.holds Try.pinned (OpenSpec.ofChange repsMovesWrong)

/-- 'gladstonelaw32.LevelLooks': WHATEVER THE INPUT: true; the input reads as it did. -/
def levelLooksSpec : ChangeSpec := { name := "levelLooks", fn := fun _ => fun
  | [d1, d2] => { results := [.lit (.bool true)], args := [d1, d2] }
  | _ => none }
def levelLooksRow : OpenClaim := { program := "ytmpmioffngonjaa", sum := "0b221cd4ae269acbe553910d63726eab1ffdbfbae7b0e7efd54e6deeb96c7173", func := "gladstone/gladstonelaw32.LevelLooks", spec := "levelLooks", apart := false }
def LevelLooksSaid : Prop := levelLooksRow.holds Try.pinned (OpenSpec.ofChange levelLooksSpec)

/-- ITS FALSE NEIGHBOUR: 'it returns false'. Refute it at one input. -/
def levelLooksWrong : ChangeSpec := { name := "levelLooks", fn := fun _ => fun
  | [d1, d2] => { results := [.lit (.bool false)], args := [d1, d2] }
  | _ => none }
def LevelLooksWrongFalsely : Prop := levelLooksRow.holds Try.pinned (OpenSpec.ofChange levelLooksWrong)

/-- 'gladstonelaw32.LevelRises': WHATEVER THE INPUT: true; the input reads as it did. -/
def levelRisesSpec : ChangeSpec := { name := "levelRises", fn := fun _ => fun
  | [d1, d2] => { results := [.lit (.bool true)], args := [d1, d2] }
  | _ => none }
def levelRisesRow : OpenClaim := { program := "ytmpmioffngonjaa", sum := "0b221cd4ae269acbe553910d63726eab1ffdbfbae7b0e7efd54e6deeb96c7173", func := "gladstone/gladstonelaw32.LevelRises", spec := "levelRises", apart := false }
def LevelRisesSaid : Prop := levelRisesRow.holds Try.pinned (OpenSpec.ofChange levelRisesSpec)

/-- ITS FALSE NEIGHBOUR: 'it returns false'. Refute it at one input. -/
def levelRisesWrong : ChangeSpec := { name := "levelRises", fn := fun _ => fun
  | [d1, d2] => { results := [.lit (.bool false)], args := [d1, d2] }
  | _ => none }
def LevelRisesWrongFalsely : Prop := levelRisesRow.holds Try.pinned (OpenSpec.ofChange levelRisesWrong)

/-- 'gladstonelaw47.MtfMoves': WHATEVER THE INPUT: true; the input reads as it did. -/
def mtfMovesSpec : ChangeSpec := { name := "mtfMoves", fn := fun _ => fun
  | [d1, d2] => { results := [.lit (.bool true)], args := [d1, d2] }
  | _ => none }
def mtfMovesRow : OpenClaim := { program := "ytmpmioffngonjaa", sum := "0b221cd4ae269acbe553910d63726eab1ffdbfbae7b0e7efd54e6deeb96c7173", func := "gladstone/gladstonelaw47.MtfMoves", spec := "mtfMoves", inPlace := ["internal/bytealg.IndexByte"], apart := false }
def MtfMovesSaid : Prop := mtfMovesRow.holds Try.pinned (OpenSpec.ofChange mtfMovesSpec)

/-- ITS FALSE NEIGHBOUR: 'it returns false'. Refute it at one input. -/
def mtfMovesWrong : ChangeSpec := { name := "mtfMoves", fn := fun _ => fun
  | [d1, d2] => { results := [.lit (.bool false)], args := [d1, d2] }
  | _ => none }
def MtfMovesWrongFalsely : Prop := mtfMovesRow.holds Try.pinned (OpenSpec.ofChange mtfMovesWrong)

/-- 'gladstonelaw47.MtfBack': WHATEVER THE INPUT: true; the input reads as it did. -/
def mtfBackSpec : ChangeSpec := { name := "mtfBack", fn := fun _ => fun
  | [d1, d2] => { results := [.lit (.bool true)], args := [d1, d2] }
  | _ => none }
def mtfBackRow : OpenClaim := { program := "ytmpmioffngonjaa", sum := "0b221cd4ae269acbe553910d63726eab1ffdbfbae7b0e7efd54e6deeb96c7173", func := "gladstone/gladstonelaw47.MtfBack", spec := "mtfBack", inPlace := ["internal/bytealg.IndexByte"], apart := false }
def MtfBackSaid : Prop := mtfBackRow.holds Try.pinned (OpenSpec.ofChange mtfBackSpec)

/-- ITS FALSE NEIGHBOUR: 'it returns false'. Refute it at one input. -/
def mtfBackWrong : ChangeSpec := { name := "mtfBack", fn := fun _ => fun
  | [d1, d2] => { results := [.lit (.bool false)], args := [d1, d2] }
  | _ => none }
def MtfBackWrongFalsely : Prop := mtfBackRow.holds Try.pinned (OpenSpec.ofChange mtfBackWrong)

/-- 'gladstonelaw51.DeltaApplies': WHATEVER THE INPUT: true; the input reads as it did. -/
def deltaAppliesSpec : ChangeSpec := { name := "deltaApplies", fn := fun _ => fun
  | [d1, d2, d3] => { results := [.lit (.bool true)], args := [d1, d2, d3] }
  | _ => none }
def deltaAppliesRow : OpenClaim := { program := "ytmpmioffngonjaa", sum := "0b221cd4ae269acbe553910d63726eab1ffdbfbae7b0e7efd54e6deeb96c7173", func := "gladstone/gladstonelaw51.DeltaApplies", spec := "deltaApplies", apart := false }
def DeltaAppliesSaid : Prop := deltaAppliesRow.holds Try.pinned (OpenSpec.ofChange deltaAppliesSpec)

/-- ITS FALSE NEIGHBOUR: 'it returns false'. Refute it at one input. -/
def deltaAppliesWrong : ChangeSpec := { name := "deltaApplies", fn := fun _ => fun
  | [d1, d2, d3] => { results := [.lit (.bool false)], args := [d1, d2, d3] }
  | _ => none }
def DeltaAppliesWrongFalsely : Prop := deltaAppliesRow.holds Try.pinned (OpenSpec.ofChange deltaAppliesWrong)

/-- 'gladstonelaw51.DeltaBack': WHATEVER THE INPUT: true; the input reads as it did. -/
def deltaBackSpec : ChangeSpec := { name := "deltaBack", fn := fun _ => fun
  | [d1, d2] => { results := [.lit (.bool true)], args := [d1, d2] }
  | _ => none }
def deltaBackRow : OpenClaim := { program := "ytmpmioffngonjaa", sum := "0b221cd4ae269acbe553910d63726eab1ffdbfbae7b0e7efd54e6deeb96c7173", func := "gladstone/gladstonelaw51.DeltaBack", spec := "deltaBack", apart := false }
def DeltaBackSaid : Prop := deltaBackRow.holds Try.pinned (OpenSpec.ofChange deltaBackSpec)

/-- ITS FALSE NEIGHBOUR: 'it returns false'. Refute it at one input. -/
def deltaBackWrong : ChangeSpec := { name := "deltaBack", fn := fun _ => fun
  | [d1, d2] => { results := [.lit (.bool false)], args := [d1, d2] }
  | _ => none }
def DeltaBackWrongFalsely : Prop := deltaBackRow.holds Try.pinned (OpenSpec.ofChange deltaBackWrong)

/- THE SECOND FORM. 'bulk': how many values and letters a reading holds, each counted each time it is reached (what is shared counts as often as it is met; a slice's spare places count too). A statement '..UptoSaid' is the law's where the arguments, and the package variables that the reading takes, are together of bulk at most 1048576: NARROWER than '..Said'. Prove '..Said' where nothing that the law and all that it calls make is longer than what came in: it says more and counts as full. Else prove '..UptoSaid'. A law counts once. -/
mutual
def uptoBulk {H : Type} : DataW H → Nat
  | .lit (.string bytes) => bytes.length + 1
  | .lit _ => 1
  | .nil => 1
  | .ptr d => uptoBulk d + 1
  | .slice elems spare => uptoBulkAll elems + uptoBulkAll spare + 1
  | .agg parts => uptoBulkAll parts + 1
  | .iface _ d => uptoBulk d + 1
  | .map entries => uptoBulkEntries entries + 1
  | .held _ => 1
def uptoBulkAll {H : Type} : List (DataW H) → Nat
  | [] => 0
  | d :: r => uptoBulk d + uptoBulkAll r
def uptoBulkEntries {H : Type} : List (Lit × DataW H) → Nat
  | [] => 0
  | x :: r => uptoBulkEntry x + uptoBulkEntries r
def uptoBulkEntry {H : Type} : Lit × DataW H → Nat
  | (.string bytes, d) => bytes.length + uptoBulk d + 1
  | (_, d) => uptoBulk d + 1
 end
def uptoSmall : (H : Type) → List (DataW H) → Bool := fun _ ds => decide (uptoBulkAll ds ≤ 1048576)
def OpenSpec.upto (s : _root_.Go.ChangeSpec) : _root_.Go.OpenSpec := { _root_.Go.OpenSpec.ofChange s with cond := some uptoSmall }

/-- 'gladstonelaw06.KraftLooks', WHERE WHAT IT READS IS OF BULK AT MOST 1048576: true; the input reads as it did. -/
def kraftLooksUptoRow : OpenClaim := { program := "ytmpmioffngonjaa", sum := "0b221cd4ae269acbe553910d63726eab1ffdbfbae7b0e7efd54e6deeb96c7173", func := "gladstone/gladstonelaw06.KraftLooks", spec := "kraftLooks", apart := false, narrowed := true }
def KraftLooksUptoSaid : Prop := kraftLooksUptoRow.holds Try.pinned (OpenSpec.upto kraftLooksSpec)

/-- 'gladstonelaw06.KraftSplits', WHERE WHAT IT READS IS OF BULK AT MOST 1048576: true; the input reads as it did. -/
def kraftSplitsUptoRow : OpenClaim := { program := "ytmpmioffngonjaa", sum := "0b221cd4ae269acbe553910d63726eab1ffdbfbae7b0e7efd54e6deeb96c7173", func := "gladstone/gladstonelaw06.KraftSplits", spec := "kraftSplits", apart := false, narrowed := true }
def KraftSplitsUptoSaid : Prop := kraftSplitsUptoRow.holds Try.pinned (OpenSpec.upto kraftSplitsSpec)

/-- 'gladstonelaw16.TokenLooks', WHERE WHAT IT READS IS OF BULK AT MOST 1048576: true; the input reads as it did. -/
def tokenLooksUptoRow : OpenClaim := { program := "ytmpmioffngonjaa", sum := "0b221cd4ae269acbe553910d63726eab1ffdbfbae7b0e7efd54e6deeb96c7173", func := "gladstone/gladstonelaw16.TokenLooks", spec := "tokenLooks", apart := false, narrowed := true }
def TokenLooksUptoSaid : Prop := tokenLooksUptoRow.holds Try.pinned (OpenSpec.upto tokenLooksSpec)

/-- 'gladstonelaw16.TokenBack', WHERE WHAT IT READS IS OF BULK AT MOST 1048576: true; the input reads as it did. -/
def tokenBackUptoRow : OpenClaim := { program := "ytmpmioffngonjaa", sum := "0b221cd4ae269acbe553910d63726eab1ffdbfbae7b0e7efd54e6deeb96c7173", func := "gladstone/gladstonelaw16.TokenBack", spec := "tokenBack", apart := false, narrowed := true }
def TokenBackUptoSaid : Prop := tokenBackUptoRow.holds Try.pinned (OpenSpec.upto tokenBackSpec)

/-- 'gladstonelaw17.RepsUses', WHERE WHAT IT READS IS OF BULK AT MOST 1048576: true; the input reads as it did. -/
def repsUsesUptoRow : OpenClaim := { program := "ytmpmioffngonjaa", sum := "0b221cd4ae269acbe553910d63726eab1ffdbfbae7b0e7efd54e6deeb96c7173", func := "gladstone/gladstonelaw17.RepsUses", spec := "repsUses", apart := false, narrowed := true }
def RepsUsesUptoSaid : Prop := repsUsesUptoRow.holds Try.pinned (OpenSpec.upto repsUsesSpec)

/-- 'gladstonelaw17.RepsMoves', WHERE WHAT IT READS IS OF BULK AT MOST 1048576: true; the input reads as it did. -/
def repsMovesUptoRow : OpenClaim := { program := "ytmpmioffngonjaa", sum := "0b221cd4ae269acbe553910d63726eab1ffdbfbae7b0e7efd54e6deeb96c7173", func := "gladstone/gladstonelaw17.RepsMoves", spec := "repsMoves", apart := false, narrowed := true }
def RepsMovesUptoSaid : Prop := repsMovesUptoRow.holds Try.pinned (OpenSpec.upto repsMovesSpec)

/-- 'gladstonelaw32.LevelLooks', WHERE WHAT IT READS IS OF BULK AT MOST 1048576: true; the input reads as it did. -/
def levelLooksUptoRow : OpenClaim := { program := "ytmpmioffngonjaa", sum := "0b221cd4ae269acbe553910d63726eab1ffdbfbae7b0e7efd54e6deeb96c7173", func := "gladstone/gladstonelaw32.LevelLooks", spec := "levelLooks", apart := false, narrowed := true }
def LevelLooksUptoSaid : Prop := levelLooksUptoRow.holds Try.pinned (OpenSpec.upto levelLooksSpec)

/-- 'gladstonelaw32.LevelRises', WHERE WHAT IT READS IS OF BULK AT MOST 1048576: true; the input reads as it did. -/
def levelRisesUptoRow : OpenClaim := { program := "ytmpmioffngonjaa", sum := "0b221cd4ae269acbe553910d63726eab1ffdbfbae7b0e7efd54e6deeb96c7173", func := "gladstone/gladstonelaw32.LevelRises", spec := "levelRises", apart := false, narrowed := true }
def LevelRisesUptoSaid : Prop := levelRisesUptoRow.holds Try.pinned (OpenSpec.upto levelRisesSpec)

/-- 'gladstonelaw47.MtfMoves', WHERE WHAT IT READS IS OF BULK AT MOST 1048576: true; the input reads as it did. -/
def mtfMovesUptoRow : OpenClaim := { program := "ytmpmioffngonjaa", sum := "0b221cd4ae269acbe553910d63726eab1ffdbfbae7b0e7efd54e6deeb96c7173", func := "gladstone/gladstonelaw47.MtfMoves", spec := "mtfMoves", inPlace := ["internal/bytealg.IndexByte"], apart := false, narrowed := true }
def MtfMovesUptoSaid : Prop := mtfMovesUptoRow.holds Try.pinned (OpenSpec.upto mtfMovesSpec)

/-- 'gladstonelaw47.MtfBack', WHERE WHAT IT READS IS OF BULK AT MOST 1048576: true; the input reads as it did. -/
def mtfBackUptoRow : OpenClaim := { program := "ytmpmioffngonjaa", sum := "0b221cd4ae269acbe553910d63726eab1ffdbfbae7b0e7efd54e6deeb96c7173", func := "gladstone/gladstonelaw47.MtfBack", spec := "mtfBack", inPlace := ["internal/bytealg.IndexByte"], apart := false, narrowed := true }
def MtfBackUptoSaid : Prop := mtfBackUptoRow.holds Try.pinned (OpenSpec.upto mtfBackSpec)

/-- 'gladstonelaw51.DeltaApplies', WHERE WHAT IT READS IS OF BULK AT MOST 1048576: true; the input reads as it did. -/
def deltaAppliesUptoRow : OpenClaim := { program := "ytmpmioffngonjaa", sum := "0b221cd4ae269acbe553910d63726eab1ffdbfbae7b0e7efd54e6deeb96c7173", func := "gladstone/gladstonelaw51.DeltaApplies", spec := "deltaApplies", apart := false, narrowed := true }
def DeltaAppliesUptoSaid : Prop := deltaAppliesUptoRow.holds Try.pinned (OpenSpec.upto deltaAppliesSpec)

/-- 'gladstonelaw51.DeltaBack', WHERE WHAT IT READS IS OF BULK AT MOST 1048576: true; the input reads as it did. -/
def deltaBackUptoRow : OpenClaim := { program := "ytmpmioffngonjaa", sum := "0b221cd4ae269acbe553910d63726eab1ffdbfbae7b0e7efd54e6deeb96c7173", func := "gladstone/gladstonelaw51.DeltaBack", spec := "deltaBack", apart := false, narrowed := true }
def DeltaBackUptoSaid : Prop := deltaBackUptoRow.holds Try.pinned (OpenSpec.upto deltaBackSpec)

end Rows
end Go.Proofs.Ytmpmioffngonjaa
