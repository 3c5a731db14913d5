import Derived.Test.YtipcdkemokkdfaaGreatK23
import Derived.Deep.CutRange
/- Layer 8: the document's codes. -/
namespace Go.Proofs.YtipcdkemokkdfaaGreat
open Go.ChangeShapes Go.WideShapes Go.ChangeAt Go.RowKit
set_option linter.unusedVariables false
set_option maxRecDepth 100000
open KraftMath CanonMath

end Go.Proofs.YtipcdkemokkdfaaGreat

/- Layer 9: the document's Decode. -/
namespace Go.Proofs.YtipcdkemokkdfaaGreat
open Go.ChangeShapes Go.WideShapes Go.ChangeAt Go.RowKit
set_option linter.unusedVariables false
set_option linter.unusedSimpArgs false
set_option maxRecDepth 100000
open KraftMath CanonMath
def hitAt (l : List Int) (row : List Bool) (s : Nat) : Bool := decide (len l s ≠ 0) && begL row (msb (code l s) (len l s))
def shortAt (l : List Int) (row : List Bool) (s : Nat) : Bool := decide (len l s ≠ 0) && begL (msb (code l s) (len l s)) row
def decL (l : List Int) (row : List Bool) : Int × Int × Int :=
  if check l 16 ≠ 0 then (0, 0, check l 16) else
  match (List.range l.length).find? (hitAt l row) with
  | some s => (((s : Nat) : Int), ((len l s : Nat) : Int), 0)
  | none => if (List.range l.length).any (shortAt l row) then (0, 0, 3) else (0, 0, 4)
theorem hitAt_iff {l : List Int} {row : List Bool} {s : Nat} (hs : s < l.length) : hitAt l row s = true ↔ Hit l row s := by
  unfold hitAt Hit
  rw [Bool.and_eq_true, decide_eq_true_iff]
  exact ⟨fun h => ⟨hs, h⟩, fun h => h.2⟩
theorem decL_hit {l : List Int} {row : List Bool} {s : Nat} (h : check l 16 = 0) (hh : Hit l row s) : decL l row = (((s : Nat) : Int), ((len l s : Nat) : Int), 0) := by
  unfold decL
  rw [if_neg (by simp [h])]
  cases hf : (List.range l.length).find? (hitAt l row) with
  | none =>
    rw [List.find?_eq_none] at hf
    exact absurd ((hitAt_iff hh.1).2 hh) (by simpa using hf s (List.mem_range.2 hh.1))
  | some t =>
    have h1 := List.find?_some hf
    have h2 := List.mem_range.1 (List.mem_of_find?_eq_some hf)
    have : t = s := hit_one h ((hitAt_iff h2).1 h1) hh
    rw [this]
theorem decL_none {l : List Int} {row : List Bool} (h : check l 16 = 0) (hh : ∀ s, ¬ Hit l row s) : decL l row = if (List.range l.length).any (shortAt l row) then (0, 0, 3) else (0, 0, 4) := by
  unfold decL
  rw [if_neg (by simp [h])]
  cases hf : (List.range l.length).find? (hitAt l row) with
  | none => rfl
  | some t =>
    have h1 := List.find?_some hf
    have h2 := List.mem_range.1 (List.mem_of_find?_eq_some hf)
    exact absurd ((hitAt_iff h2).1 h1) (hh t)
theorem codes_at {l : List Int} (h : check l 16 = 0) {s : Nat} (hs : s < l.length) : (codesL l).getD s 0 = (code l s : Nat) := by
  unfold codesL
  rw [if_pos h, codeTo_get l _ s hs, if_pos hs]
theorem codes_len {l : List Int} (h : check l 16 = 0) : (codesL l).length = l.length := by
  unfold codesL
  rw [if_pos h, codeTo_len]
theorem lenI {l : List Int} (h : check l 16 = 0) {s : Nat} (hs : s < l.length) : l.getD s 0 = (len l s : Nat) := by
  have := (ok_b h s hs).1
  unfold len; omega
end Go.Proofs.YtipcdkemokkdfaaGreat

/- Layer 9: the greatest of a row. -/
namespace Go.Proofs.YtipcdkemokkdfaaGreat
open Go.ChangeShapes Go.WideShapes Go.ChangeAt Go.RowKit
set_option linter.unusedVariables false
set_option linter.unusedSimpArgs false
set_option maxRecDepth 100000
end Go.Proofs.YtipcdkemokkdfaaGreat

/- Layer 9: read, Decode. -/
namespace Go.Proofs.YtipcdkemokkdfaaGreat
open Go.ChangeShapes Go.WideShapes Go.ChangeAt Go.RowKit
set_option linter.unusedVariables false
set_option linter.unusedSimpArgs false
set_option maxRecDepth 100000
open KraftMath CanonMath
end Go.Proofs.YtipcdkemokkdfaaGreat

/- Layer 9: Encode. -/
namespace Go.Proofs.YtipcdkemokkdfaaGreat
open Go.ChangeShapes Go.WideShapes Go.ChangeAt Go.RowKit
set_option linter.unusedVariables false
set_option linter.unusedSimpArgs false
set_option maxRecDepth 100000
open KraftMath CanonMath
/-- May the number be encoded? -/
def goodS (l : List Int) (x : Int) : Bool := decide (0 ≤ x) && decide (x < l.length) && decide (l.getD x.toNat 0 ≠ 0)
def bitsS (l : List Int) (x : Int) : List Bool := msb (code l x.toNat) (len l x.toNat)
end Go.Proofs.YtipcdkemokkdfaaGreat
