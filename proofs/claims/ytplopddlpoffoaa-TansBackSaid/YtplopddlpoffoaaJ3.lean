/- Rows of places of two cells. -/
import Derived.Test.YtplopddlpoffoaaK2
namespace Go.Proofs.Ytplopddlpoffoaa
open Go.ChangeShapes Go.WideShapes Go.ChangeAt Go.RowKit
set_option linter.unusedVariables false
set_option maxRecDepth 100000
theorem flat_set2 {α : Type} {f : α → List Value} (hf : Flat f 2) (x : α) (a b : Value) (hx : f x = [a, b]) : ∀ (l : List α) (i : Nat), i < l.length → (l.set i x).flatMap f = ((l.flatMap f).set (i * 2) a).set (i * 2 + 1) b
  | [], _, h => by simp at h
  | y :: l, 0, _ => by
    obtain ⟨y1, y2, hy⟩ : ∃ y1 y2, f y = [y1, y2] := by
      have := (hf y).1
      match hq : f y, this with
      | [y1, y2], _ => exact ⟨y1, y2, rfl⟩
    simp [List.flatMap_cons, hx, hy]
  | y :: l, i + 1, h => by
    obtain ⟨y1, y2, hy⟩ : ∃ y1 y2, f y = [y1, y2] := by
      have := (hf y).1
      match hq : f y, this with
      | [y1, y2], _ => exact ⟨y1, y2, rfl⟩
    have ih := flat_set2 hf x a b hx l i (by simpa using h)
    rw [List.set_cons_succ, List.flatMap_cons, List.flatMap_cons, ih, hy]
    rw [show (i + 1) * 2 = i * 2 + 1 + 1 by omega]
    simp
theorem OwnS.set2 {α : Type} {f : α → List Value} {E B g n cap : Nat} {w : World} {l : List α} (hf : Flat f 2) (h : OwnS f E 2 B w (.slice (some ⟨g, 0, none⟩) n cap) l) (i : Nat) (x : α) (a b : Value) (hx : f x = [a, b]) (hi : i < l.length) :
    OwnS f E 2 B ((w.setCell ⟨g, i * 2, none⟩ a).setCell ⟨g, i * 2 + 1, none⟩ b) (.slice (some ⟨g, 0, none⟩) n cap) (l.set i x) := by
  have hn : n = l.length := by
    rcases h.2 with ⟨h0, -⟩ | ⟨g', cap', cur', h0, -⟩ <;> simp at h0; omega
  subst hn
  have h1 := (World.ownsRow.stored h (i * 2) a).1
  have h2 := (World.ownsRow.stored h1 (i * 2 + 1) b).1
  unfold OwnS
  rw [List.length_set, flat_set2 hf x a b hx l i hi]
  exact h2
end Go.Proofs.Ytplopddlpoffoaa
