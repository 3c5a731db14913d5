/- Layer 51: the examples. -/
import Derived.Test.YtmpmioffngonjaaDp
namespace Go.Proofs.Ytmpmioffngonjaa
open Go.ChangeShapes Go.WideShapes Go.ChangeAt Go.RowKit
set_option linter.unusedVariables false
set_option maxRecDepth 100000
open DeltaMath
theorem ex1 (w : World) : Calls Try.prog 55 #[.string ⟨#[1, 2, 3, 4]⟩, .int .i64 1] w fun e w' => e = .returned (.tuple #[.string ⟨#[1, 1, 1, 1]⟩, .int .i64 0]) ∧ Below w.heap.size w w' := by
  have h := dApply ⟨#[1, 2, 3, 4]⟩ (by decide) 1 (by decide) (by decide) w
  have e : diffTo (⟨#[1, 2, 3, 4]⟩ : ByteArray).data.toList 1 (⟨#[1, 2, 3, 4]⟩ : ByteArray).size = [1, 1, 1, 1] := by decide
  rw [e] at h; exact h
theorem ex2 (w : World) : Calls Try.prog 57 #[.string ⟨#[1, 1, 1, 1]⟩, .int .i64 1] w fun e w' => e = .returned (.tuple #[.string ⟨#[1, 2, 3, 4]⟩, .int .i64 0]) ∧ Below w.heap.size w w' := by
  have h := dBack ⟨#[1, 1, 1, 1]⟩ (by decide) 1 (by decide) (by decide) w
  have e : sumTo (⟨#[1, 1, 1, 1]⟩ : ByteArray).data.toList 1 (⟨#[1, 1, 1, 1]⟩ : ByteArray).size = [1, 2, 3, 4] := by decide
  rw [e] at h; exact h
theorem ex3 (w : World) : Calls Try.prog 55 #[.string ⟨#[97]⟩, .int .i64 0] w fun e w' => e = .returned (.tuple #[.string ⟨#[]⟩, .int .i64 1]) ∧ w' = w := dApplyOut _ 0 (.inl (by decide)) w
theorem ex4 (w : World) : Calls Try.prog 57 #[.string ⟨#[97]⟩, .int .i64 257] w fun e w' => e = .returned (.tuple #[.string ⟨#[]⟩, .int .i64 1]) ∧ w' = w := dBackOut _ 257 (.inr (by decide)) w
theorem ex5 (w : World) : Calls Try.prog 59 #[.string ⟨#[97, 98, 97, 98, 97, 98, 97, 98]⟩, .int .i64 5] w fun e w' => e = .returned (.int .i64 2) ∧ ∃ n, w' = w.drewN n := by
  have h := dBest ⟨#[97, 98, 97, 98, 97, 98, 97, 98]⟩ (by decide) 5 w (by decide)
  have e : (best (⟨#[97, 98, 97, 98, 97, 98, 97, 98]⟩ : ByteArray).data.toList (upTo 5)).1 = 2 := by decide
  rw [e] at h; exact h
theorem ex6 (w : World) : Calls Try.prog 59 #[.string ⟨#[]⟩, .int .i64 5] w fun e w' => e = .returned (.int .i64 0) ∧ ∃ n, w' = w.drewN n := by
  have h := dBest ⟨#[]⟩ (by decide) 5 w (by decide)
  have e : (best (⟨#[]⟩ : ByteArray).data.toList (upTo 5)).1 = 0 := by decide
  rw [e] at h; exact h
set_option maxHeartbeats 800000 in
theorem awake51 (w : World) : Calls Try.prog 54 #[] w fun e w' => e = .returned (.bool true) ∧ Below w.heap.size w w' := by
  go_enter Try.func54, Try.ntmps54
  go_wp2_with fail
  refine (ex1 _).mono ?_; rintro e w1 ⟨rfl, hb1⟩
  go_wp2_with fail
  refine (ex2 _).mono ?_; rintro e w2 ⟨rfl, hb2⟩
  have hb := hb1.trans (hb2.mono hb1.size)
  clear hb1 hb2
  go_wp2_with fail
  refine (ex3 _).mono ?_; rintro e w3 ⟨rfl, rfl⟩
  go_wp2_with fail
  refine (ex4 _).mono ?_; rintro e w3 ⟨rfl, rfl⟩
  go_wp2_with fail
  refine (ex5 _).mono ?_; rintro e w3 ⟨rfl, q1, rfl⟩
  go_wp2_with fail
  refine (ex6 _).mono ?_; rintro e w3 ⟨rfl, q2, rfl⟩
  go_wp2_with fail
  go_ret
  exact ⟨rfl, below_drewN hb _⟩
end Go.Proofs.Ytmpmioffngonjaa
