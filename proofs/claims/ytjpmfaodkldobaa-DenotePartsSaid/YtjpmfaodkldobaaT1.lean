/- Contracts of layer 16's Check, Size, Of, the program's and the document's. -/
import Derived.Test.YtjpmfaodkldobaaBase
import Derived.Deep.Light
namespace Go.Proofs.Ytjpmfaodkldobaa
open Go.ChangeShapes Go.WideShapes Go.ChangeAt Go.RowKit
set_option linter.unusedVariables false
set_option maxRecDepth 100000

/-- A token that may be. -/
def OkTok (k b l d r : Int) : Prop :=
  (k = 0 ∧ 0 ≤ b ∧ b ≤ 255 ∧ l = 0 ∧ d = 0 ∧ r = 0) ∨ (k = 1 ∧ 2 ≤ l ∧ l ≤ 258 ∧ 1 ≤ d ∧ d ≤ 67108864 ∧ b = 0 ∧ r = 0) ∨ (k = 2 ∧ 2 ≤ l ∧ l ≤ 258 ∧ 0 ≤ r ∧ r ≤ 3 ∧ b = 0 ∧ d = 0)
instance (k b l d r : Int) : Decidable (OkTok k b l d r) := by unfold OkTok; infer_instance
def chk (k b l d r : Int) : Int := if OkTok k b l d r then 0 else 10

theorem chk_no {k b l d r : Int} (h : ¬ OkTok k b l d r) : (10 : Int) = chk k b l d r := (if_neg h).symm
theorem chk_yes {k b l d r : Int} (h : OkTok k b l d r) : (0 : Int) = chk k b l d r := (if_pos h).symm
theorem length_any (n : Int) (w : World) : Calls Try.prog 111 #[.int .i64 n] w fun e w' => e = .returned (.bool (decide (2 ≤ n) && decide (n ≤ 258))) ∧ w = w' := by
  by_cases h : 2 ≤ n ∧ n ≤ 258
  · obtain ⟨h1, h2⟩ := h
    have e : (decide (2 ≤ n) && decide (n ≤ 258)) = true := by simp [h1, h2]
    rw [e]; clear e
    go_enter Try.func111, Try.ntmps111
    go_wp2
    go_ret
    exact ⟨rfl, rfl⟩
  · have e : (decide (2 ≤ n) && decide (n ≤ 258)) = false := by rw [Bool.and_eq_false_iff, decide_eq_false_iff_not, decide_eq_false_iff_not]; omega
    rw [e]; clear e
    by_cases h1 : 2 ≤ n
    · have h2 : ¬ n ≤ 258 := by omega
      go_enter Try.func111, Try.ntmps111
      go_wp2
      go_ret
      exact ⟨rfl, rfl⟩
    · go_enter Try.func111, Try.ntmps111
      go_wp2
      go_ret
      exact ⟨rfl, rfl⟩

set_option maxHeartbeats 1600000 in
theorem check_any (k b l d r : Int) (w : World) :
    Calls Try.prog 96 #[.agg #[.int .i64 k, .int .i64 b, .int .i64 l, .int .i64 d, .int .i64 r]] w fun e w' => e = .returned (.int .i64 (chk k b l d r)) ∧ Below w.heap.size w w' := by
  by_cases k0 : k = 0
  · subst k0
    go_enter Try.func96, Try.ntmps96
    go_wp2
    all_goals (go_ret; refine ⟨ret_i ?_, (Below.refl _ _).alloc (Nat.le_refl _) _⟩; go_light; first | exact chk_no (by unfold OkTok; (try simp at *); omega) | exact chk_yes (by unfold OkTok; (try simp at *); omega))
  · skip
    by_cases k1 : k = 1
    · subst k1
      have C := Lib.hid (length_any l)
      by_cases hl : 2 ≤ l ∧ l ≤ 258
      · have e : (decide (2 ≤ l) && decide (l ≤ 258)) = true := by simp [hl.1, hl.2]
        rw [e] at C; clear e
        go_enter Try.func96, Try.ntmps96
        go_wp2_with fail
        refine (C.out _).mono ?_; rintro e w' ⟨rfl, rfl⟩
        go_wp2
        all_goals (go_ret; refine ⟨ret_i ?_, (Below.refl _ _).alloc (Nat.le_refl _) _⟩; go_light; first | exact chk_no (by unfold OkTok; (try simp at *); omega) | exact chk_yes (by unfold OkTok; (try simp at *); omega))
      · have e : (decide (2 ≤ l) && decide (l ≤ 258)) = false := by rw [Bool.and_eq_false_iff, decide_eq_false_iff_not, decide_eq_false_iff_not]; omega
        rw [e] at C; clear e
        go_enter Try.func96, Try.ntmps96
        go_wp2_with fail
        refine (C.out _).mono ?_; rintro e w' ⟨rfl, rfl⟩
        go_wp2
        all_goals (go_ret; refine ⟨ret_i ?_, (Below.refl _ _).alloc (Nat.le_refl _) _⟩; go_light; first | exact chk_no (by unfold OkTok; (try simp at *); omega) | exact chk_yes (by unfold OkTok; (try simp at *); omega))
    · skip
      by_cases k2 : k = 2
      · subst k2
        have C := Lib.hid (length_any l)
        by_cases hl : 2 ≤ l ∧ l ≤ 258
        · have e : (decide (2 ≤ l) && decide (l ≤ 258)) = true := by simp [hl.1, hl.2]
          rw [e] at C; clear e
          go_enter Try.func96, Try.ntmps96
          go_wp2_with fail
          refine (C.out _).mono ?_; rintro e w' ⟨rfl, rfl⟩
          go_wp2
          all_goals (go_ret; refine ⟨ret_i ?_, (Below.refl _ _).alloc (Nat.le_refl _) _⟩; go_light; first | exact chk_no (by unfold OkTok; (try simp at *); omega) | exact chk_yes (by unfold OkTok; (try simp at *); omega))
        · have e : (decide (2 ≤ l) && decide (l ≤ 258)) = false := by rw [Bool.and_eq_false_iff, decide_eq_false_iff_not, decide_eq_false_iff_not]; omega
          rw [e] at C; clear e
          go_enter Try.func96, Try.ntmps96
          go_wp2_with fail
          refine (C.out _).mono ?_; rintro e w' ⟨rfl, rfl⟩
          go_wp2
          all_goals (go_ret; refine ⟨ret_i ?_, (Below.refl _ _).alloc (Nat.le_refl _) _⟩; go_light; first | exact chk_no (by unfold OkTok; (try simp at *); omega) | exact chk_yes (by unfold OkTok; (try simp at *); omega))
      · skip
        have q0 : (k == 0) = false := by rw [beq_eq_false_iff_ne]; exact k0
        have q1 : (k == 1) = false := by rw [beq_eq_false_iff_ne]; exact k1
        have q2 : (k == 2) = false := by rw [beq_eq_false_iff_ne]; exact k2
        have e : chk k b l d r = 10 := (chk_no (by unfold OkTok; omega)).symm
        rw [e]; clear e
        go_enter Try.func96, Try.ntmps96
        go_wp2
        all_goals (go_ret; exact ⟨rfl, (Below.refl _ _).alloc (Nat.le_refl _) _⟩)

set_option maxHeartbeats 1600000 in
theorem refCheck_any (k b l d r : Int) (w : World) :
    Calls Try.prog 66 #[.agg #[.int .i64 k, .int .i64 b, .int .i64 l, .int .i64 d, .int .i64 r]] w fun e w' => e = .returned (.int .i64 (chk k b l d r)) ∧ Below w.heap.size w w' := by
  by_cases k0 : k = 0
  · subst k0
    go_enter Try.func66, Try.ntmps66
    go_wp2
    all_goals (go_ret; refine ⟨ret_i ?_, (Below.refl _ _).alloc (Nat.le_refl _) _⟩; go_light; first | exact chk_no (by unfold OkTok; (try simp at *); omega) | exact chk_yes (by unfold OkTok; (try simp at *); omega))
  · skip
    by_cases k1 : k = 1
    · subst k1
      go_enter Try.func66, Try.ntmps66
      go_wp2
      all_goals (go_ret; refine ⟨ret_i ?_, (Below.refl _ _).alloc (Nat.le_refl _) _⟩; go_light; first | exact chk_no (by unfold OkTok; (try simp at *); omega) | exact chk_yes (by unfold OkTok; (try simp at *); omega))
    · skip
      by_cases k2 : k = 2
      · subst k2
        go_enter Try.func66, Try.ntmps66
        go_wp2
        all_goals (go_ret; refine ⟨ret_i ?_, (Below.refl _ _).alloc (Nat.le_refl _) _⟩; go_light; first | exact chk_no (by unfold OkTok; (try simp at *); omega) | exact chk_yes (by unfold OkTok; (try simp at *); omega))
      · skip
        have q0 : (k == 0) = false := by rw [beq_eq_false_iff_ne]; exact k0
        have q1 : (k == 1) = false := by rw [beq_eq_false_iff_ne]; exact k1
        have q2 : (k == 2) = false := by rw [beq_eq_false_iff_ne]; exact k2
        have e : chk k b l d r = 10 := (chk_no (by unfold OkTok; omega)).symm
        rw [e]; clear e
        go_enter Try.func66, Try.ntmps66
        go_wp2
        all_goals (go_ret; exact ⟨rfl, (Below.refl _ _).alloc (Nat.le_refl _) _⟩)
end Go.Proofs.Ytjpmfaodkldobaa
