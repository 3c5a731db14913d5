/- Layer 15: the contracts of LenOf and DistOf, the program's and the document's; the chapter's examples. -/
import Derived.Test.YtfemcehglolnjaaSn
namespace Go.Proofs.Ytfemcehglolnjaa
open Go.ChangeShapes Go.WideShapes Go.ChangeAt Go.RowKit
set_option linter.unusedVariables false
set_option maxRecDepth 100000

theorem LenOf_out (s m : Int) (h : s < 0 ∨ 28 < s) (w : World) :
    Calls Try.prog 25 #[.int .i64 s, .int .i64 m] w fun e w' => e = .returned (.tuple #[.int .i64 0, .int .i64 2]) ∧ Below w.heap.size w w' := by
  have hb : (s == 28) = false := by rw [beq_eq_false_iff_ne]; omega
  rcases h with h | h
  · go_enter Try.func25, Try.ntmps25
    go_wp2
    go_ret2
    exact ⟨rfl, Below.refl _ _⟩
  · have h' : ¬ s < 0 := by omega
    go_enter Try.func25, Try.ntmps25
    go_wp2
    go_ret2
    exact ⟨rfl, Below.refl _ _⟩

theorem refLenOf_out (s m : Int) (h : s < 0 ∨ 28 < s) (w : World) :
    Calls Try.prog 26 #[.int .i64 s, .int .i64 m] w fun e w' => e = .returned (.tuple #[.int .i64 0, .int .i64 2]) ∧ Below w.heap.size w w' := by
  have hb : (s == 28) = false := by rw [beq_eq_false_iff_ne]; omega
  rcases h with h | h
  · go_enter Try.func26, Try.ntmps26
    go_wp2
    go_ret2
    exact ⟨rfl, Below.refl _ _⟩
  · have h' : ¬ s < 0 := by omega
    go_enter Try.func26, Try.ntmps26
    go_wp2
    go_ret2
    exact ⟨rfl, Below.refl _ _⟩

set_option maxHeartbeats 800000 in
theorem LenOf_in (s : Nat) (m : Int) (hs : s ≤ 28) (w : World) :
    Calls Try.prog 25 #[.int .i64 s, .int .i64 m] w fun e w' =>
      e = .returned (.tuple #[.int .i64 (if 0 ≤ m ∧ m < wideL s then (tbL s : Int) + m else 0), .int .i64 (if 0 ≤ m ∧ m < wideL s then 0 else 2)]) ∧ Below w.heap.size w w' := by
  by_cases h28 : s = 28
  · subst h28
    rw [show wideL 28 = 1 from by decide, show tbL 28 = 258 from by decide]
    by_cases hm : m = 0
    · subst hm
      go_enter Try.func25, Try.ntmps25
      go_wp2
      go_ret2
      exact ⟨rfl, Below.refl _ _⟩
    · have hb : (m == 0) = false := by rw [beq_eq_false_iff_ne]; exact hm
      have hn : ¬ (0 ≤ m ∧ m < ((1 : Nat) : Int)) := by omega
      rw [if_neg hn, if_neg hn]
      clear hn
      go_enter Try.func25, Try.ntmps25
      go_wp2
      go_ret2
      exact ⟨rfl, Below.refl _ _⟩
  · have hb : ((s : Int) == 28) = false := by rw [beq_eq_false_iff_ne]; omega
    have hs2 : s < 28 := by omega
    have C := Lib.hid (numberL_any s m hs2)
    obtain ⟨A, hA⟩ : ∃ A, (if 0 ≤ m ∧ m < wideL s then (tbL s : Int) + m else 0) = A := ⟨_, rfl⟩
    obtain ⟨B, hB⟩ : ∃ B : Int, (if 0 ≤ m ∧ m < wideL s then (0 : Int) else 2) = B := ⟨_, rfl⟩
    rw [hA, hB] at C ⊢
    clear hA hB
    go_enter Try.func25, Try.ntmps25
    go_wp2_with fail
    refine (C.out _).mono ?_; rintro e w1 ⟨rfl, hb1⟩
    go_wp2
    go_ret2
    exact ⟨rfl, hb1⟩

set_option maxHeartbeats 800000 in
theorem refLenOf_in (s : Nat) (m : Int) (hs : s ≤ 28) (w : World) :
    Calls Try.prog 26 #[.int .i64 s, .int .i64 m] w fun e w' =>
      e = .returned (.tuple #[.int .i64 (if 0 ≤ m ∧ m < wideL s then (tbL s : Int) + m else 0), .int .i64 (if 0 ≤ m ∧ m < wideL s then 0 else 2)]) ∧ Below w.heap.size w w' := by
  have C1 := Lib.hid (exL_any s (by omega))
  have C2 := Lib.hid (baseL_any s (by omega))
  obtain ⟨ht, hx30⟩ := tbL_bd s (by omega)
  have hw := wideL_bd ⟨s, by omega⟩
  simp only at hw
  have hpw : (2 : Int) ^ exL s = ((wideL s : Nat) : Int) := by rw [← pow_cast]; rfl
  obtain ⟨x, hx⟩ : ∃ x, exL s = x := ⟨_, rfl⟩
  obtain ⟨T, hT⟩ : ∃ T, tbL s = T := ⟨_, rfl⟩
  obtain ⟨W, hW⟩ : ∃ W, wideL s = W := ⟨_, rfl⟩
  rw [hx] at C1; rw [hT] at C2; rw [hx, hW] at hpw; rw [hx] at hx30; rw [hT] at ht ⊢; rw [hW] at hw ⊢
  have hx0 : (1 : Int) ≤ 2 ^ x := by rw [hpw]; omega
  have hx1 : (2 : Int) ^ x ≤ 1073741824 := by rw [hpw]; omega
  have HP := Lib.hid hpw
  clear hw hT hx hW
  by_cases h : 0 ≤ m ∧ m < W
  · rw [if_pos h, if_pos h]
    obtain ⟨h0, h1⟩ := h
    have h2 : m < 2 ^ x := by rw [HP.out]; exact h1
    have h3 : ¬ m < 0 := by omega
    have h4 : m ≤ 2000000000 := by omega
    clear h1 hpw
    go_enter Try.func26, Try.ntmps26
    go_wp2_with fail
    refine (C1.out _).mono ?_; rintro e w' ⟨rfl, rfl⟩
    go_wp2_with fail
    refine (C2.out _).mono ?_; rintro e w' ⟨rfl, rfl⟩
    go_wp2
    go_ret2
    exact ⟨rfl, Below.refl _ _⟩
  · rw [if_neg h, if_neg h]
    by_cases h0 : m < 0
    · clear h hpw
      go_enter Try.func26, Try.ntmps26
      go_wp2
      go_ret2
      exact ⟨rfl, Below.refl _ _⟩
    · have h2 : (2 : Int) ^ x ≤ m := by rw [HP.out]; omega
      clear h hpw
      go_enter Try.func26, Try.ntmps26
      go_wp2_with fail
      refine (C1.out _).mono ?_; rintro e w' ⟨rfl, rfl⟩
      go_wp2
      go_ret2
      exact ⟨rfl, Below.refl _ _⟩

theorem DistOf_out (s m : Int) (h : s < 0 ∨ 51 < s) (w : World) :
    Calls Try.prog 27 #[.int .i64 s, .int .i64 m] w fun e w' => e = .returned (.tuple #[.int .i64 0, .int .i64 2]) ∧ Below w.heap.size w w' := by
  have hb : (s == 51) = false := by rw [beq_eq_false_iff_ne]; omega
  rcases h with h | h
  · go_enter Try.func27, Try.ntmps27
    go_wp2
    go_ret2
    exact ⟨rfl, Below.refl _ _⟩
  · have h' : ¬ s < 0 := by omega
    go_enter Try.func27, Try.ntmps27
    go_wp2
    go_ret2
    exact ⟨rfl, Below.refl _ _⟩

theorem refDistOf_out (s m : Int) (h : s < 0 ∨ 51 < s) (w : World) :
    Calls Try.prog 28 #[.int .i64 s, .int .i64 m] w fun e w' => e = .returned (.tuple #[.int .i64 0, .int .i64 2]) ∧ Below w.heap.size w w' := by
  have hb : (s == 51) = false := by rw [beq_eq_false_iff_ne]; omega
  rcases h with h | h
  · go_enter Try.func28, Try.ntmps28
    go_wp2
    go_ret2
    exact ⟨rfl, Below.refl _ _⟩
  · have h' : ¬ s < 0 := by omega
    go_enter Try.func28, Try.ntmps28
    go_wp2
    go_ret2
    exact ⟨rfl, Below.refl _ _⟩

set_option maxHeartbeats 800000 in
theorem DistOf_in (s : Nat) (m : Int) (hs : s ≤ 51) (w : World) :
    Calls Try.prog 27 #[.int .i64 s, .int .i64 m] w fun e w' =>
      e = .returned (.tuple #[.int .i64 (if 0 ≤ m ∧ m < wideD s then (tbD s : Int) + m else 0), .int .i64 (if 0 ≤ m ∧ m < wideD s then 0 else 2)]) ∧ Below w.heap.size w w' := by
  have hs2 : s < 52 := by omega
  have C := Lib.hid (numberD_any s m hs2)
  obtain ⟨A, hA⟩ : ∃ A, (if 0 ≤ m ∧ m < wideD s then (tbD s : Int) + m else 0) = A := ⟨_, rfl⟩
  obtain ⟨B, hB⟩ : ∃ B : Int, (if 0 ≤ m ∧ m < wideD s then (0 : Int) else 2) = B := ⟨_, rfl⟩
  rw [hA, hB] at C ⊢
  clear hA hB
  go_enter Try.func27, Try.ntmps27
  go_wp2_with fail
  refine (C.out _).mono ?_; rintro e w1 ⟨rfl, hb1⟩
  go_wp2
  go_ret2
  exact ⟨rfl, hb1⟩

set_option maxHeartbeats 800000 in
theorem refDistOf_in (s : Nat) (m : Int) (hs : s ≤ 51) (w : World) :
    Calls Try.prog 28 #[.int .i64 s, .int .i64 m] w fun e w' =>
      e = .returned (.tuple #[.int .i64 (if 0 ≤ m ∧ m < wideD s then (tbD s : Int) + m else 0), .int .i64 (if 0 ≤ m ∧ m < wideD s then 0 else 2)]) ∧ Below w.heap.size w w' := by
  have C1 := Lib.hid (exD_any s (by omega))
  have C2 := Lib.hid (baseD_any s (by omega))
  obtain ⟨ht, hx30⟩ := tbD_bd s (by omega)
  have hw := wideD_bd ⟨s, by omega⟩
  simp only at hw
  have hpw : (2 : Int) ^ exD s = ((wideD s : Nat) : Int) := by rw [← pow_cast]; rfl
  obtain ⟨x, hx⟩ : ∃ x, exD s = x := ⟨_, rfl⟩
  obtain ⟨T, hT⟩ : ∃ T, tbD s = T := ⟨_, rfl⟩
  obtain ⟨W, hW⟩ : ∃ W, wideD s = W := ⟨_, rfl⟩
  rw [hx] at C1; rw [hT] at C2; rw [hx, hW] at hpw; rw [hx] at hx30; rw [hT] at ht ⊢; rw [hW] at hw ⊢
  have hx0 : (1 : Int) ≤ 2 ^ x := by rw [hpw]; omega
  have hx1 : (2 : Int) ^ x ≤ 1073741824 := by rw [hpw]; omega
  have HP := Lib.hid hpw
  clear hw hT hx hW
  by_cases h : 0 ≤ m ∧ m < W
  · rw [if_pos h, if_pos h]
    obtain ⟨h0, h1⟩ := h
    have h2 : m < 2 ^ x := by rw [HP.out]; exact h1
    have h3 : ¬ m < 0 := by omega
    have h4 : m ≤ 2000000000 := by omega
    clear h1 hpw
    go_enter Try.func28, Try.ntmps28
    go_wp2_with fail
    refine (C1.out _).mono ?_; rintro e w' ⟨rfl, rfl⟩
    go_wp2_with fail
    refine (C2.out _).mono ?_; rintro e w' ⟨rfl, rfl⟩
    go_wp2
    go_ret2
    exact ⟨rfl, Below.refl _ _⟩
  · rw [if_neg h, if_neg h]
    by_cases h0 : m < 0
    · clear h hpw
      go_enter Try.func28, Try.ntmps28
      go_wp2
      go_ret2
      exact ⟨rfl, Below.refl _ _⟩
    · have h2 : (2 : Int) ^ x ≤ m := by rw [HP.out]; omega
      clear h hpw
      go_enter Try.func28, Try.ntmps28
      go_wp2_with fail
      refine (C1.out _).mono ?_; rintro e w' ⟨rfl, rfl⟩
      go_wp2
      go_ret2
      exact ⟨rfl, Below.refl _ _⟩

theorem Len_at (n s x m : Nat) (h2 : 2 ≤ n) (h : n ≤ 258) (e1 : slotL n = s) (e2 : exL s = x) (e3 : n - tbL s = m) (w : World) :
    Calls Try.prog 20 #[.int .i64 n] w fun e w' => e = .returned (.tuple #[.int .i64 s, .int .i64 x, .int .i64 m, .int .i64 0]) ∧ Below w.heap.size w w' := by
  subst e1 e2 e3; exact Len_in n h2 h w
theorem Dist_at (n s x m : Nat) (h2 : 1 ≤ n) (h : n ≤ 67108864) (e1 : slotD n = s) (e2 : exD s = x) (e3 : n - tbD s = m) (w : World) :
    Calls Try.prog 22 #[.int .i64 n] w fun e w' => e = .returned (.tuple #[.int .i64 s, .int .i64 x, .int .i64 m, .int .i64 0]) ∧ Below w.heap.size w w' := by
  subst e1 e2 e3; exact Dist_in n h2 h w
theorem LenOf_at (s : Nat) (m v e : Int) (hs : s ≤ 28) (h1 : (if 0 ≤ m ∧ m < wideL s then (tbL s : Int) + m else 0) = v) (h2 : (if 0 ≤ m ∧ m < wideL s then (0 : Int) else 2) = e) (w : World) :
    Calls Try.prog 25 #[.int .i64 s, .int .i64 m] w fun en w' => en = .returned (.tuple #[.int .i64 v, .int .i64 e]) ∧ Below w.heap.size w w' := by
  subst h1 h2; exact LenOf_in s m hs w
theorem DistOf_at (s : Nat) (m v e : Int) (hs : s ≤ 51) (h1 : (if 0 ≤ m ∧ m < wideD s then (tbD s : Int) + m else 0) = v) (h2 : (if 0 ≤ m ∧ m < wideD s then (0 : Int) else 2) = e) (w : World) :
    Calls Try.prog 27 #[.int .i64 s, .int .i64 m] w fun en w' => en = .returned (.tuple #[.int .i64 v, .int .i64 e]) ∧ Below w.heap.size w w' := by
  subst h1 h2; exact DistOf_in s m hs w

set_option maxHeartbeats 1600000 in
theorem awake15 (w : World) : Calls Try.prog 24 #[] w fun e w' => e = .returned (.bool true) ∧ Below w.heap.size w w' := by
  go_enter Try.func24, Try.ntmps24
  go_wp2_with fail
  refine (Len_at 11 8 1 1 (by decide) (by decide) (by decide) (by decide) (by decide) _).mono ?_; rintro e w1 ⟨rfl, hb1⟩
  go_wp2_with fail
  refine (Dist_at 10 6 2 1 (by decide) (by decide) (by decide) (by decide) (by decide) _).mono ?_; rintro e w2 ⟨rfl, hb2⟩
  have hc2 := hb1.trans (hb2.mono hb1.size); clear hb1 hb2
  go_wp2_with fail
  refine (LenOf_at 27 31 257 0 (by decide) (by decide) (by decide) _).mono ?_; rintro e w3 ⟨rfl, hb3⟩
  have hc3 := hc2.trans (hb3.mono hc2.size); clear hc2 hb3
  go_wp2_with fail
  refine (DistOf_at 51 16777215 67108864 0 (by decide) (by decide) (by decide) _).mono ?_; rintro e w4 ⟨rfl, hb4⟩
  have hc4 := hc3.trans (hb4.mono hc3.size); clear hc3 hb4
  go_wp2_with fail
  refine (LenOf_at 28 1 0 2 (by decide) (by decide) (by decide) _).mono ?_; rintro e w5 ⟨rfl, hb5⟩
  have hc5 := hc4.trans (hb5.mono hc4.size); clear hc4 hb5
  go_wp2_with fail
  refine (Len_out 1 (by decide) _).mono ?_; rintro e w6 ⟨rfl, hb6⟩
  have hc6 := hc5.trans (hb6.mono hc5.size); clear hc5 hb6
  go_wp2_with fail
  go_ret
  exact ⟨rfl, hc6⟩
end Go.Proofs.Ytfemcehglolnjaa
