/- Layer 59: total, check. -/
import Derived.Test.YtplopddlpoffoaaAM1
namespace Go.Proofs.Ytplopddlpoffoaa
open Go.ChangeShapes Go.WideShapes Go.ChangeAt Go.RowKit
set_option linter.unusedVariables false
set_option linter.unusedSimpArgs false
set_option maxRecDepth 100000
theorem cMay (n : Int) (w : World) : Calls Try.prog 28 #[.int .i64 n] w fun e w' => e = .returned (.bool (decide (5 ≤ n) && decide (n ≤ 12))) ∧ w' = w := by
  by_cases h1 : 5 ≤ n
  · have d1 : decide (5 ≤ n) = true := by simpa using h1
    go_enter Try.func28, Try.ntmps28
    go_wp2_with fail
    go_ret
    exact ⟨by simp [h1], rfl⟩
  · have d1 : decide (5 ≤ n) = false := by simpa using h1
    go_enter Try.func28, Try.ntmps28
    go_wp2_with fail
    go_ret
    exact ⟨by simp [h1], rfl⟩
theorem totL_bd : ∀ (l : List Int) (a u A U : Int), 0 ≤ a → 0 ≤ u → (a = 0 ↔ u = 0) → totL l a u = some (A, U) → 0 ≤ A ∧ 0 ≤ U ∧ (A = 0 ↔ U = 0) ∧ U ≤ u + l.length ∧ a ≤ A ∧ (a ≤ 4294967295 → A ≤ 4294967295)
  | [], a, u, A, U, h1, h2, h3, h => by
    simp only [totL] at h
    injection h with h; injection h with e1 e2; subst e1 e2
    exact ⟨h1, h2, h3, by simp, Int.le_refl _, fun h => h⟩
  | f :: l, a, u, A, U, h1, h2, h3, h => by
    simp only [totL] at h
    split at h
    · cases h
    · rename_i hf
      have ih := totL_bd l (a + f) (if 0 < f then u + 1 else u) A U (by omega) (by split <;> omega) (by split <;> omega) h
      simp only [List.length_cons]
      refine ⟨ih.1, ih.2.1, ih.2.2.1, ?_, by omega, fun h => ih.2.2.2.2.2 (by omega)⟩
      have := ih.2.2.2.1
      split at this <;> omega
theorem totL_step (l : List Int) (k : Nat) (hk : k < l.length) (a u : Int) : totL (l.drop k) a u = if l.getD k 0 < 0 ∨ 4294967295 - a < l.getD k 0 then none else totL (l.drop (k + 1)) (a + l.getD k 0) (if 0 < l.getD k 0 then u + 1 else u) := by
  have e : l.getD k 0 = l[k] := by simp [List.getD_eq_getElem?_getD, hk]
  rw [List.drop_eq_getElem_cons hk, e]
  rfl
set_option maxHeartbeats 3200000 in
theorem cTotal (a : Option Addr) (c : Nat) (l : List Int) (n : Int) (w : World) (h : IsInts w a l) (hl : l.length ≤ 70368744177664) : Calls Try.prog 23 #[.slice a l.length c, .int .i64 n] w fun e w' => e = .returned (.tuple #[.int .i64 (totV l n).1, .int .i64 (totV l n).2]) ∧ w' = w := by
  have CM := Lib.hid (fun W => cMay n W)
  unfold totV
  by_cases h1 : n < 5 ∨ 12 < n
  · rw [if_pos h1]
    by_cases h2 : n < 5
    · have d1 : decide (5 ≤ n) = false := by simp; omega
      have d2 : decide (n < 5) = true := by simpa using h2
      go_enter Try.func23, Try.ntmps23
      go_wp2_with (refine (CM.out _).mono ?_; rintro e w1 ⟨rfl, rfl⟩)
      go_ret2
      exact ⟨rfl, rfl⟩
    · have d1 : decide (n ≤ 12) = false := by simp; omega
      have d2 : decide (12 < n) = true := by simp; omega
      have d3 : decide (n < 5) = false := by simp; omega
      have d4 : decide (5 ≤ n) = true := by simp; omega
      go_enter Try.func23, Try.ntmps23
      go_wp2_with (refine (CM.out _).mono ?_; rintro e w1 ⟨rfl, rfl⟩)
      go_ret2
      exact ⟨rfl, rfl⟩
  rw [if_neg h1]
  have d1 : decide (5 ≤ n) = true := by simp; omega
  have d2 : decide (n ≤ 12) = true := by simp; omega
  have d3 : decide (n < 5) = false := by simp; omega
  have d4 : decide (12 < n) = false := by simp; omega
  by_cases h3 : 256 < l.length
  · rw [if_pos h3]
    have h4 : decide ((256 : Int) < (l.length : Int)) = true := by simp; omega
    go_enter Try.func23, Try.ntmps23
    go_wp2_with (refine (CM.out _).mono ?_; rintro e w1 ⟨rfl, rfl⟩)
    go_ret2
    exact ⟨rfl, rfl⟩
  rw [if_neg h3]
  have h4 : decide ((256 : Int) < (l.length : Int)) = false := by simp; omega
  obtain ⟨m, rfl⟩ : ∃ m : Nat, n = m := ⟨n.toNat, by omega⟩
  have hm : m ≤ 12 := by omega
  rw [Int.toNat_natCast]
  obtain ⟨q, hq⟩ : ∃ q : Nat, 2 ^ m = q := ⟨_, rfl⟩
  have hq1 : q ≤ 4096 := by rw [← hq]; exact Nat.pow_le_pow_right (by decide) hm
  have hW : IntKind.i64.wrap ((2 : Int) ^ m) = (q : Int) := by
    have e1 : (2 : Int) ^ m = ((2 ^ m : Nat) : Int) := by simp
    rw [e1, hq, IntKind.wrap_i64]; omega
  have hQ : ((2 : Int) ^ m) = (q : Int) := by rw [← hq]; simp
  rw [hQ]
  obtain ⟨⟨R1, R2⟩, hR⟩ : ∃ R, totE (q : Int) (totL l 0 0) = R := ⟨_, rfl⟩
  rw [hR]
  have HR := Lib.hid hR
  clear hR
  simp only
  have hmin : min m 64 = m := by omega
  have hU : IntKind.u64.wrap (m : Int) = (m : Int) := IntWalk.u64_in _ (by omega)
  have hm0 : (0 : Int) ≤ (m : Int) := by omega
  have HI := Lib.hid h
  have HS := Lib.hid (fun k hk A U => totL_step l k hk A U)
  clear h d3 d4 h1
  go_enter Try.func23, Try.ntmps23
  go_wp2_with fail
  refine (CM.out _).mono ?_; rintro e w1 ⟨rfl, rfl⟩
  go_wp2_with fail
  clear d1 d2
  go_loopw [6, 7, 18] (fun av uv iv wr => ∃ (k : Nat) (A U : Int), k ≤ l.length ∧ iv = .int .i64 k ∧ av = .int .i64 A ∧ uv = .int .i64 U ∧ 0 ≤ A ∧ A ≤ 4294967295 ∧ 0 ≤ U ∧ U ≤ k ∧ (A = 0 ↔ U = 0) ∧ Hid (totL l 0 0 = totL (l.drop k) A U) ∧ wr = w1) (fun _ _ iv _ => l.length - (intOf iv).toNat)
  case atStart => exact ⟨0, 0, 0, Nat.zero_le _, rfl, rfl, rfl, by omega, by omega, by omega, by omega, by omega, Lib.hid (by simp), rfl⟩
  case round =>
    obtain ⟨k, A, U, hk, rfl, rfl, rfl, hA0, hA1, hU0, hU1, hAU, ht, rfl⟩ := hrel
    by_cases hlt : k < l.length
    · obtain ⟨x, rfl, -, cx0⟩ := HI.out.at k hlt
      have cx := cx0 k hlt
      have HT2 := Lib.hid (ht.out.trans (HS.out k hlt A U))
      obtain ⟨V, hV⟩ : ∃ V, l.getD k 0 = V := ⟨_, rfl⟩
      rw [hV] at cx HT2
      have hkl : (k : Int) < (l.length : Int) := by omega
      have hw1 : IntKind.i64.wrap (4294967295 - A) = 4294967295 - A := by rw [IntKind.wrap_i64]; omega
      clear hV cx0
      by_cases hb : V < 0 ∨ 4294967295 - A < V
      · rw [if_pos hb] at HT2
        have hr := HR.out
        rw [HT2.out] at hr
        injection hr with e1 e2
        subst e1 e2
        by_cases hb1 : V < 0
        · have hd : decide (V < 0) = true := by simpa using hb1
          clear hb
          (go_wp2_with fail; go_ret2; exact ⟨rfl, rfl⟩)
        · have hd : decide (V < 0) = false := by simpa using hb1
          have hd2 : decide (4294967295 - A < V) = true := by simp; omega
          clear hb
          (go_wp2_with fail; go_ret2; exact ⟨rfl, rfl⟩)
      · rw [if_neg hb] at HT2
        have hd : decide (V < 0) = false := by simp; omega
        have hd2 : decide (4294967295 - A < V) = false := by simp; omega
        have hw2 : IntKind.i64.wrap (A + V) = A + V := by rw [IntKind.wrap_i64]; omega
        have hw3 : IntKind.i64.wrap (U + 1) = U + 1 := by rw [IntKind.wrap_i64]; omega
        have hb1 : ¬ V < 0 := by omega
        have hb2 : ¬ 4294967295 - A < V := by omega
        clear hb
        by_cases hp : 0 < V
        · rw [if_pos hp] at HT2
          go_wp2_with fail
          go_roundw
          case rel => exact ⟨k + 1, A + V, U + 1, by omega, by go_num, rfl, rfl, by omega, by omega, by omega, by omega, by omega, HT2, (by first | rfl | trivial)⟩
          case measure => simp [intOf]; omega
        · rw [if_neg hp] at HT2
          obtain rfl : V = 0 := by omega
          rw [Int.add_zero] at HT2
          go_wp2_with fail
          go_roundw
          case rel => exact ⟨k + 1, A, U, by omega, by go_num, by first | rfl | (congr 1; omega), rfl, by omega, by omega, by omega, by omega, by omega, HT2, (by first | rfl | trivial)⟩
          case measure => simp [intOf]; omega
    · obtain rfl : k = l.length := by omega
      have ht := ht.out
      rw [List.drop_eq_nil_of_le (Nat.le_refl _)] at ht
      have hr := HR.out
      rw [ht] at hr
      simp only [totL, totE] at hr
      clear ht
      by_cases hz : U = 0
      · rw [if_pos hz] at hr
        injection hr with e1 e2
        subst e1 e2
        have hz1 : A = 0 := by omega
        subst hz hz1
        (go_wp2_with fail; go_ret2; exact ⟨rfl, rfl⟩)
      · rw [if_neg hz] at hr
        have hz2 : (A == 0) = false := by rw [beq_eq_false_iff_ne]; omega
        have hz3 : (U == 0) = false := by rw [beq_eq_false_iff_ne]; omega
        have hz4 : ¬ A = 0 := by omega
        by_cases hx : (q : Int) < U
        · rw [if_pos hx] at hr
          injection hr with e1 e2
          subst e1 e2
          (go_wp2_with fail; go_ret2; exact ⟨rfl, rfl⟩)
        · rw [if_neg hx] at hr
          injection hr with e1 e2
          subst e1 e2
          (go_wp2_with fail; go_ret2; exact ⟨rfl, rfl⟩)
set_option maxHeartbeats 3200000 in
theorem dCheck59 (a : Option Addr) (c : Nat) (l : List Int) (n : Int) (w : World) (h : IsInts w a l) (hl : l.length ≤ 70368744177664) : Calls Try.prog 25 #[.slice a l.length c, .int .i64 n] w fun e w' => e = .returned (.tuple #[.int .i64 (totV l n).1, .int .i64 (totV l n).2]) ∧ w' = w := by
  unfold totV
  by_cases h1 : n < 5 ∨ 12 < n
  · rw [if_pos h1]
    by_cases h2 : n < 5
    · have d1 : decide (5 ≤ n) = false := by simp; omega
      have d2 : decide (n < 5) = true := by simpa using h2
      go_enter Try.func25, Try.ntmps25
      go_wp2_with fail
      go_ret2
      exact ⟨rfl, rfl⟩
    · have d1 : decide (n ≤ 12) = false := by simp; omega
      have d2 : decide (12 < n) = true := by simp; omega
      have d3 : decide (n < 5) = false := by simp; omega
      have d4 : decide (5 ≤ n) = true := by simp; omega
      go_enter Try.func25, Try.ntmps25
      go_wp2_with fail
      go_ret2
      exact ⟨rfl, rfl⟩
  rw [if_neg h1]
  have d1 : decide (5 ≤ n) = true := by simp; omega
  have d2 : decide (n ≤ 12) = true := by simp; omega
  have d3 : decide (n < 5) = false := by simp; omega
  have d4 : decide (12 < n) = false := by simp; omega
  by_cases h3 : 256 < l.length
  · rw [if_pos h3]
    have h4 : decide ((256 : Int) < (l.length : Int)) = true := by simp; omega
    go_enter Try.func25, Try.ntmps25
    go_wp2_with fail
    go_ret2
    exact ⟨rfl, rfl⟩
  rw [if_neg h3]
  have h4 : decide ((256 : Int) < (l.length : Int)) = false := by simp; omega
  obtain ⟨m, rfl⟩ : ∃ m : Nat, n = m := ⟨n.toNat, by omega⟩
  have hm : m ≤ 12 := by omega
  rw [Int.toNat_natCast]
  obtain ⟨q, hq⟩ : ∃ q : Nat, 2 ^ m = q := ⟨_, rfl⟩
  have hq1 : q ≤ 4096 := by rw [← hq]; exact Nat.pow_le_pow_right (by decide) hm
  have hW : IntKind.i64.wrap ((2 : Int) ^ m) = (q : Int) := by
    have e1 : (2 : Int) ^ m = ((2 ^ m : Nat) : Int) := by simp
    rw [e1, hq, IntKind.wrap_i64]; omega
  have hQ : ((2 : Int) ^ m) = (q : Int) := by rw [← hq]; simp
  rw [hQ]
  obtain ⟨⟨R1, R2⟩, hR⟩ : ∃ R, totE (q : Int) (totL l 0 0) = R := ⟨_, rfl⟩
  rw [hR]
  have HR := Lib.hid hR
  clear hR
  simp only
  have hmin : min m 64 = m := by omega
  have hU : IntKind.u64.wrap (m : Int) = (m : Int) := IntWalk.u64_in _ (by omega)
  have hm0 : (0 : Int) ≤ (m : Int) := by omega
  have HI := Lib.hid h
  have HS := Lib.hid (fun k hk A U => totL_step l k hk A U)
  clear h d1 d2 h1
  go_enter Try.func25, Try.ntmps25
  go_wp2_with fail
  clear d3 d4
  go_loopw [6, 7, 8] (fun av uv iv wr => ∃ (k : Nat) (A U : Int), k ≤ l.length ∧ iv = .int .i64 k ∧ av = .int .i64 A ∧ uv = .int .i64 U ∧ 0 ≤ A ∧ A ≤ 4294967295 ∧ 0 ≤ U ∧ U ≤ k ∧ (A = 0 ↔ U = 0) ∧ Hid (totL l 0 0 = totL (l.drop k) A U) ∧ wr = w) (fun _ _ iv _ => l.length - (intOf iv).toNat)
  case atStart => exact ⟨0, 0, 0, Nat.zero_le _, rfl, rfl, rfl, by omega, by omega, by omega, by omega, by omega, Lib.hid (by simp), rfl⟩
  case round =>
    obtain ⟨k, A, U, hk, rfl, rfl, rfl, hA0, hA1, hU0, hU1, hAU, ht, rfl⟩ := hrel
    by_cases hlt : k < l.length
    · obtain ⟨x, rfl, -, cx0⟩ := HI.out.at k hlt
      have cx := cx0 k hlt
      have HT2 := Lib.hid (ht.out.trans (HS.out k hlt A U))
      obtain ⟨V, hV⟩ : ∃ V, l.getD k 0 = V := ⟨_, rfl⟩
      rw [hV] at cx HT2
      have hkl : (k : Int) < (l.length : Int) := by omega
      have hw1 : IntKind.i64.wrap (4294967295 - A) = 4294967295 - A := by rw [IntKind.wrap_i64]; omega
      clear hV cx0
      by_cases hb : V < 0 ∨ 4294967295 - A < V
      · rw [if_pos hb] at HT2
        have hr := HR.out
        rw [HT2.out] at hr
        injection hr with e1 e2
        subst e1 e2
        by_cases hb1 : V < 0
        · have hd : decide (V < 0) = true := by simpa using hb1
          clear hb
          (go_wp2_with fail; go_ret2; exact ⟨rfl, rfl⟩)
        · have hd : decide (V < 0) = false := by simpa using hb1
          have hd2 : decide (4294967295 - A < V) = true := by simp; omega
          clear hb
          (go_wp2_with fail; go_ret2; exact ⟨rfl, rfl⟩)
      · rw [if_neg hb] at HT2
        have hd : decide (V < 0) = false := by simp; omega
        have hd2 : decide (4294967295 - A < V) = false := by simp; omega
        have hw2 : IntKind.i64.wrap (A + V) = A + V := by rw [IntKind.wrap_i64]; omega
        have hw3 : IntKind.i64.wrap (U + 1) = U + 1 := by rw [IntKind.wrap_i64]; omega
        have hb1 : ¬ V < 0 := by omega
        have hb2 : ¬ 4294967295 - A < V := by omega
        clear hb
        by_cases hp : 0 < V
        · rw [if_pos hp] at HT2
          go_wp2_with fail
          go_roundw
          case rel => exact ⟨k + 1, A + V, U + 1, by omega, by go_num, rfl, rfl, by omega, by omega, by omega, by omega, by omega, HT2, (by first | rfl | trivial)⟩
          case measure => simp [intOf]; omega
        · rw [if_neg hp] at HT2
          obtain rfl : V = 0 := by omega
          rw [Int.add_zero] at HT2
          go_wp2_with fail
          go_roundw
          case rel => exact ⟨k + 1, A, U, by omega, by go_num, by first | rfl | (congr 1; omega), rfl, by omega, by omega, by omega, by omega, by omega, HT2, (by first | rfl | trivial)⟩
          case measure => simp [intOf]; omega
    · obtain rfl : k = l.length := by omega
      have ht := ht.out
      rw [List.drop_eq_nil_of_le (Nat.le_refl _)] at ht
      have hr := HR.out
      rw [ht] at hr
      simp only [totL, totE] at hr
      clear ht
      by_cases hz : U = 0
      · rw [if_pos hz] at hr
        injection hr with e1 e2
        subst e1 e2
        have hz1 : A = 0 := by omega
        subst hz hz1
        (go_wp2_with fail; go_ret2; exact ⟨rfl, rfl⟩)
      · rw [if_neg hz] at hr
        have hz2 : (A == 0) = false := by rw [beq_eq_false_iff_ne]; omega
        have hz3 : (U == 0) = false := by rw [beq_eq_false_iff_ne]; omega
        have hz4 : ¬ A = 0 := by omega
        by_cases hx : (q : Int) < U
        · rw [if_pos hx] at hr
          injection hr with e1 e2
          subst e1 e2
          (go_wp2_with fail; go_ret2; exact ⟨rfl, rfl⟩)
        · rw [if_neg hx] at hr
          injection hr with e1 e2
          subst e1 e2
          (go_wp2_with fail; go_ret2; exact ⟨rfl, rfl⟩)
end Go.Proofs.Ytplopddlpoffoaa
