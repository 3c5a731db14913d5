/- Layer 51: contracts of Best, of the program and of the document; the examples. -/
import Derived.Test.YtmpmioffngonjaaDo
namespace Go.Proofs.Ytmpmioffngonjaa
open Go.ChangeShapes Go.WideShapes Go.ChangeAt Go.RowKit
set_option linter.unusedVariables false
set_option maxRecDepth 100000
open DeltaMath

theorem left_le (l : List UInt8) (d : Nat) : left l d ≤ l.length := by
  unfold left; split
  · exact noughts_le _
  · have := noughts_le (diffTo l d l.length); rwa [diffTo_length] at this
theorem best_step (l : List UInt8) (t b m x : Nat) (ht : 1 ≤ t) (h : best l (t - 1) = (b, m)) (hx : left l t = x) : best l t = if m < x then (t, x) else (b, m) := by
  obtain ⟨k, rfl⟩ : ∃ k, t = k + 1 := ⟨t - 1, by omega⟩
  simp only [Nat.add_sub_cancel] at h
  simp only [best, h, hx]
def upTo (most : Int) : Nat := if 256 < most then 256 else most.toNat
set_option maxHeartbeats 1600000 in
theorem dBest_at (s : ByteArray) (hs : s.size ≤ 3000) (most : Int) (M : Nat) (hM : upTo most = M) (h : most < 1 ∨ (1 ≤ most ∧ most ≤ 256) ∨ 256 < most) (w : World) (hmw : -9223372036854775808 ≤ most ∧ most ≤ 9223372036854775807) :
    Calls Try.prog 59 #[.string s, .int .i64 most] w fun e w' => e = .returned (.int .i64 (best s.data.toList M).1) ∧ ∃ n, w' = w.drewN n := by
  have C0 : ∀ w, Calls Try.prog 74 #[.string s, .int .i64 0] w fun e w' => e = .returned (.int .i64 (left s.data.toList 0)) ∧ ∃ n, w' = w.drewN n := fun w => dNought s hs 0 (by omega) w
  have C0 := Lib.hid C0
  have CN := Lib.hid (fun t (ht : t ≤ 256) w => dNought s hs t ht w)
  obtain ⟨m0, hm0⟩ : ∃ m0, left s.data.toList 0 = m0 := ⟨_, rfl⟩
  have hm3 : m0 ≤ 3000 := by have := left_le s.data.toList 0; rw [hm0] at this; simp at this; omega
  rw [hm0] at C0
  have HM0 := Lib.hid hm0
  clear hm0
  have hM3 : (most < 1 ∧ M = 0) ∨ (1 ≤ most ∧ most ≤ 256 ∧ most = M) ∨ (256 < most ∧ M = 256) := by
    unfold upTo at hM
    rcases h with h | h | h
    · left; rw [if_neg (by omega)] at hM; omega
    · right; left; rw [if_neg (by omega)] at hM; omega
    · right; right; rw [if_pos h] at hM; omega
  clear hM h
  obtain ⟨h1, h2⟩ := hmw
  rcases hM3 with ⟨h, rfl⟩ | ⟨ha, hb', rfl⟩ | ⟨h, rfl⟩
  all_goals
    go_enter Try.func59, Try.ntmps59
    go_wp2_with fail
    refine (C0.out _).mono ?_; rintro e w1 ⟨rfl, q0, rfl⟩
    go_wp2_with fail
  · go_loopw [5, 6, 7] (fun bv mv d wr => ∃ t b m : Nat, t = 1 ∧ d = .int .i64 t ∧ bv = .int .i64 b ∧ mv = .int .i64 m ∧ best s.data.toList 0 = (b, m) ∧ ∃ q, wr = w.drewN q) (fun _ _ d _ => 0)
    case atStart => exact ⟨1, 0, m0, rfl, rfl, rfl, rfl, by rw [← HM0.out]; rfl, _, rfl⟩
    case round =>
      obtain ⟨t, b, m, rfl, rfl, rfl, rfl, hB, q, rfl⟩ := hrel
      have HB := Lib.hid hB; clear hB
      go_wp2_with fail
      go_ret
      exact ⟨ret_i (by rw [HB.out]), _, rfl⟩
  · go_loopw [5, 6, 7] (fun bv mv d wr => ∃ t b m : Nat, 1 ≤ t ∧ t ≤ M + 1 ∧ d = .int .i64 t ∧ bv = .int .i64 b ∧ mv = .int .i64 m ∧ m ≤ 3000 ∧ best s.data.toList (t - 1) = (b, m) ∧ ∃ q, wr = w.drewN q) (fun _ _ d _ => M + 1 - (intOf d).toNat)
    case atStart => exact ⟨1, 0, m0, by omega, by omega, rfl, rfl, rfl, hm3, by rw [← HM0.out]; rfl, _, rfl⟩
    case round =>
      obtain ⟨t, b, m, ht1, ht2, rfl, rfl, rfl, hm, hB, q, rfl⟩ := hrel
      have hmin : ¬ ((256 : Int) < (M : Int)) := by omega
      by_cases hlt : t ≤ M
      · obtain ⟨x, hx⟩ : ∃ x, left s.data.toList t = x := ⟨_, rfl⟩
        have hx3 : x ≤ 3000 := by have := left_le s.data.toList t; rw [hx] at this; simp at this; omega
        have HS := Lib.hid (best_step s.data.toList t b m x ht1 hB hx)
        have C := fun w => CN.out t (by omega) w
        rw [hx] at C
        have C := Lib.hid C
        clear hB hx
        by_cases hgt : m < x
        · go_wp2_with fail
          refine (C.out _).mono ?_; rintro e w1 ⟨rfl, q1, rfl⟩
          go_wp2_with fail
          go_roundw
          case rel => exact ⟨t + 1, t, x, by omega, by omega, by go_num, rfl, rfl, hx3, by rw [Nat.add_sub_cancel, HS.out, if_pos hgt], _, rfl⟩
          case measure => simp [intOf]; omega
        · go_wp2_with fail
          refine (C.out _).mono ?_; rintro e w1 ⟨rfl, q1, rfl⟩
          go_wp2_with fail
          go_roundw
          case rel => exact ⟨t + 1, b, m, by omega, by omega, by go_num, rfl, rfl, hm, by rw [Nat.add_sub_cancel, HS.out, if_neg hgt], _, rfl⟩
          case measure => simp [intOf]; omega
      · have HB := Lib.hid (show best s.data.toList M = (b, m) by rw [← hB]; congr 1; omega)
        clear hB
        go_wp2_with fail
        go_ret
        exact ⟨ret_i (by rw [HB.out]), _, rfl⟩
  · go_loopw [5, 6, 7] (fun bv mv d wr => ∃ t b m : Nat, 1 ≤ t ∧ t ≤ 256 + 1 ∧ d = .int .i64 t ∧ bv = .int .i64 b ∧ mv = .int .i64 m ∧ m ≤ 3000 ∧ best s.data.toList (t - 1) = (b, m) ∧ ∃ q, wr = w.drewN q) (fun _ _ d _ => 256 + 1 - (intOf d).toNat)
    case atStart => exact ⟨1, 0, m0, by omega, by omega, rfl, rfl, rfl, hm3, by rw [← HM0.out]; rfl, _, rfl⟩
    case round =>
      obtain ⟨t, b, m, ht1, ht2, rfl, rfl, rfl, hm, hB, q, rfl⟩ := hrel
      have hmin : (256 : Int) < most := h
      by_cases hlt : t ≤ 256
      · obtain ⟨x, hx⟩ : ∃ x, left s.data.toList t = x := ⟨_, rfl⟩
        have hx3 : x ≤ 3000 := by have := left_le s.data.toList t; rw [hx] at this; simp at this; omega
        have HS := Lib.hid (best_step s.data.toList t b m x ht1 hB hx)
        have C := fun w => CN.out t (by omega) w
        rw [hx] at C
        have C := Lib.hid C
        clear hB hx
        by_cases hgt : m < x
        · go_wp2_with fail
          refine (C.out _).mono ?_; rintro e w1 ⟨rfl, q1, rfl⟩
          go_wp2_with fail
          go_roundw
          case rel => exact ⟨t + 1, t, x, by omega, by omega, by go_num, rfl, rfl, hx3, by rw [Nat.add_sub_cancel, HS.out, if_pos hgt], _, rfl⟩
          case measure => simp [intOf]; omega
        · go_wp2_with fail
          refine (C.out _).mono ?_; rintro e w1 ⟨rfl, q1, rfl⟩
          go_wp2_with fail
          go_roundw
          case rel => exact ⟨t + 1, b, m, by omega, by omega, by go_num, rfl, rfl, hm, by rw [Nat.add_sub_cancel, HS.out, if_neg hgt], _, rfl⟩
          case measure => simp [intOf]; omega
      · have HB := Lib.hid (show best s.data.toList 256 = (b, m) by rw [← hB]; congr 1; omega)
        clear hB
        go_wp2_with fail
        go_ret
        exact ⟨ret_i (by rw [HB.out]), _, rfl⟩

theorem left_diff (l : List UInt8) (d n : Nat) (h : 1 ≤ d) (hn : n = l.length) : noughts (diffTo l d n) = left l d := by unfold left; rw [if_neg (by omega), hn]
set_option maxHeartbeats 1600000 in
theorem rBest_at (s : ByteArray) (hs : s.size ≤ 3000) (most : Int) (M : Nat) (hM : upTo most = M) (h : most < 1 ∨ (1 ≤ most ∧ most ≤ 256) ∨ 256 < most) (w : World) (hmw : -9223372036854775808 ≤ most ∧ most ≤ 9223372036854775807) :
    Calls Try.prog 60 #[.string s, .int .i64 most] w fun e w' => e = .returned (.int .i64 (best s.data.toList M).1) ∧ Below w.heap.size w w' := by
  have C0 := Lib.hid (fun w => rNought s hs w)
  have CN : ∀ t : Nat, 1 ≤ t → t ≤ 256 → ∀ w, Calls Try.prog 75 #[.string ⟨(diffTo s.data.toList t s.size).toArray⟩] w fun e w' => e = .returned (.int .i64 (left s.data.toList t)) ∧ w' = w := fun t h1 h2 w => by
    have := rNought ⟨(diffTo s.data.toList t s.size).toArray⟩ (by show (diffTo s.data.toList t s.size).toArray.size ≤ 3000; simp [diffTo_length]; exact hs) w
    rw [left_diff s.data.toList t s.size h1 (by simp)] at this
    exact this
  have CN := Lib.hid CN
  have CA := Lib.hid (fun t h1 h2 w => rApply s hs t h1 h2 w)
  obtain ⟨m0, hm0⟩ : ∃ m0, noughts s.data.toList = m0 := ⟨_, rfl⟩
  have hm3 : m0 ≤ 3000 := by have := noughts_le s.data.toList; rw [hm0] at this; simp at this; omega
  rw [hm0] at C0
  have HM0 := Lib.hid hm0
  clear hm0
  have hM3 : (most < 1 ∧ M = 0) ∨ (1 ≤ most ∧ most ≤ 256 ∧ most = M) ∨ (256 < most ∧ M = 256) := by
    unfold upTo at hM
    rcases h with h | h | h
    · left; rw [if_neg (by omega)] at hM; omega
    · right; left; rw [if_neg (by omega)] at hM; omega
    · right; right; rw [if_pos h] at hM; omega
  clear hM h
  obtain ⟨h1, h2⟩ := hmw
  rcases hM3 with ⟨h, rfl⟩ | ⟨ha, hb', rfl⟩ | ⟨h, rfl⟩
  all_goals
    go_enter Try.func60, Try.ntmps60
    go_wp2_with fail
    refine (C0.out _).mono ?_; rintro e w1 ⟨rfl, rfl⟩
    go_wp2_with fail
  · go_loopw [5, 6, 7] (fun bv mv d wr => ∃ t b m : Nat, t = 1 ∧ d = .int .i64 t ∧ bv = .int .i64 b ∧ mv = .int .i64 m ∧ best s.data.toList 0 = (b, m) ∧ wr = w1) (fun _ _ d _ => 0)
    case atStart => exact ⟨1, 0, m0, rfl, rfl, rfl, rfl, by rw [← HM0.out]; rfl, rfl⟩
    case round =>
      obtain ⟨t, b, m, rfl, rfl, rfl, rfl, hB, rfl⟩ := hrel
      have HB := Lib.hid hB; clear hB
      go_wp2_with fail
      go_ret
      exact ⟨ret_i (by rw [HB.out]), Below.refl _ _⟩
  · go_loopw [5, 6, 7] (fun bv mv d wr => ∃ t b m : Nat, 1 ≤ t ∧ t ≤ M + 1 ∧ d = .int .i64 t ∧ bv = .int .i64 b ∧ mv = .int .i64 m ∧ m ≤ 3000 ∧ best s.data.toList (t - 1) = (b, m) ∧ Below w1.heap.size w1 wr) (fun _ _ d _ => M + 1 - (intOf d).toNat)
    case atStart => exact ⟨1, 0, m0, by omega, by omega, rfl, rfl, rfl, hm3, by rw [← HM0.out]; rfl, Below.refl _ _⟩
    case round =>
      obtain ⟨t, b, m, ht1, ht2, rfl, rfl, rfl, hm, hB, hb⟩ := hrel
      by_cases hlt : t ≤ M
      · obtain ⟨x, hx⟩ : ∃ x, left s.data.toList t = x := ⟨_, rfl⟩
        have hx3 : x ≤ 3000 := by have := left_le s.data.toList t; rw [hx] at this; simp at this; omega
        have HS := Lib.hid (best_step s.data.toList t b m x ht1 hB hx)
        have C := fun w => CN.out t ht1 (by omega) w
        rw [hx] at C
        have C := Lib.hid C
        have CAt := Lib.hid (fun w => CA.out t ht1 (by omega) w)
        clear hB hx
        by_cases hgt : m < x
        · go_wp2_with fail
          refine (CAt.out _).mono ?_; rintro e w2 ⟨rfl, hb2⟩
          have hb := hb.trans (hb2.mono hb.size)
          clear hb2
          go_wp2_with fail
          refine (C.out _).mono ?_; rintro e w3 ⟨rfl, rfl⟩
          go_wp2_with fail
          go_roundw
          case rel => exact ⟨t + 1, t, x, by omega, by omega, by go_num, rfl, rfl, hx3, by rw [Nat.add_sub_cancel, HS.out, if_pos hgt], hb⟩
          case measure => simp [intOf]; omega
        · go_wp2_with fail
          refine (CAt.out _).mono ?_; rintro e w2 ⟨rfl, hb2⟩
          have hb := hb.trans (hb2.mono hb.size)
          clear hb2
          go_wp2_with fail
          refine (C.out _).mono ?_; rintro e w3 ⟨rfl, rfl⟩
          go_wp2_with fail
          go_roundw
          case rel => exact ⟨t + 1, b, m, by omega, by omega, by go_num, rfl, rfl, hm, by rw [Nat.add_sub_cancel, HS.out, if_neg hgt], hb⟩
          case measure => simp [intOf]; omega
      · have HB := Lib.hid (show best s.data.toList M = (b, m) by rw [← hB]; congr 1; omega)
        clear hB
        go_wp2_with fail
        go_ret
        exact ⟨ret_i (by rw [HB.out]), hb⟩
  · go_loopw [5, 6, 7] (fun bv mv d wr => ∃ t b m : Nat, 1 ≤ t ∧ t ≤ 256 + 1 ∧ d = .int .i64 t ∧ bv = .int .i64 b ∧ mv = .int .i64 m ∧ m ≤ 3000 ∧ best s.data.toList (t - 1) = (b, m) ∧ Below w1.heap.size w1 wr) (fun _ _ d _ => 256 + 1 - (intOf d).toNat)
    case atStart => exact ⟨1, 0, m0, by omega, by omega, rfl, rfl, rfl, hm3, by rw [← HM0.out]; rfl, Below.refl _ _⟩
    case round =>
      obtain ⟨t, b, m, ht1, ht2, rfl, rfl, rfl, hm, hB, hb⟩ := hrel
      by_cases hlt : t ≤ 256
      · obtain ⟨x, hx⟩ : ∃ x, left s.data.toList t = x := ⟨_, rfl⟩
        have hx3 : x ≤ 3000 := by have := left_le s.data.toList t; rw [hx] at this; simp at this; omega
        have HS := Lib.hid (best_step s.data.toList t b m x ht1 hB hx)
        have C := fun w => CN.out t ht1 (by omega) w
        rw [hx] at C
        have C := Lib.hid C
        have CAt := Lib.hid (fun w => CA.out t ht1 (by omega) w)
        clear hB hx
        by_cases hgt : m < x
        · go_wp2_with fail
          refine (CAt.out _).mono ?_; rintro e w2 ⟨rfl, hb2⟩
          have hb := hb.trans (hb2.mono hb.size)
          clear hb2
          go_wp2_with fail
          refine (C.out _).mono ?_; rintro e w3 ⟨rfl, rfl⟩
          go_wp2_with fail
          go_roundw
          case rel => exact ⟨t + 1, t, x, by omega, by omega, by go_num, rfl, rfl, hx3, by rw [Nat.add_sub_cancel, HS.out, if_pos hgt], hb⟩
          case measure => simp [intOf]; omega
        · go_wp2_with fail
          refine (CAt.out _).mono ?_; rintro e w2 ⟨rfl, hb2⟩
          have hb := hb.trans (hb2.mono hb.size)
          clear hb2
          go_wp2_with fail
          refine (C.out _).mono ?_; rintro e w3 ⟨rfl, rfl⟩
          go_wp2_with fail
          go_roundw
          case rel => exact ⟨t + 1, b, m, by omega, by omega, by go_num, rfl, rfl, hm, by rw [Nat.add_sub_cancel, HS.out, if_neg hgt], hb⟩
          case measure => simp [intOf]; omega
      · have HB := Lib.hid (show best s.data.toList 256 = (b, m) by rw [← hB]; congr 1; omega)
        clear hB
        go_wp2_with fail
        go_ret
        exact ⟨ret_i (by rw [HB.out]), hb⟩

theorem most_cases (most : Int) : most < 1 ∨ (1 ≤ most ∧ most ≤ 256) ∨ 256 < most := by omega
theorem dBest (s : ByteArray) (hs : s.size ≤ 3000) (most : Int) (w : World) (hmw : -9223372036854775808 ≤ most ∧ most ≤ 9223372036854775807) :
    Calls Try.prog 59 #[.string s, .int .i64 most] w fun e w' => e = .returned (.int .i64 (best s.data.toList (upTo most)).1) ∧ ∃ n, w' = w.drewN n := dBest_at s hs most _ rfl (most_cases most) w hmw
theorem rBest (s : ByteArray) (hs : s.size ≤ 3000) (most : Int) (w : World) (hmw : -9223372036854775808 ≤ most ∧ most ≤ 9223372036854775807) :
    Calls Try.prog 60 #[.string s, .int .i64 most] w fun e w' => e = .returned (.int .i64 (best s.data.toList (upTo most)).1) ∧ Below w.heap.size w w' := rBest_at s hs most _ rfl (most_cases most) w hmw
end Go.Proofs.Ytmpmioffngonjaa
