/- Layer 31, the document's: Low, Number; both ways: may. -/
import Derived.Test.YtekageibffhloaaH0
namespace Go.Proofs.Ytekageibffhloaa
open Go.ChangeShapes Go.WideShapes Go.ChangeAt Go.RowKit
set_option linter.unusedVariables false
set_option maxRecDepth 100000
theorem info_u8h : (Try.prog.info? 5).map (fun i => (i.zero, i.size, i.bytes)) = some (some (.int .u8 0), 1, 1) := by kernel_rfl
set_option maxHeartbeats 1600000 in
theorem dLow (x n : Nat) (hx : x < 2 ^ 40) (hn : n ≤ 4) (w : World) : Calls Try.prog 69 #[.int .i64 x, .int .i64 n] w fun e w' => e = .returned (.string (sB (lowB x n))) ∧ Below w.heap.size w w' := by
  obtain ⟨i0, hi, hz0, hz1, hz2⟩ := info_get info_u8h
  go_enter Try.func69, Try.ntmps69
  go_wp2
  go_loopw [5, 6] (fun u i wr => ∃ k : Nat, k ≤ n ∧ i = .int .i64 k ∧ wr.ownsRow w.heap.size 5 1 u k (cells8 (lowB x k)) ∧ Below w.heap.size w wr) (fun _ i _ => n - (intOf i).toNat)
  case atStart => exact ⟨0, Nat.zero_le _, rfl, World.ownsRow_nil _ _ _ _, Below.refl _ _⟩
  case round =>
    obtain ⟨k, hk, rfl, hown, hb⟩ := hrel
    have hbs := hb.size
    by_cases hlt : k < n
    · have HS := Lib.hid (show cells8 (lowB x k) ++ [.int .u8 ((UInt8.ofNat (x / 2 ^ (8 * k))).toNat : Int)] = cells8 (lowB x (k + 1)) by rw [cells8_snoc]; rfl)
      have HW := Lib.hid (u8w (x / 2 ^ (8 * k)))
      have hown_ := Lib.hid hown
      have hb_ := Lib.hid hb
      clear hown hb
      have HX := Lib.hid (show (x : Int) / 2 ^ (8 * k) % 256 = ((UInt8.ofNat (x / 2 ^ (8 * k))).toNat : Int) by rw [HW.out]; simp)
      go_wp2_with (at_builtin; refine wpList_append_at _ rfl (.tmp 12) (.tmp 19) 44 rfl w.heap.size 5 i0 (.int .u8 0) 1 Try.underlying44 hi hz0 hz1 hz2 rfl _ _ _ rfl (hown_.out.alloc _) ⟨wr.heap.size, 0, none⟩ 1 1 [Value.int .u8 _] rfl rfl (cell_new1 wr _ _ _ rfl) (by simp [Value.oneCell']) ?d3 ?d4 ?d5 ?d6 ?_)
      case d3 => unfold maxLen; omega
      case d4 => omega
      case d5 => simp; omega
      case d6 => decide
      intro q cap w1 hown1 hgrow hq
      rw [HX.out, HS.out] at hown1
      have hb1 : Below w.heap.size w w1 := (hb_.out.alloc hbs _).grown hgrow (by simp; omega) (fun j hj => (World.ownsRow.lt hown_.out j hj).1)
      have hown1_ := Lib.hid hown1
      have hb1_ := Lib.hid hb1
      clear hown1 hb1
      clear hgrow hq hown_ hb_
      go_wp2_with fail
      go_roundw
      case rel => exact ⟨k + 1, by omega, by go_num, hown1_.out, hb1_.out⟩
      case measure => simp [intOf]; omega
    · obtain rfl : k = n := by omega
      have hcv := conv_own8 (P := Try.prog) (src := 44) (dst := 9) Try.underlying44 Try.underlying5 Try.underlying9 hown
      have hb_ := Lib.hid hb
      clear hb
      go_wp2_with fail
      go_ret
      exact ⟨rfl, hb_.out⟩
theorem num_drop (l : List UInt8) (k : Nat) (h : k < l.length) : num (l.drop k) = (l.getD k 0).toNat + 256 * num (l.drop (k + 1)) := by
  rw [List.drop_eq_getElem_cons h]
  simp [num, List.getD_eq_getElem?_getD, h]
set_option maxHeartbeats 1600000 in
theorem dNumber (l : List UInt8) (hl : l.length ≤ 4) (w : World) : Calls Try.prog 72 #[.string (sB l)] w fun e w' => e = .returned (.int .i64 (num l : Nat)) ∧ w' = w := by
  have hsz := sB_size l
  have HZ := Lib.hid hsz
  have hm : (sB l).size ≤ 4 := by omega
  have HG := Lib.hid (fun k h h2 => sB_get l k h h2)
  have HD := Lib.hid (fun k h => num_drop l k h)
  have HB := Lib.hid (show ∀ k, num (l.drop k) < 4294967296 by
    intro k
    have h1 := num_lt (l.drop k)
    have h2 : 256 ^ (l.drop k).length ≤ 256 ^ 4 := Nat.pow_le_pow_right (by decide) (by rw [List.length_drop]; omega)
    omega)
  clear hsz
  go_enter Try.func72, Try.ntmps72
  go_wp2
  go_loop [3, 4] (fun x i => ∃ k : Nat, k ≤ (sB l).size ∧ i = .int .i64 ((k : Int) - 1) ∧ x = .int .i64 (num (l.drop k) : Nat)) (fun _ i => (intOf i + 1).toNat)
  case atStart => exact ⟨(sB l).size, Nat.le_refl _, rfl, by rw [HZ.out, List.drop_length]; rfl⟩
  case round =>
    obtain ⟨k, hk, rfl, rfl⟩ := hrel
    rcases k with _ | k
    · go_wp2
      go_ret
      exact ⟨by simp, rfl⟩
    · have hlt : k < (sB l).size := by omega
      have hg := HG.out k (by rw [← HZ.out]; exact hlt) hlt
      have hd := Lib.hid (HD.out k (by rw [← HZ.out]; exact hlt))
      have hb := HB.out (k + 1)
      have hk1 : ((k + 1 : Nat) : Int) - 1 = k := by omega
      rw [hk1]
      have hg2 : ((sB l)[k]'hlt).toNat = (l.getD k 0).toNat := by rw [hg]
      have h8 := (l.getD k 0).toNat_lt
      obtain ⟨z, hz⟩ : ∃ z, (l.getD k 0).toNat = z := ⟨_, rfl⟩
      obtain ⟨N, hN⟩ : ∃ N, num (l.drop (k + 1)) = N := ⟨_, rfl⟩
      rw [hz] at hg2 hd h8
      rw [hN] at hd hb ⊢
      have HG2 := Lib.hid hg2
      clear hg hz hN hk1 hg2
      have hg2 := HG2.out
      have h8' : ((sB l)[k]'hlt).toNat < 256 := by rw [hg2]; exact h8
      clear hg2
      go_wp2
      go_round
      case rel => exact ⟨k, by omega, by go_num, by rw [HG2.out, hd.out]; go_num⟩
      case measure => simp [intOf]
def mayB (K R C : Int) : Bool :=
  if K = 0 then decide (R = 0) && decide (C = 0)
  else if K = 1 then decide (1 ≤ R) && decide (R ≤ 65536) && decide (C = R)
  else if K = 2 then decide (2 ≤ R) && decide (R ≤ 65536) && decide (1 ≤ C) && decide (C < R)
  else false
set_option maxHeartbeats 1600000 in
theorem hMay (K R C : Int) (w : World) : Calls Try.prog 70 #[.agg #[.int .i64 K, .int .i64 R, .int .i64 C]] w fun e w' => e = .returned (.bool (mayB K R C)) ∧ w' = w.alloc (.cells #[.int .i64 K, .int .i64 R, .int .i64 C] 55) := by
  by_cases k0 : K = 0
  · subst k0
    by_cases r0 : R = 0
    · subst r0
      by_cases c0 : C = 0
      · subst c0
        go_enter Try.func70, Try.ntmps70
        go_wp2
        go_ret
        exact ⟨by first | (simp [mayB, *]; done) | (simp [mayB, *]; omega), rfl⟩
      · go_enter Try.func70, Try.ntmps70
        go_wp2
        go_ret
        exact ⟨by first | (simp [mayB, *]; done) | (simp [mayB, *]; omega), rfl⟩
    · go_enter Try.func70, Try.ntmps70
      go_wp2
      go_ret
      exact ⟨by first | (simp [mayB, *]; done) | (simp [mayB, *]; omega), rfl⟩
  · by_cases k1 : K = 1
    · subst k1
      by_cases r1 : 1 ≤ R
      · by_cases r2 : R ≤ 65536
        · by_cases c1 : C = R
          · subst c1
            go_enter Try.func70, Try.ntmps70
            go_wp2
            go_ret
            exact ⟨by first | (simp [mayB, *]; done) | (simp [mayB, *]; omega), rfl⟩
          · go_enter Try.func70, Try.ntmps70
            go_wp2
            go_ret
            exact ⟨by first | (simp [mayB, *]; done) | (simp [mayB, *]; omega), rfl⟩
        · go_enter Try.func70, Try.ntmps70
          go_wp2
          go_ret
          exact ⟨by first | (simp [mayB, *]; done) | (simp [mayB, *]; omega), rfl⟩
      · go_enter Try.func70, Try.ntmps70
        go_wp2
        go_ret
        exact ⟨by first | (simp [mayB, *]; done) | (simp [mayB, *]; omega), rfl⟩
    · by_cases k2 : K = 2
      · subst k2
        by_cases r1 : 2 ≤ R
        · by_cases r2 : R ≤ 65536
          · by_cases c1 : 1 ≤ C
            · by_cases c2 : C < R
              · go_enter Try.func70, Try.ntmps70
                go_wp2
                go_ret
                exact ⟨by first | (simp [mayB, *]; done) | (simp [mayB, *]; omega), rfl⟩
              · go_enter Try.func70, Try.ntmps70
                go_wp2
                go_ret
                exact ⟨by first | (simp [mayB, *]; done) | (simp [mayB, *]; omega), rfl⟩
            · go_enter Try.func70, Try.ntmps70
              go_wp2
              go_ret
              exact ⟨by first | (simp [mayB, *]; done) | (simp [mayB, *]; omega), rfl⟩
          · go_enter Try.func70, Try.ntmps70
            go_wp2
            go_ret
            exact ⟨by first | (simp [mayB, *]; done) | (simp [mayB, *]; omega), rfl⟩
        · go_enter Try.func70, Try.ntmps70
          go_wp2
          go_ret
          exact ⟨by first | (simp [mayB, *]; done) | (simp [mayB, *]; omega), rfl⟩
      · go_enter Try.func70, Try.ntmps70
        go_wp2
        go_ret
        exact ⟨by first | (simp [mayB, *]; done) | (simp [mayB, *]; omega), rfl⟩
set_option maxHeartbeats 1600000 in
theorem dMay (K R C : Int) (w : World) : Calls Try.prog 71 #[.agg #[.int .i64 K, .int .i64 R, .int .i64 C]] w fun e w' => e = .returned (.bool (mayB K R C)) ∧ w' = w.alloc (.cells #[.int .i64 K, .int .i64 R, .int .i64 C] 55) := by
  by_cases k0 : K = 0
  · subst k0
    by_cases r0 : R = 0
    · subst r0
      by_cases c0 : C = 0
      · subst c0
        go_enter Try.func71, Try.ntmps71
        go_wp2
        go_ret
        exact ⟨by first | (simp [mayB, *]; done) | (simp [mayB, *]; omega), rfl⟩
      · go_enter Try.func71, Try.ntmps71
        go_wp2
        go_ret
        exact ⟨by first | (simp [mayB, *]; done) | (simp [mayB, *]; omega), rfl⟩
    · go_enter Try.func71, Try.ntmps71
      go_wp2
      go_ret
      exact ⟨by first | (simp [mayB, *]; done) | (simp [mayB, *]; omega), rfl⟩
  · by_cases k1 : K = 1
    · subst k1
      by_cases r1 : 1 ≤ R
      · by_cases r2 : R ≤ 65536
        · by_cases c1 : C = R
          · subst c1
            go_enter Try.func71, Try.ntmps71
            go_wp2
            go_ret
            exact ⟨by first | (simp [mayB, *]; done) | (simp [mayB, *]; omega), rfl⟩
          · go_enter Try.func71, Try.ntmps71
            go_wp2
            go_ret
            exact ⟨by first | (simp [mayB, *]; done) | (simp [mayB, *]; omega), rfl⟩
        · go_enter Try.func71, Try.ntmps71
          go_wp2
          go_ret
          exact ⟨by first | (simp [mayB, *]; done) | (simp [mayB, *]; omega), rfl⟩
      · go_enter Try.func71, Try.ntmps71
        go_wp2
        go_ret
        exact ⟨by first | (simp [mayB, *]; done) | (simp [mayB, *]; omega), rfl⟩
    · by_cases k2 : K = 2
      · subst k2
        by_cases r1 : 2 ≤ R
        · by_cases r2 : R ≤ 65536
          · by_cases c1 : 1 ≤ C
            · by_cases c2 : C < R
              · go_enter Try.func71, Try.ntmps71
                go_wp2
                go_ret
                exact ⟨by first | (simp [mayB, *]; done) | (simp [mayB, *]; omega), rfl⟩
              · go_enter Try.func71, Try.ntmps71
                go_wp2
                go_ret
                exact ⟨by first | (simp [mayB, *]; done) | (simp [mayB, *]; omega), rfl⟩
            · go_enter Try.func71, Try.ntmps71
              go_wp2
              go_ret
              exact ⟨by first | (simp [mayB, *]; done) | (simp [mayB, *]; omega), rfl⟩
          · go_enter Try.func71, Try.ntmps71
            go_wp2
            go_ret
            exact ⟨by first | (simp [mayB, *]; done) | (simp [mayB, *]; omega), rfl⟩
        · go_enter Try.func71, Try.ntmps71
          go_wp2
          go_ret
          exact ⟨by first | (simp [mayB, *]; done) | (simp [mayB, *]; omega), rfl⟩
      · go_enter Try.func71, Try.ntmps71
        go_wp2
        go_ret
        exact ⟨by first | (simp [mayB, *]; done) | (simp [mayB, *]; omega), rfl⟩
end Go.Proofs.Ytekageibffhloaa
