/- Layer 5: the sums. -/
import Derived.Test.YtfemcehglolnjaaCr
namespace Go.Proofs.Ytfemcehglolnjaa
open Go.ChangeShapes Go.WideShapes Go.ChangeAt Go.RowKit
set_option linter.unusedVariables false
set_option maxRecDepth 100000
open CrcMath

theorem xor_u8 (x y : Nat) (hx : x < 2 ^ 8) (hy : y < 2 ^ 8) : bits .xor .u8 (x : Int) (y : Int) = ((x ^^^ y : Nat) : Int) := by
  have ha' : x % 2 ^ IntKind.u8.bits = x := Nat.mod_eq_of_lt hx
  have hb' : y % 2 ^ IntKind.u8.bits = y := Nat.mod_eq_of_lt hy
  simp only [bits, BitVec.ofInt_natCast, BitVec.toNat_xor, BitVec.toNat_ofNat, ha', hb']
  exact IntWalk.u8_in _ (by have := Nat.xor_lt_two_pow hx hy; omega)
theorem ones_xor (x : Nat) (hx : x < 2 ^ 32) : 4294967295 ^^^ x = flip x := by
  have h : (BitVec.allOnes 32 ^^^ BitVec.ofNat 32 x).toNat = 4294967295 ^^^ x := by
    rw [BitVec.toNat_xor, BitVec.toNat_ofNat, Nat.mod_eq_of_lt hx]; rfl
  rw [← h, BitVec.allOnes_xor, BitVec.toNat_not, BitVec.toNat_ofNat, Nat.mod_eq_of_lt hx]
  unfold CrcMath.flip; omega
theorem not_u32 (x : Nat) (hx : x < 2 ^ 32) : bits .xor .u32 IntKind.u32.max (x : Int) = ((flip x : Nat) : Int) := by
  have h := xor_u32 4294967295 x (by decide) hx
  rw [ones_xor x hx] at h
  have e : IntKind.u32.max = ((4294967295 : Nat) : Int) := by decide
  rw [e]
  exact h
theorem run_nil (c : Nat) : run c [] = c := rfl
theorem run_take (c : Nat) (s : ByteArray) (k : Nat) (h : k < s.size) : run c (s.data.toList.take (k + 1)) = stepN 8 (run c (s.data.toList.take k) % 256 ^^^ s[k].toNat) ^^^ run c (s.data.toList.take k) / 256 := by
  have e : s.data.toList.take (k + 1) = s.data.toList.take k ++ [s[k]] := by rw [List.take_succ_eq_append_getElem (by simpa using h)]; rfl
  rw [e, run_append, run_cons]
  show run (stepN 8 _) [] = _
  rw [run_nil]
  exact step8_byte _ _ s[k].toNat_lt
theorem xor_last (x c : Nat) (hx : x < 2 ^ 32) (hc : c < 2 ^ 32) : bits .xor .u32 (x : Int) ((c : Int) / 256) = ((x ^^^ c / 256 : Nat) : Int) := by
  have e : (c : Int) / 256 = ((c / 256 : Nat) : Int) := by simp
  rw [e]
  exact xor_u32 x (c / 256) hx (by omega)
theorem xor_idx (c b : Nat) (hb : b < 256) : bits .xor .u8 ((c : Int) % 256) (b : Int) = ((c % 256 ^^^ b : Nat) : Int) := by
  have e : (c : Int) % 256 = ((c % 256 : Nat) : Int) := by simp
  rw [e]
  exact xor_u8 (c % 256) b (by omega) hb
set_option maxHeartbeats 1600000 in
theorem cAdd (sum : Nat) (hsum : sum < 4294967296) (s : ByteArray) (hs : s.size ≤ maxLen) (w : World) : Calls Try.prog 18 #[.int .u32 sum, .string s] w fun e w' => e = .returned (.int .u32 (add sum s.data.toList)) ∧ Below w.heap.size w w' := by
  obtain ⟨hz, hi⟩ := zero_of_info (P := Try.prog) (t := 60) (v := .agg (Array.replicate 256 (.int .u32 0))) (n := 256) (by kernel_rfl)
  rw [← tabA_zero] at hz
  obtain ⟨Z, hZ⟩ : ∃ Z, tabA 0 = Z := ⟨_, rfl⟩
  obtain ⟨T, hT⟩ : ∃ T, tabA 256 = T := ⟨_, rfl⟩
  have hzs : Hid (Z.size = T.size) := by show _ = _; rw [← hZ, ← hT, tabA_size, tabA_size]
  have HS : Hid ((Try.prog.info? 60).map (·.size) = some T.size) := by show _ = _; rw [hi, ← hT, tabA_size]
  have hTo : Hid (T.all (·.oneCell') = true) := by
    show _ = _
    rw [← hT, tabA, List.all_toArray, List.all_eq_true]
    intro x hx
    unfold tabL at hx
    obtain ⟨i, -, rfl⟩ := List.mem_map.1 hx
    rfl
  have HG : Hid (∀ i, i < 256 → T[i]? = some (.int .u32 (stepN 8 i : Int))) := by
    intro i h
    rw [← hT, tabA_get 256 i h, if_pos h]
  have HC := Lib.hid (cTable w)
  rw [hZ] at hz
  rw [hT] at HC
  clear hZ hT hi
  unfold maxLen at hs
  go_enter Try.func18, Try.ntmps18
  go_wp2_with fail
  refine HC.out.mono ?_; rintro e w1 ⟨rfl, hb1⟩
  have hnew : Hid ((w1.alloc (.cells Z 60)).heap[w1.heap.size]? = some (.cells Z 60 (0, 0))) := heap_alloc_new w1 _
  go_wp2_with (refine wpList_store_row rfl 60 (.tmp 5) (.tmp 8) rfl w1.heap.size T rfl rfl 60 Z hnew.out HS.out hzs.out hTo.out ?_)
  rw [setRow_last]
  have HW : Hid ((w1.alloc (.cells T 60)).heap[w1.heap.size]? = some (.cells T 60 (0, 0))) := heap_alloc_new w1 _
  have hB : Below w.heap.size w (w1.alloc (.cells T 60)) := hb1.alloc hb1.size _
  have HR := Lib.hid (fun k h => run_take (flip sum) s k h)
  have HL := Lib.hid (fun l => run_lt (flip sum) l (flip_lt sum))
  clear hnew hb1
  rw [not_u32 sum hsum]
  obtain ⟨X, hX⟩ : ∃ X, w1.alloc (.cells T 60) = X := ⟨_, rfl⟩
  rw [hX] at HW hB ⊢
  clear hX
  go_loop [6, 13] (fun c i => ∃ k : Nat, k ≤ s.size ∧ i = .int .i64 k ∧ c = .int .u32 (run (flip sum) (s.data.toList.take k))) (fun _ i => s.size - (intOf i).toNat)
  case atStart => exact ⟨0, Nat.zero_le _, rfl, rfl⟩
  case round =>
    obtain ⟨k, hk, rfl, rfl⟩ := hrel
    by_cases hlt : k < s.size
    · have hc := HL.out (s.data.toList.take k)
      have hn := HR.out k hlt
      obtain ⟨c, hcc⟩ : ∃ c, run (flip sum) (s.data.toList.take k) = c := ⟨_, rfl⟩
      rw [hcc] at hc hn
      have hb8 := s[k].toNat_lt
      have e1 := xor_idx c s[k].toNat hb8
      have hidx : c % 256 ^^^ s[k].toNat < 256 := Nat.xor_lt_two_pow (n := 8) (by omega) hb8
      have hcell : X.cell? ⟨w1.heap.size, c % 256 ^^^ s[k].toNat, none⟩ = some (.int .u32 (stepN 8 (c % 256 ^^^ s[k].toNat) : Int)) := cell_lit HW.out _ _ (HG.out _ hidx)
      have hx8 := stepN_lt 8 (c % 256 ^^^ s[k].toNat) (by omega)
      have e2 := xor_last (stepN 8 (c % 256 ^^^ s[k].toNat)) c hx8 hc
      rw [← hn] at e2
      have HN := Lib.hid hn
      rw [hcc]
      clear hn hcc
      go_wp2
      go_round
      case rel => exact ⟨k + 1, by omega, by go_num, rfl⟩
      case measure => simp [intOf]; omega
    · obtain rfl : k = s.size := by omega
      have hall : s.data.toList.take s.size = s.data.toList := List.take_of_length_le (by simp)
      have hc := HL.out (s.data.toList.take s.size)
      have e3 := not_u32 _ hc
      have HE : Hid ((CrcMath.flip (run (CrcMath.flip sum) (s.data.toList.take s.size)) : Nat) = add sum s.data.toList) := by show _ = _; rw [hall]; rfl
      clear hall hc
      go_wp2
      go_ret
      exact ⟨ret_i (by rw [HE.out]), hB⟩
theorem run_take' (c : Nat) (s : ByteArray) (k : Nat) (h : k < s.size) : run c (s.data.toList.take (k + 1)) = stepN 8 (run c (s.data.toList.take k) ^^^ s[k].toNat) := by
  have e : s.data.toList.take (k + 1) = s.data.toList.take k ++ [s[k]] := by rw [List.take_succ_eq_append_getElem (by simpa using h)]; rfl
  rw [e, run_append, run_cons, run_nil]
set_option maxHeartbeats 1600000 in
theorem cRefAdd (sum : Nat) (hsum : sum < 4294967296) (s : ByteArray) (hs : s.size ≤ maxLen) (w : World) : Calls Try.prog 19 #[.int .u32 sum, .string s] w fun e w' => e = .returned (.int .u32 (add sum s.data.toList)) ∧ w' = w := by
  unfold maxLen at hs
  have HR := Lib.hid (fun k h => run_take' (CrcMath.flip sum) s k h)
  have HL := Lib.hid (fun l => run_lt (CrcMath.flip sum) l (flip_lt sum))
  have HN := Lib.hid (not_u32 sum hsum)
  go_enter Try.func19, Try.ntmps19
  go_wp2
  rw [HN.out]
  go_loop [5, 6] (fun c i => ∃ k : Nat, k ≤ s.size ∧ i = .int .i64 k ∧ c = .int .u32 (run (CrcMath.flip sum) (s.data.toList.take k))) (fun _ i => s.size - (intOf i).toNat)
  case atStart => exact ⟨0, Nat.zero_le _, rfl, rfl⟩
  case round =>
    obtain ⟨k, hk, rfl, rfl⟩ := hrel
    by_cases hlt : k < s.size
    · have hc := HL.out (s.data.toList.take k)
      have hn := HR.out k hlt
      obtain ⟨c, hcc⟩ : ∃ c, run (CrcMath.flip sum) (s.data.toList.take k) = c := ⟨_, rfl⟩
      rw [hcc] at hc hn
      have hb8 := s[k].toNat_lt
      have e1 := xor_u32 c s[k].toNat hc (by omega)
      have hst := start_lt c s[k] hc
      have H2 := Lib.hid hn
      rw [hcc]
      clear hn hcc
      go_wp2
      obtain ⟨Y, hY⟩ : ∃ Y, c ^^^ s[k].toNat = Y := ⟨_, rfl⟩
      rw [hY] at e1 hst H2 ⊢
      have HY := Lib.hid hY
      clear hY
      go_loop [5, 7] (fun c j => ∃ m x : Nat, m ≤ 8 ∧ j = .int .i64 m ∧ c = .int .u32 x ∧ x < 4294967296 ∧ stepN (8 - m) x = stepN 8 Y) (fun _ j => 8 - (intOf j).toNat)
      case atStart => exact ⟨0, Y, by omega, rfl, rfl, hst, rfl⟩
      case round =>
        obtain ⟨m, x, hm, rfl, rfl, hx, hss⟩ := hrel
        have HS := Lib.hid hss
        clear hss
        by_cases hm8 : m < 8
        · have HN := Lib.hid (step8_one m x _ hm8 HS.out)
          by_cases hodd : x % 2 = 1
          · go_wp2
            go_round
            case rel => exact ⟨m + 1, step1 x, by omega, by go_num, by rw [step1_odd x hodd hx], step1_lt x hx, HN.out⟩
            case measure => simp [intOf]; omega
          · go_wp2
            go_round
            case rel => exact ⟨m + 1, step1 x, by omega, by go_num, by rw [step1_even x hodd], step1_lt x hx, HN.out⟩
            case measure => simp [intOf]; omega
        · obtain rfl : m = 8 := by omega
          go_wp2
          go_round
          case rel => exact ⟨k + 1, by omega, by go_num, by rw [H2.out, ← HS.out]; rfl⟩
          case measure => simp [intOf]; omega
    · obtain rfl : k = s.size := by omega
      have hall : s.data.toList.take s.size = s.data.toList := List.take_of_length_le (by simp)
      have hc := HL.out (s.data.toList.take s.size)
      have e3 := not_u32 _ hc
      have HE : Hid ((CrcMath.flip (run (CrcMath.flip sum) (s.data.toList.take s.size)) : Nat) = add sum s.data.toList) := by show _ = _; rw [hall]; rfl
      clear hall hc
      go_wp2
      go_ret
      exact ⟨ret_i (by rw [HE.out]), rfl⟩
theorem cSum (s : ByteArray) (hs : s.size ≤ maxLen) (w : World) : Calls Try.prog 16 #[.string s] w fun e w' => e = .returned (.int .u32 (add 0 s.data.toList)) ∧ Below w.heap.size w w' := by
  have H := Lib.hid (cAdd 0 (by decide) s hs)
  obtain ⟨R, hR⟩ : ∃ R, add 0 s.data.toList = R := ⟨_, rfl⟩
  rw [hR] at H ⊢
  clear hR
  go_enter Try.func16, Try.ntmps16
  go_wp2_with fail
  refine (H.out _).mono ?_; rintro e w1 ⟨rfl, hb⟩
  go_wp2_with fail
  go_ret
  exact ⟨rfl, hb⟩
theorem cRefSum (s : ByteArray) (hs : s.size ≤ maxLen) (w : World) : Calls Try.prog 17 #[.string s] w fun e w' => e = .returned (.int .u32 (add 0 s.data.toList)) ∧ w' = w := by
  have H := Lib.hid (cRefAdd 0 (by decide) s hs)
  obtain ⟨R, hR⟩ : ∃ R, add 0 s.data.toList = R := ⟨_, rfl⟩
  rw [hR] at H ⊢
  clear hR
  go_enter Try.func17, Try.ntmps17
  go_wp2_with fail
  refine (H.out _).mono ?_; rintro e w1 ⟨rfl, rfl⟩
  go_wp2_with fail
  go_ret
  exact ⟨rfl, rfl⟩
theorem sum_lit (s : ByteArray) (R : Nat) (hs : s.size ≤ maxLen) (h : add 0 s.data.toList = R) (w : World) : Calls Try.prog 16 #[.string s] w fun e w' => e = .returned (.int .u32 (R : Int)) ∧ Below w.heap.size w w' := by subst h; exact cSum s hs w
theorem add_lit (a : Nat) (ha : a < 4294967296) (s : ByteArray) (R : Nat) (hs : s.size ≤ maxLen) (h : add a s.data.toList = R) (w : World) : Calls Try.prog 18 #[.int .u32 a, .string s] w fun e w' => e = .returned (.int .u32 (R : Int)) ∧ Below w.heap.size w w' := by subst h; exact cAdd a ha s hs w
set_option maxHeartbeats 1600000 in
theorem awake05 (w : World) : Calls Try.prog 15 #[] w fun e w' => e = .returned (.bool true) ∧ Below w.heap.size w w' := by
  have h1 := Lib.hid (sum_lit ⟨#[49, 50, 51, 52, 53, 54, 55, 56, 57]⟩ 3421780262 (by decide) (by decide))
  have h2 := Lib.hid (sum_lit ⟨#[]⟩ 0 (by decide) (by decide))
  obtain ⟨A, hA⟩ : ∃ A, add 0 [49, 50, 51, 52] = A := ⟨_, rfl⟩
  have h3 := Lib.hid (sum_lit ⟨#[49, 50, 51, 52]⟩ A (by decide) hA)
  have h4 := Lib.hid (add_lit A (by rw [← hA]; decide) ⟨#[53, 54, 55, 56, 57]⟩ 3421780262 (by decide) (by rw [← hA]; decide))
  clear hA
  go_enter Try.func15, Try.ntmps15
  go_wp2_with fail
  refine (h1.out _).mono ?_; rintro e w1 ⟨rfl, hb1⟩
  go_wp2_with fail
  refine (h2.out _).mono ?_; rintro e w2 ⟨rfl, hb2⟩
  have c2 := hb1.trans (hb2.mono hb1.size); clear hb1 hb2
  go_wp2_with fail
  refine (h3.out _).mono ?_; rintro e w3 ⟨rfl, hb3⟩
  have c3 := c2.trans (hb3.mono c2.size); clear c2 hb3
  go_wp2_with fail
  refine (h4.out _).mono ?_; rintro e w4 ⟨rfl, hb4⟩
  have c4 := c3.trans (hb4.mono c3.size); clear c3 hb4
  go_wp2_with fail
  go_ret
  exact ⟨rfl, c4⟩
end Go.Proofs.Ytfemcehglolnjaa
