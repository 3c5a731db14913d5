/- Layer 48: the document's Back. -/
import Derived.Test.YtpkidedepcnoaaaY11
namespace Go.Proofs.Ytpkidedepcnoaaa
open Go.ChangeShapes Go.WideShapes Go.ChangeAt Go.RowKit
set_option linter.unusedVariables false
set_option linter.unusedSimpArgs false
set_option maxRecDepth 100000
theorem conv_byte (X : World) (k : Nat) (Y : UInt8) (hX : X.cell? ⟨k, 0, none⟩ = some (.int .u8 (Y.toNat : Int))) : (convert 67 9 (.slice (some ⟨k, 0, none⟩) 1 1)).run Try.prog X = .ok (.string (sM [Y])) X := by
  have h := run_convert_bytes_back (P := Try.prog) X 67 9 5 ⟨k, 0, none⟩ 1 [Y] Try.underlying67 Try.underlying5 Try.underlying9 (fun j hj => by
    have hj0 : j = 0 := by simpa using hj
    subst hj0
    have e : (⟨k, 0, none⟩ : Addr).add 0 = ⟨k, 0, none⟩ := by simp [Addr.add]
    rw [e, hX]
    simp)
  simpa [sM] using h
theorem cat_byte (X : World) (Y : UInt8) (l : List UInt8) (hl : l.length ≤ 100000) : (Op.stringOp .add (sM [Y]) (sM l)).run Try.prog X = .ok (.string (sM (Y :: l))) X := by
  have h := run_string_add_sum (P := Try.prog) X ⟨[Y].toArray⟩ ⟨l.toArray⟩ (by simp [ByteArray.size]; omega)
  rw [ByteArray.mk_append_mk] at h
  simpa [sM] using h
set_option maxHeartbeats 3200000 in
theorem dBackB (T : List UInt8) (at_ : Nat) (w : World) (hT : T.length ≤ 1000) (ha : at_ ≤ T.length) (ha1 : 1 ≤ at_) (R : Option (List UInt8)) (hR : bk T at_ T.length 0 [] = R) :
    Calls Try.prog 32 #[.string (sM T), .int .i64 at_] w fun e w' => e = .returned (resB R) ∧ Below w.heap.size w w' := by
  obtain ⟨n, hn⟩ : ∃ n, T.length = n := ⟨_, rfl⟩
  have hS : (sM T).size = n := by rw [sM_size, hn]
  have CS := Lib.hid (fun r W (h1 : r ≤ T.length) (h2 : r ≠ at_) => dSign T at_ r W (by omega) h1 ha h2)
  have CB := Lib.hid (fun r W (h1 : r ≤ T.length) (h2 : r ≠ at_) => dBefore T at_ r W (by omega) h1 ha h2)
  have CT := Lib.hid (fun i W (hi : i ≤ T.length) => dTurnB (tol T at_ i) W (by rw [tol_len]; omega))
  have HR := Lib.hid hR
  have HN := Lib.hid hn
  have HA := Lib.hid ha
  have HAL := Lib.hid (fun r (hr : r ≤ T.length) (hne : r ≠ at_) => ahd_le T at_ r hr ha hne)
  rw [hn] at hT ha
  have d1 : decide ((at_ : Int) < 0) = false := decide_eq_false (by omega)
  have d2 : decide ((n : Int) < at_) = false := decide_eq_false (by omega)
  have d3 : decide (n < at_) = false := decide_eq_false (by omega)
  have d4 : ((at_ : Int) == 0) = false := by rw [beq_eq_false_iff_ne]; omega
  clear hn hR
  go_enter Try.func32, Try.ntmps32
  go_wp2_with fail
  clear d1 d2 d3 d4
  go_loopw [6, 7, 8] (fun ov rv iv wr => ∃ (i row : Nat) (acc : List UInt8), i ≤ n ∧ row ≤ n ∧ iv = .int .i64 i ∧ rv = .int .i64 row ∧ ov = .string (sM acc) ∧ Hid (wlk T at_ i = row ∧ tol T at_ i = acc ∧ ∀ j, j < i → wlk T at_ j ≠ at_) ∧ Hid (Below w.heap.size w wr)) (fun _ _ iv _ => n - (intOf iv).toNat)
  case atStart => exact ⟨0, 0, [], Nat.zero_le _, Nat.zero_le _, rfl, rfl, rfl, Lib.hid ⟨rfl, rfl, fun j hj => by omega⟩, Lib.hid (Below.refl _ _)⟩
  case round =>
    obtain ⟨i, row, acc, hi, hrow, rfl, rfl, rfl, HW, HB⟩ := hrel
    by_cases hin : i < n
    · have hii : (i : Int) < n := by omega
      by_cases he : row = at_
      · have e1 : ((row : Int) == (at_ : Int)) = true := by rw [beq_iff_eq]; omega
        have HE := Lib.hid (show resB R = .tuple #[.string ⟨#[]⟩, .int .i64 4] by
          have := bk_none T at_ i (by rw [HW.out.1, he]) n 0 (Nat.zero_le _) (by omega)
          have h2 := HR.out
          rw [HN.out] at h2
          rw [wlk, tol, h2] at this
          rw [this]; rfl)
        have CT1 := Lib.hid (fun W => CT.out i W (by rw [HN.out]; exact hi))
        rw [HW.out.2.1] at CT1
        clear he
        go_wp2_with fail
        refine (CT1.out _).mono ?_; rintro e w5 ⟨a, b, rfl, hs, hbl, h0, hb5⟩
        have HB := Lib.hid (HB.out.trans (hb5.mono HB.out.size))
        have hne : tB acc a b ≠ T := fun h => by
          have h1 := tB_len acc a b
          rw [h, HN.out, ← HW.out.2.1, tol_len] at h1
          omega
        have hne2 : ¬ (sM (tB acc a b)).toList = (sM T).toList := by rw [sM_toList, sM_toList]; exact hne
        clear hs hbl h0 hb5 CT1 hne
        go_wp2_with fail
        go_ret2
        exact ⟨by rw [HE.out]; rfl, HB.out⟩
      · have e1 : ((row : Int) == (at_ : Int)) = false := by rw [beq_eq_false_iff_ne]; omega
        have CS1 := Lib.hid (fun W => CS.out row W (by rw [HN.out]; exact hrow) he)
        have CB1 := Lib.hid (fun W => CB.out row W (by rw [HN.out]; exact hrow) he)
        have hal := HAL.out row (by rw [HN.out]; exact hrow) he
        rw [HN.out] at hal
        have HW2 : wlk T at_ (i + 1) = ahd T at_ row ∧ tol T at_ (i + 1) = T.getD (sOfB at_ row) 0 :: acc ∧ ∀ j, j < i + 1 → wlk T at_ j ≠ at_ := ⟨by rw [wlk, HW.out.1], by rw [tol, HW.out.1, HW.out.2.1], fun j hj => by
          by_cases e : j = i
          · subst e; rw [HW.out.1]; exact he
          · exact HW.out.2.2 j (by omega)⟩
        have hbb : (byteAt T (sOfB at_ row) : Nat) = (T.getD (sOfB at_ row) 0).toNat := rfl
        rw [hbb] at CS1
        obtain ⟨A, hA⟩ : ∃ A, ahd T at_ row = A := ⟨_, rfl⟩
        rw [hA] at CB1 hal HW2
        obtain ⟨Y, hY⟩ : ∃ Y, T.getD (sOfB at_ row) 0 = Y := ⟨_, rfl⟩
        rw [hY] at CS1 HW2
        have HW3 := Lib.hid HW2
        have hcat := fun X => cat_byte X Y acc (by rw [← HW.out.2.1, tol_len]; omega)
        clear HW2 hA hY hbb he
        go_wp2_with fail
        refine (CS1.out _).mono ?_; rintro e w5 ⟨rfl, kq, rfl⟩
        have HB := Lib.hid (below_dn HB.out kq)
        generalize wr.drewN kq = w5 at *
        have hcv := fun X => conv_byte X w5.heap.size Y
        clear CS1
        go_wp2_with fail
        refine (CB1.out _).mono ?_; rintro e w6 ⟨rfl, hb6⟩
        have HB := Lib.hid ((HB.out.alloc HB.out.size (.cells #[.int .u8 (Y.toNat : Int)] 5)).trans (hb6.mono (by have := HB.out.size; simp; omega)))
        clear hb6 CB1
        go_wp2_with fail
        go_roundw
        case rel => exact ⟨i + 1, A, Y :: acc, by omega, by omega, by go_num, rfl, rfl, HW3, HB⟩
        case measure => simp [intOf] <;> omega
    · obtain rfl : i = n := by omega
      have hii : ¬ (i : Int) < i := by omega
      have HE := Lib.hid (show resB R = .tuple #[.string (sM acc), .int .i64 0] by
        have := bk_some T at_ i 0 (fun j h1 h2 => HW.out.2.2 j (by omega))
        have h2 := HR.out
        rw [HN.out] at h2
        rw [wlk, tol, h2, Nat.zero_add, HW.out.2.1] at this
        rw [this]; rfl)
      have CT1 := Lib.hid (fun W => CT.out i W (by rw [HN.out]; exact hi))
      rw [HW.out.2.1] at CT1
      have hbt := back_turned HA.out (fun j hj => HW.out.2.2 j (by rw [← HN.out]; exact hj))
      rw [HN.out, HW.out.2.1] at hbt
      obtain ⟨a', hs', h0', hB'⟩ := hbt
      have hal : acc.length = i := by rw [← HW.out.2.1, tol_len]
      go_wp2_with fail
      refine (CT1.out _).mono ?_; rintro e w5 ⟨a, b, rfl, hs, hbl, h0, hb5⟩
      have HB := Lib.hid (HB.out.trans (hb5.mono HB.out.size))
      obtain rfl := hs.unique hs'
      rw [hal] at h0 hbl
      have hba : b = at_ := Pr_inj hs b at_ (by rw [hal]; exact hbl) (by rw [hal]; exact ha) (by rw [hal, h0, h0'])
      subst hba
      rw [hB']
      clear hs hs' hbl h0 h0' hb5 CT1 hB' hal
      go_wp2_with fail
      go_ret2
      exact ⟨by rw [HE.out]; rfl, HB.out⟩
end Go.Proofs.Ytpkidedepcnoaaa
