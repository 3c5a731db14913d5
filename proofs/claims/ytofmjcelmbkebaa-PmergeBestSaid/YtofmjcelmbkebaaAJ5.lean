/- Layer 7: PmergeFalls. -/
import Derived.Test.YtofmjcelmbkebaaAJ4
namespace Go.Proofs.Ytofmjcelmbkebaa
open Go.ChangeShapes Go.WideShapes Go.ChangeAt Go.RowKit
set_option linter.unusedVariables false
set_option linter.unusedSimpArgs false
set_option maxRecDepth 100000
open KraftMath Pm
set_option maxHeartbeats 6400000 in
theorem falls_walk (a : Option Addr) (c n U m : Nat) (l : List Int) (w : World) (hl : l.length = n) (hi : IsInts w a l) (hn : n ≤ 300) (hU : U < 256) (hm : U % 15 + 1 = m) :
    Calls Try.prog 6 #[.slice a n c, .int .u8 U] w fun e w' => e = .returned (.bool true) ∧ Below w.heap.size w w' := by
  have q1 : ¬ (300 : Int) < n := by omega
  have q1d : decide ((300 : Int) < n) = false := decide_eq_false q1
  have q1n : decide (300 < n) = false := decide_eq_false (by omega)
  have em : (U : Int) % 15 + 1 = m := by omega
  have hm16 : m < 16 := by omega
  have hm1 : 1 ≤ m := by omega
  have CK := Lib.hid (fun W h => dChk a c n l m W hl h)
  have HI := Lib.hid hi
  have CA := Lib.hid (fun W => awake07 W)
  have emm : (m : Int) + 1 = ((m + 1 : Nat) : Int) := by omega
  obtain ⟨M1, hM1⟩ : ∃ M1, m + 1 = M1 := ⟨_, rfl⟩
  rw [hM1] at emm
  by_cases h0 : chkP l m = 0
  · have h01 : chkP l ((M1 : Nat) : Int) = 0 := by rw [← hM1]; exact chk_more h0 hm16
    have hle : costL l (lensV l M1) ≤ costL l (lensV l m) := lens_least l M1 h01 _ (by rw [← hM1]; exact may_more (lens_may l m h0) hm16)
    have hbd := fun i => lensV_bd l m h0 i
    have hfa := fun i k => lens_falls l m h0 i k
    have hRl : (lensV l m).length = n := by rw [lensV_len, hl]
    have hSl : (lensV l M1).length = n := by rw [lensV_len, hl]
    have hln : l.length ≤ 1024 ∧ ∀ i, 0 ≤ l.getD i 0 ∧ l.getD i 0 ≤ 4294967295 := by
      obtain ⟨_, _, _, _, g1, g2, _⟩ := chk_ok h0
      exact ⟨g1, g2⟩
    have CL := Lib.hid (fun W h => pLenOk a c n l m W hl h h0 _ rfl)
    have CL1 := Lib.hid (fun W h => pLenOk a c n l M1 W hl h h01 _ rfl)
    rw [Int.toNat_natCast] at CL CL1
    obtain ⟨R, hR⟩ : ∃ R, lensV l m = R := ⟨_, rfl⟩
    obtain ⟨S, hS⟩ : ∃ S, lensV l M1 = S := ⟨_, rfl⟩
    rw [hR] at hle hbd hfa hRl CL
    rw [hS] at hle hSl CL1
    have CP := Lib.hid (fun b d W h k => pCost a b c d n n l R W hl h hRl k (by omega))
    have CP1 := Lib.hid (fun b d W h k => pCost a b c d n n l S W hl h hSl k (by omega))
    obtain ⟨C, hC⟩ : ∃ C, costL l R = C := ⟨_, rfl⟩
    obtain ⟨C1, hC1⟩ : ∃ C, costL l S = C := ⟨_, rfl⟩
    rw [hC] at hle CP
    rw [hC1] at hle CP1
    rw [h0] at CK
    have HL := Lib.hid hl; have HRL := Lib.hid hRl; have HSL := Lib.hid hSl; have HFA := Lib.hid hfa
    have HLE := Lib.hid hle
    have enn : ((n : Int) != (n : Int)) = false := by simp
    clear hi hl h0 h01 hle hbd hfa hRl hSl hln hR hS hC hC1 hm
    go_enter Try.func6, Try.ntmps6
    go_wp2_with fail
    clear em
    refine (CK.out w HI.out).mono ?_; rintro e w2 ⟨rfl, hw⟩
    obtain rfl : w = w2 := hw.symm
    go_wp2_with fail
    refine (CL.out w HI.out).mono ?_; rintro e w1 ⟨u1, rfl, h1, hb1⟩
    obtain ⟨a1, c1, rfl, i1⟩ := h1.isL (by rw [HRL.out]; omega)
    rw [HRL.out]
    have I1 := Lib.hid i1
    have HI1 := Lib.hid (HI.out.kept hb1)
    have HB1 := Lib.hid hb1
    clear h1 hb1 i1 CL CK
    go_wp2_with fail
    refine (CL1.out w1 HI1.out).mono ?_; rintro e w3 ⟨u3, rfl, h3, hb3⟩
    obtain ⟨a3, c3, rfl, i3⟩ := h3.isL (by rw [HSL.out]; omega)
    rw [HSL.out]
    have I3 := Lib.hid i3
    have I1 := Lib.hid (I1.out.kept hb3)
    have HI3 := Lib.hid (HI1.out.kept hb3)
    have HB3 := Lib.hid (HB1.out.trans (hb3.mono HB1.out.size))
    clear h3 hb3 i3 CL1 HB1 HI1 HI emm
    go_wp2_with fail
    go_loopw [10] (fun iv wr => ∃ i : Nat, i ≤ n ∧ iv = .int .i64 i ∧ ∃ q, wr = w3.drewN q) (fun iv _ => n - (intOf iv).toNat)
    case atStart => exact ⟨0, Nat.zero_le _, by go_num, 0, rfl⟩
    case round =>
      obtain ⟨i, hi, rfl, q, rfl⟩ := hrel
      by_cases hlt : i < n
      · have hii : (i : Int) < n := by omega
        obtain ⟨x, rfl, hxb, hc⟩ := HI3.out.at i (by rw [HL.out]; omega)
        have cx := hc i (by rw [HL.out]; omega)
        obtain ⟨y, rfl, hyb, hcy⟩ := I1.out.at i (by rw [HRL.out]; omega)
        have cy := hcy i (by rw [HRL.out]; omega)
        have HCX := Lib.hid hc; have HCY := Lib.hid hcy
        obtain ⟨X, hX⟩ : ∃ X, l.getD i 0 = X := ⟨_, rfl⟩
        obtain ⟨Y, hY⟩ : ∃ Y, R.getD i 0 = Y := ⟨_, rfl⟩
        rw [hX] at cx
        rw [hY] at cy
        have HX := Lib.hid hX; have HY := Lib.hid hY
        clear hc hcy hX hY
        go_wp2_with fail
        go_loopw [11] (fun kv wr => ∃ k : Nat, k ≤ n ∧ kv = .int .i64 k ∧ ∃ q, wr = w3.drewN q) (fun kv _ => n - (intOf kv).toNat)
        case atStart => exact ⟨0, Nat.zero_le _, by go_num, q, rfl⟩
        case round =>
          obtain ⟨k, hk, rfl, q2, rfl⟩ := hrel
          by_cases hlk : k < n
          · have hki : (k : Int) < n := by omega
            have cx2 := HCX.out k (by rw [HL.out]; omega)
            have cy2 := HCY.out k (by rw [HRL.out]; omega)
            have HF2 := HFA.out i k
            rw [HX.out, HY.out] at HF2
            obtain ⟨X2, hX2⟩ : ∃ X, l.getD k 0 = X := ⟨_, rfl⟩
            obtain ⟨Y2, hY2⟩ : ∃ Y, R.getD k 0 = Y := ⟨_, rfl⟩
            rw [hX2] at cx2 HF2
            rw [hY2] at cy2 HF2
            have HF3 := Lib.hid HF2
            clear hX2 hY2 HF2
            by_cases g1 : X2 < X
            · have d1 : decide (X2 < X) = true := decide_eq_true g1
              by_cases g2 : 0 < X2
              · have d2 : decide (0 < X2) = true := decide_eq_true g2
                have d3 : decide (Y2 < Y) = false := decide_eq_false (by have := HF3.out g1 g2; omega)
                go_wp2_with fail
                go_quiet (fail)
                go_wp2_with fail
                go_roundw
                case rel => exact ⟨k + 1, by omega, by go_num, _, rfl⟩
                case measure => simp [intOf] <;> omega
              · have d2 : decide (0 < X2) = false := decide_eq_false g2
                go_wp2_with fail
                go_quiet (fail)
                go_wp2_with fail
                go_roundw
                case rel => exact ⟨k + 1, by omega, by go_num, _, rfl⟩
                case measure => simp [intOf] <;> omega
            · have d1 : decide (X2 < X) = false := decide_eq_false g1
              go_wp2_with fail
              go_quiet (fail)
              go_wp2_with fail
              go_roundw
              case rel => exact ⟨k + 1, by omega, by go_num, _, rfl⟩
              case measure => simp [intOf] <;> omega
          · have hki : ¬ (k : Int) < n := by omega
            go_wp2_with fail
            go_roundw
            case rel => exact ⟨i + 1, by omega, by go_num, _, rfl⟩
            case measure => simp [intOf] <;> omega
      · have hii : ¬ (i : Int) < n := by omega
        have dle : decide (C1 ≤ C) = true := decide_eq_true HLE.out
        have HBq := Lib.hid (below_dn HB3.out q)
        have I1q := Lib.hid (I1.out.drewN q)
        have I3q := Lib.hid (I3.out.drewN q)
        have HIq := Lib.hid (HI3.out.drewN q)
        clear HB3 I1 I3 HI3
        generalize w3.drewN q = w4 at *
        go_wp2_with fail
        refine (CP1.out _ _ _ HIq.out I3q.out).mono ?_; rintro e w5 ⟨rfl, k5, rfl⟩
        go_wp2_with fail
        refine (CP.out _ _ _ (HIq.out.drewN k5) (I1q.out.drewN k5)).mono ?_; rintro e w6 ⟨rfl, k6, rfl⟩
        have HB6 := Lib.hid (below_dn HBq.out (k5 + k6))
        go_wp2_with fail
        refine (CA.out _).mono ?_; rintro e w7 ⟨rfl, hb7⟩
        have HB7 := Lib.hid (HB6.out.trans (hb7.mono HB6.out.size))
        clear hb7
        go_wp2_with fail
        go_ret
        exact ⟨rfl, HB7.out⟩
  · obtain ⟨E, hE⟩ : ∃ E, chkP l m = E := ⟨_, rfl⟩
    rw [hE] at CK h0
    have e1 : (E != 0) = true := by rw [bne_iff_ne]; exact h0
    clear hi hl h0 hE hm emm
    go_enter Try.func6, Try.ntmps6
    go_wp2_with fail
    refine (CK.out w HI.out).mono ?_; rintro e w2 ⟨rfl, hw⟩
    obtain rfl : w = w2 := hw.symm
    go_wp2_with fail
    refine (CA.out _).mono ?_; rintro e w7 ⟨rfl, hb7⟩
    have HB7 := Lib.hid hb7
    clear hb7
    go_wp2_with fail
    go_ret
    exact ⟨rfl, HB7.out⟩
end Go.Proofs.Ytofmjcelmbkebaa
