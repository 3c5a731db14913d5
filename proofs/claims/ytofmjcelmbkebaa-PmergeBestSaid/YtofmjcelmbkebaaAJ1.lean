/- Layer 7: what lengths cost, by both; whether they may be. -/
import Derived.Test.YtofmjcelmbkebaaAI9
namespace Go.Proofs.Ytofmjcelmbkebaa
open Go.ChangeShapes Go.WideShapes Go.ChangeAt Go.RowKit
set_option linter.unusedVariables false
set_option linter.unusedSimpArgs false
set_option maxRecDepth 100000
open KraftMath Pm
theorem cst_bd (x y : Int) : 0 ≤ cst x y ∧ cst x y ≤ 68719476720 := by
  unfold cst
  split
  · rename_i h
    obtain ⟨a, b, c, d⟩ := h
    have h1 : 0 ≤ x * y := Int.mul_nonneg a c
    have h2 : x * y ≤ 4294967295 * 16 := Int.le_trans (Int.mul_le_mul_of_nonneg_right b c) (Int.mul_le_mul_of_nonneg_left d (by decide))
    omega
  · omega
theorem costS_bd (l o : List Int) : ∀ k : Nat, 0 ≤ sumN (fun i => cst (l.getD i 0) (o.getD i 0)) k ∧ sumN (fun i => cst (l.getD i 0) (o.getD i 0)) k ≤ 68719476720 * (k : Int)
  | 0 => by simp [sumN]
  | k + 1 => by
    have h := costS_bd l o k
    have h2 := cst_bd (l.getD k 0) (o.getD k 0)
    simp only [sumN]
    omega
set_option maxHeartbeats 3200000 in
theorem pCost (a b : Option Addr) (c d n m : Nat) (l o : List Int) (w : World) (hl : l.length = n) (hi : IsInts w a l) (hm : o.length = m) (hj : IsInts w b o) (hn : n ≤ 10000) :
    Calls Try.prog 13 #[.slice a n c, .slice b m d] w fun e w' => e = .returned (.int .i64 (costL l o)) ∧ ∃ k, w' = w.drewN k := by
  have hm46 : (m : Int) ≤ 70368744177664 := by have := hj.1; omega
  have HI := Lib.hid hi; have HJ := Lib.hid hj; have HL := Lib.hid hl; have HM := Lib.hid hm
  obtain ⟨K, hK⟩ : ∃ K, min n m = K := ⟨_, rfl⟩
  have HR := Lib.hid (show costL l o = sumN (fun i => cst (l.getD i 0) (o.getD i 0)) K by rw [costL_all, hl, hm, hK])
  obtain ⟨R, hR⟩ : ∃ R, costL l o = R := ⟨_, rfl⟩
  rw [hR] at HR ⊢
  have hKn : K ≤ n := by omega
  have hKm : K ≤ m := by omega
  have HK := Lib.hid hK
  have HBD := Lib.hid (costS_bd l o)
  have m1 : (if (m : Int) < n then (m : Int) else (n : Int)) = K := by split <;> omega
  have m2 : (if m < n then (m : Int) else (n : Int)) = K := by split <;> omega
  have m3 : min (n : Int) (m : Int) = K := by omega
  have m4 : min n m = K := hK
  clear hi hj hl hm hR hK
  go_enter Try.func13, Try.ntmps13
  go_wp2_with fail
  clear m1 m2 m3 m4
  go_loopw [5, 12] (fun sv iv wr => ∃ (i : Nat) (s : Int), i ≤ K ∧ iv = .int .i64 i ∧ sv = .int .i64 s ∧ Hid (s = sumN (fun i => cst (l.getD i 0) (o.getD i 0)) i) ∧ ∃ q, wr = w.drewN q) (fun _ iv _ => K - (intOf iv).toNat)
  case atStart => exact ⟨0, 0, Nat.zero_le _, by go_num, by go_num, Lib.hid rfl, 0, rfl⟩
  case round =>
    obtain ⟨i, s, hiK, rfl, rfl, HS, q, rfl⟩ := hrel
    have hsb := HBD.out i
    rw [← HS.out] at hsb
    obtain ⟨sb1, sb2⟩ := hsb
    by_cases hlt : i < K
    · have hii : (i : Int) < K := by omega
      obtain ⟨x, rfl, hxb, hc⟩ := HI.out.at i (by rw [HL.out]; omega)
      have cx := hc i (by rw [HL.out]; omega)
      obtain ⟨y, rfl, hyb, hcy⟩ := HJ.out.at i (by rw [HM.out]; omega)
      have cy := hcy i (by rw [HM.out]; omega)
      have hin : (i : Int) < n := by omega
      have him : (i : Int) < m := by omega
      have HS2 := Lib.hid (show s + cst (l.getD i 0) (o.getD i 0) = sumN (fun i => cst (l.getD i 0) (o.getD i 0)) (i + 1) by rw [sumN, HS.out])
      obtain ⟨u, hu⟩ : ∃ u, l.getD i 0 = u := ⟨_, rfl⟩
      obtain ⟨v, hv⟩ : ∃ v, o.getD i 0 = v := ⟨_, rfl⟩
      rw [hu] at cx HS2
      rw [hv] at cy HS2
      clear hc hcy hu hv
      by_cases g1 : ¬ (0 ≤ u)
      · have dg1 : decide (0 ≤ u) = false := decide_eq_false g1
        have HZ := Lib.hid (show cst u v = 0 from by unfold cst; rw [if_neg (by omega)])
        rw [HZ.out, Int.add_zero] at HS2
        go_wp2_with fail
        go_roundw
        case rel => exact ⟨i + 1, s, by omega, by go_num, by go_num, HS2, _, rfl⟩
        case measure => simp [intOf] <;> omega
      have g1 : 0 ≤ u := Classical.not_not.1 g1
      have dg1 : decide (0 ≤ u) = true := decide_eq_true g1
      by_cases g2 : ¬ (u ≤ 4294967295)
      · have dg2 : decide (u ≤ 4294967295) = false := decide_eq_false g2
        have HZ := Lib.hid (show cst u v = 0 from by unfold cst; rw [if_neg (by omega)])
        rw [HZ.out, Int.add_zero] at HS2
        go_wp2_with fail
        go_roundw
        case rel => exact ⟨i + 1, s, by omega, by go_num, by go_num, HS2, _, rfl⟩
        case measure => simp [intOf] <;> omega
      have g2 : u ≤ 4294967295 := Classical.not_not.1 g2
      have dg2 : decide (u ≤ 4294967295) = true := decide_eq_true g2
      by_cases g3 : ¬ (0 ≤ v)
      · have dg3 : decide (0 ≤ v) = false := decide_eq_false g3
        have HZ := Lib.hid (show cst u v = 0 from by unfold cst; rw [if_neg (by omega)])
        rw [HZ.out, Int.add_zero] at HS2
        go_wp2_with fail
        go_roundw
        case rel => exact ⟨i + 1, s, by omega, by go_num, by go_num, HS2, _, rfl⟩
        case measure => simp [intOf] <;> omega
      have g3 : 0 ≤ v := Classical.not_not.1 g3
      have dg3 : decide (0 ≤ v) = true := decide_eq_true g3
      by_cases g4 : ¬ (v ≤ 16)
      · have dg4 : decide (v ≤ 16) = false := decide_eq_false g4
        have HZ := Lib.hid (show cst u v = 0 from by unfold cst; rw [if_neg (by omega)])
        rw [HZ.out, Int.add_zero] at HS2
        go_wp2_with fail
        go_roundw
        case rel => exact ⟨i + 1, s, by omega, by go_num, by go_num, HS2, _, rfl⟩
        case measure => simp [intOf] <;> omega
      have g4 : v ≤ 16 := Classical.not_not.1 g4
      have dg4 : decide (v ≤ 16) = true := decide_eq_true g4
      have hp0 : 0 ≤ u * v := Int.mul_nonneg g1 g3
      have hp1 : u * v ≤ 68719476720 := by
        have := (cst_bd u v).2
        unfold cst at this
        rwa [if_pos ⟨g1, g2, g3, g4⟩] at this
      have HZ := Lib.hid (show cst u v = u * v from by unfold cst; rw [if_pos ⟨g1, g2, g3, g4⟩])
      rw [HZ.out] at HS2
      obtain ⟨P, hP⟩ : ∃ P, u * v = P := ⟨_, rfl⟩
      rw [hP] at hp0 hp1 HS2
      have wP : IntKind.i64.wrap P = P := IntWalk.i64_in _ (by omega)
      have wS : IntKind.i64.wrap (s + P) = s + P := IntWalk.i64_in _ (by omega)
      go_wp2_with fail
      go_region
      go_wp2_with fail
      go_roundw
      case rel => exact ⟨i + 1, s + P, by omega, by go_num, by go_num, HS2, _, rfl⟩
      case measure => simp [intOf] <;> omega
    · obtain rfl : K = i := by omega
      have hii : ¬ (K : Int) < K := by omega
      have HF := Lib.hid (show R = s by rw [HR.out, HS.out])
      go_wp2_with fail
      go_ret
      exact ⟨ret_i HF.out.symm, _, rfl⟩
set_option maxHeartbeats 3200000 in
theorem dCost (a b : Option Addr) (c d n m : Nat) (l o : List Int) (w : World) (hl : l.length = n) (hi : IsInts w a l) (hm : o.length = m) (hj : IsInts w b o) (hn : n ≤ 10000) :
    Calls Try.prog 14 #[.slice a n c, .slice b m d] w fun e w' => e = .returned (.int .i64 (costL l o)) ∧ ∃ k, w' = w.drewN k := by
  have hm46 : (m : Int) ≤ 70368744177664 := by have := hj.1; omega
  have HI := Lib.hid hi; have HJ := Lib.hid hj; have HL := Lib.hid hl; have HM := Lib.hid hm
  obtain ⟨K, hK⟩ : ∃ K, min n m = K := ⟨_, rfl⟩
  have HR := Lib.hid (show costL l o = sumN (fun i => cst (l.getD i 0) (o.getD i 0)) K by rw [costL_all, hl, hm, hK])
  obtain ⟨R, hR⟩ : ∃ R, costL l o = R := ⟨_, rfl⟩
  rw [hR] at HR ⊢
  have hKn : K ≤ n := by omega
  have hKm : K ≤ m := by omega
  have HK := Lib.hid hK
  have HBD := Lib.hid (costS_bd l o)
  clear hi hj hl hm hR hK
  go_enter Try.func14, Try.ntmps14
  go_wp2_with fail
  go_loopw [5, 6] (fun sv iv wr => ∃ (i : Nat) (s : Int), i ≤ K ∧ iv = .int .i64 i ∧ sv = .int .i64 s ∧ Hid (s = sumN (fun i => cst (l.getD i 0) (o.getD i 0)) i) ∧ ∃ q, wr = w.drewN q) (fun _ iv _ => K - (intOf iv).toNat)
  case atStart => exact ⟨0, 0, Nat.zero_le _, by go_num, by go_num, Lib.hid rfl, 0, rfl⟩
  case round =>
    obtain ⟨i, s, hiK, rfl, rfl, HS, q, rfl⟩ := hrel
    have hsb := HBD.out i
    rw [← HS.out] at hsb
    obtain ⟨sb1, sb2⟩ := hsb
    by_cases hlt : i < K
    · have hii : (i : Int) < K := by omega
      have hin2 : (i : Int) < n := by omega
      have him2 : (i : Int) < m := by omega
      obtain ⟨x, rfl, hxb, hc⟩ := HI.out.at i (by rw [HL.out]; omega)
      have cx := hc i (by rw [HL.out]; omega)
      obtain ⟨y, rfl, hyb, hcy⟩ := HJ.out.at i (by rw [HM.out]; omega)
      have cy := hcy i (by rw [HM.out]; omega)
      have hin : (i : Int) < n := by omega
      have him : (i : Int) < m := by omega
      have HS2 := Lib.hid (show s + cst (l.getD i 0) (o.getD i 0) = sumN (fun i => cst (l.getD i 0) (o.getD i 0)) (i + 1) by rw [sumN, HS.out])
      obtain ⟨u, hu⟩ : ∃ u, l.getD i 0 = u := ⟨_, rfl⟩
      obtain ⟨v, hv⟩ : ∃ v, o.getD i 0 = v := ⟨_, rfl⟩
      rw [hu] at cx HS2
      rw [hv] at cy HS2
      clear hc hcy hu hv
      by_cases g1 : ¬ (0 ≤ u)
      · have dg1 : decide (0 ≤ u) = false := decide_eq_false g1
        have HZ := Lib.hid (show cst u v = 0 from by unfold cst; rw [if_neg (by omega)])
        rw [HZ.out, Int.add_zero] at HS2
        go_wp2_with fail
        go_roundw
        case rel => exact ⟨i + 1, s, by omega, by go_num, by go_num, HS2, _, rfl⟩
        case measure => simp [intOf] <;> omega
      have g1 : 0 ≤ u := Classical.not_not.1 g1
      have dg1 : decide (0 ≤ u) = true := decide_eq_true g1
      by_cases g2 : ¬ (u ≤ 4294967295)
      · have dg2 : decide (u ≤ 4294967295) = false := decide_eq_false g2
        have HZ := Lib.hid (show cst u v = 0 from by unfold cst; rw [if_neg (by omega)])
        rw [HZ.out, Int.add_zero] at HS2
        go_wp2_with fail
        go_roundw
        case rel => exact ⟨i + 1, s, by omega, by go_num, by go_num, HS2, _, rfl⟩
        case measure => simp [intOf] <;> omega
      have g2 : u ≤ 4294967295 := Classical.not_not.1 g2
      have dg2 : decide (u ≤ 4294967295) = true := decide_eq_true g2
      by_cases g3 : ¬ (0 ≤ v)
      · have dg3 : decide (0 ≤ v) = false := decide_eq_false g3
        have HZ := Lib.hid (show cst u v = 0 from by unfold cst; rw [if_neg (by omega)])
        rw [HZ.out, Int.add_zero] at HS2
        go_wp2_with fail
        go_roundw
        case rel => exact ⟨i + 1, s, by omega, by go_num, by go_num, HS2, _, rfl⟩
        case measure => simp [intOf] <;> omega
      have g3 : 0 ≤ v := Classical.not_not.1 g3
      have dg3 : decide (0 ≤ v) = true := decide_eq_true g3
      by_cases g4 : ¬ (v ≤ 16)
      · have dg4 : decide (v ≤ 16) = false := decide_eq_false g4
        have HZ := Lib.hid (show cst u v = 0 from by unfold cst; rw [if_neg (by omega)])
        rw [HZ.out, Int.add_zero] at HS2
        go_wp2_with fail
        go_roundw
        case rel => exact ⟨i + 1, s, by omega, by go_num, by go_num, HS2, _, rfl⟩
        case measure => simp [intOf] <;> omega
      have g4 : v ≤ 16 := Classical.not_not.1 g4
      have dg4 : decide (v ≤ 16) = true := decide_eq_true g4
      have hp0 : 0 ≤ u * v := Int.mul_nonneg g1 g3
      have hp1 : u * v ≤ 68719476720 := by
        have := (cst_bd u v).2
        unfold cst at this
        rwa [if_pos ⟨g1, g2, g3, g4⟩] at this
      have HZ := Lib.hid (show cst u v = u * v from by unfold cst; rw [if_pos ⟨g1, g2, g3, g4⟩])
      rw [HZ.out] at HS2
      obtain ⟨P, hP⟩ : ∃ P, u * v = P := ⟨_, rfl⟩
      rw [hP] at hp0 hp1 HS2
      have wP : IntKind.i64.wrap P = P := IntWalk.i64_in _ (by omega)
      have wS : IntKind.i64.wrap (s + P) = s + P := IntWalk.i64_in _ (by omega)
      go_wp2_with fail
      go_region
      go_wp2_with fail
      go_roundw
      case rel => exact ⟨i + 1, s + P, by omega, by go_num, by go_num, HS2, _, rfl⟩
      case measure => simp [intOf] <;> omega
    · obtain rfl : K = i := by omega
      have HF := Lib.hid (show R = s by rw [HR.out, HS.out])
      by_cases hin : K < n
      · have hin1 : (K : Int) < n := by omega
        have him1 : ¬ (K : Int) < m := by have := HK.out; omega
        go_wp2_with fail
        go_ret
        exact ⟨ret_i HF.out.symm, _, rfl⟩
      · have hin1 : ¬ (K : Int) < n := by omega
        go_wp2_with fail
        go_ret
        exact ⟨ret_i HF.out.symm, _, rfl⟩
def mayB (l o : List Int) (L : Int) : Bool := decide (l.length = o.length) && decide (check o L = 0) && (List.range o.length).all (fun i => decide (0 < o.getD i 0) == decide (0 < l.getD i 0))
theorem mayB_iff (l o : List Int) (L : Int) : mayB l o L = true ↔ mayP l o L := by
  unfold mayB mayP
  simp only [Bool.and_eq_true, decide_eq_true_eq, List.all_eq_true, List.mem_range, beq_iff_eq, decide_eq_decide, and_assoc]
end Go.Proofs.Ytofmjcelmbkebaa
