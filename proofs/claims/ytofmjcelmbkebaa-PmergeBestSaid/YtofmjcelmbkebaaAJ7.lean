/- Layer 7, the document's: least. -/
import Derived.Test.YtofmjcelmbkebaaAJ6
namespace Go.Proofs.Ytofmjcelmbkebaa
open Go.ChangeShapes Go.WideShapes Go.ChangeAt Go.RowKit
set_option linter.unusedVariables false
set_option linter.unusedSimpArgs false
set_option maxRecDepth 100000
open KraftMath Pm
def stepB (best c v : Int) : Int := if 0 ≤ c ∧ (best < 0 ∨ c + v < best) then c + v else best
def nextB (K len room : Nat) (x : Int) (F : Nat → Nat → Int) (best : Int) (n : Nat) : Int :=
  if room < 2 ^ (K - n) ∨ 2 ^ (K - n) * len < room ∨ room < len then best else stepB best (F n (room - 2 ^ (K - n))) (x * n)
def loopB (K len room : Nat) (x : Int) (F : Nat → Nat → Int) (from0 : Nat) : Nat → Int
  | 0 => -1
  | i + 1 => nextB K len room x F (loopB K len room x F from0 i) (from0 + i)
def leastF (K : Nat) : List Int → Nat → Nat → Int
  | [], _, room => if room = 0 then 0 else -1
  | x :: l, from0, room => loopB K (l.length + 1) room x (leastF K l) from0 (K + 1 - from0)
def OkB (v : Int) (m : Int) : Prop := v = -1 ∨ (0 ≤ v ∧ v ≤ m)
theorem loopB_ok (K len room : Nat) (x m : Int) (F : Nat → Nat → Int) (from0 : Nat) (hx : 0 ≤ x ∧ x ≤ 4294967295) (hK : K ≤ 16) (hF : ∀ n r, OkB (F n r) m) (hm : 0 ≤ m) : ∀ i, from0 + i ≤ K + 1 → OkB (loopB K len room x F from0 i) (m + 68719476720)
  | 0, _ => .inl rfl
  | i + 1, hi => by
    have ih := loopB_ok K len room x m F from0 hx hK hF hm i (by omega)
    have h1 : 0 ≤ x * ((from0 + i : Nat) : Int) := Int.mul_nonneg hx.1 (by omega)
    have h2 : x * ((from0 + i : Nat) : Int) ≤ 4294967295 * 16 := Int.le_trans (Int.mul_le_mul_of_nonneg_right hx.2 (by omega)) (Int.mul_le_mul_of_nonneg_left (by omega) (by decide))
    have h3 := hF (from0 + i) (room - 2 ^ (K - (from0 + i)))
    simp only [loopB, nextB, stepB]
    obtain ⟨P, hP⟩ : ∃ P, x * ((from0 + i : Nat) : Int) = P := ⟨_, rfl⟩
    rw [hP] at h1 h2 ⊢
    unfold OkB at *
    split
    · exact ih
    · split <;> omega
theorem leastF_ok (K : Nat) (hK : K ≤ 16) : ∀ (l : List Int) (n r : Nat), (∀ x ∈ l, 0 ≤ x ∧ x ≤ 4294967295) → OkB (leastF K l n r) (l.length * 68719476720)
  | [], n, r, _ => by
    unfold leastF OkB
    split
    · right; simp
    · left; rfl
  | x :: l, n, r, h => by
    have ih := fun n r => leastF_ok K hK l n r (fun y hy => h y (by simp [hy]))
    simp only [leastF, List.length_cons]
    by_cases hn : n ≤ K + 1
    · have := loopB_ok K (l.length + 1) r x _ (leastF K l) n (h x (by simp)) hK ih (by omega) (K + 1 - n) (by omega)
      unfold OkB at *
      omega
    · rw [show K + 1 - n = 0 by omega]; left; rfl
theorem shl_val (m : Nat) (h : m ≤ 16) : wrap64 (2 ^ m) = ((2 ^ m : Nat) : Int) := wrap_pow m h
def LeastC (K : Nat) (l : List Int) : Prop := ∀ (a : Option Addr) (c n fr rm : Nat) (w : World), l.length = n → IsInts w a l → n ≤ c → n ≤ 100 → 1 ≤ fr → fr ≤ K + 1 → rm ≤ 65536 → (∀ x ∈ l, 0 ≤ x ∧ x ≤ 4294967295) → Calls Try.prog 26 #[.slice a n c, .int .i64 fr, .int .i64 rm, .int .i64 K] w fun e w' => e = .returned (.int .i64 (leastF K l fr rm)) ∧ w' = w
set_option maxHeartbeats 1600000 in
theorem dLeast0 (K : Nat) : LeastC K [] := by
  intro a c n fr rm w hl hi hnc hn hf hfr hr hb
  obtain rfl : n = 0 := by simpa using hl.symm
  by_cases h0 : rm = 0
  · have HR := Lib.hid (show leastF K [] fr rm = 0 by unfold leastF; rw [if_pos h0])
    have e1 : ((rm : Int) == 0) = true := by rw [beq_iff_eq]; omega
    clear h0 hi hl
    go_enter Try.func26, Try.ntmps26
    go_wp2_with fail
    go_ret
    exact ⟨ret_i HR.out.symm, rfl⟩
  · have HR := Lib.hid (show leastF K [] fr rm = -1 by unfold leastF; rw [if_neg h0])
    have e1 : ((rm : Int) == 0) = false := by rw [beq_eq_false_iff_ne]; omega
    clear h0 hi hl
    go_enter Try.func26, Try.ntmps26
    go_wp2_with fail
    go_ret
    exact ⟨ret_i HR.out.symm, rfl⟩
set_option maxHeartbeats 6400000 in
theorem dLeastS (K : Nat) (hK : K ≤ 16) (x : Int) (l : List Int) (IH : LeastC K l) : LeastC K (x :: l) := by
  intro a c n fr rm w hl hi hnc hn hf hfr hr hb
  obtain ⟨m, rfl⟩ : ∃ m, n = m + 1 := ⟨n - 1, by simp at hl; omega⟩
  have hlm : l.length = m := by simpa using hl
  obtain ⟨y, rfl, hyb, hc⟩ := hi.at 0 (by simp)
  have cx := hc 0 (by simp)
  rw [add_nought, List.getD_cons_zero] at cx
  obtain ⟨vb, hsd, hvb⟩ := slDrop (some y) (m + 1) c 1 (by omega)
  have htl := hvb w (x :: l) hl hnc hi
  rw [List.drop_one, List.tail_cons] at htl
  have hx := hb x (by simp)
  have hlb : ∀ z ∈ l, 0 ≤ z ∧ z ≤ 4294967295 := fun z hz => hb z (by simp [hz])
  have CR := Lib.hid (fun fr rm h1 h2 h3 => IH vb (c - 1) m fr rm w hlm htl (by omega) (by omega) h1 h2 h3 hlb)
  have HR := Lib.hid (show leastF K (x :: l) fr rm = loopB K (m + 1) rm x (leastF K l) fr (K + 1 - fr) by rw [leastF, hlm])
  have HOK := Lib.hid (fun i (h : fr + i ≤ K + 1) => loopB_ok K (m + 1) rm x _ (leastF K l) fr hx hK (fun n r => leastF_ok K hK l n r hlb) (by omega) i h)
  have HOF := Lib.hid (fun n r => leastF_ok K hK l n r hlb)
  rw [hlm] at HOK HOF
  have en : (((m + 1 : Nat) : Int) == 0) = false := by rw [beq_eq_false_iff_ne]; omega
  have em : ((m + 1 : Nat) : Int) - 1 = m := by omega
  rw [HR.out]
  have e11 : m + 1 - 1 = m := by omega
  rw [e11] at hsd
  obtain ⟨M, hM⟩ : ∃ M, m + 1 = M := ⟨_, rfl⟩
  rw [hM] at en hsd HOK hn hl ⊢
  have hM1 : (1 : Int) ≤ M := by omega
  have hsd1 : ∀ W : World, (Instr.slice 22 (.slice (some y) M c) (some (.int .i64 1)) none none).run Try.prog W = .ok (.slice vb m (c - 1)) W := hsd
  clear hsd
  clear hi hb hc hvb htl hl HR em e11 hnc
  obtain ⟨hx1, hx2⟩ := hx
  have hm100 : m ≤ 100 := by omega
  have hri : (rm : Int) ≤ 65536 := by omega
  clear hr IH hlb
  go_enter Try.func26, Try.ntmps26
  go_wp2_with fail
  go_loopw [9, 10] (fun bv nv wr => ∃ (i : Nat) (best : Int), fr + i ≤ K + 1 ∧ nv = .int .i64 ((fr + i : Nat) : Int) ∧ bv = .int .i64 best ∧ Hid (best = loopB K M rm x (leastF K l) fr i) ∧ wr = w) (fun _ nv _ => K + 1 - (intOf nv).toNat)
  case atStart => exact ⟨0, -1, by omega, by go_num, by go_num, Lib.hid rfl, rfl⟩
  case round =>
    obtain ⟨i, best, hi, rfl, rfl, HBE, rfl⟩ := hrel
    obtain ⟨N, hN⟩ : ∃ N, fr + i = N := ⟨_, rfl⟩
    rw [hN] at hi ⊢
    have hNa : fr + i ≤ N := by omega
    have hNb : N ≤ fr + i := by omega
    by_cases hlt : N ≤ K
    · have hlti : (N : Int) ≤ K := by omega
      have HNX := Lib.hid (show loopB K M rm x (leastF K l) fr (i + 1) = nextB K M rm x (leastF K l) best N by rw [loopB, ← HBE.out, hN])
      obtain ⟨D, hD⟩ : ∃ D, K - N = D := ⟨_, rfl⟩
      have eD : (K : Int) - N = D := by omega
      have hWD := shl_val D (by omega)
      have hS1 : 1 ≤ 2 ^ D := Nat.pow_pos (by decide)
      have hS3 : ((2 ^ D : Nat) : Int) ≤ 65536 := by
        have h1 : 2 ^ D ≤ 2 ^ 16 := Nat.pow_le_pow_right (by decide) (by omega)
        have h2 : (2 : Nat) ^ 16 = 65536 := by decide
        rw [h2] at h1
        omega
      have HNX2 := Lib.hid (show loopB K M rm x (leastF K l) fr (i + 1) = if rm < 2 ^ D ∨ 2 ^ D * M < rm ∨ rm < M then best else stepB best (leastF K l N (rm - 2 ^ D)) (x * N) by rw [HNX.out]; unfold nextB; rw [hD])
      obtain ⟨SZ, hSZ⟩ : ∃ SZ, 2 ^ D = SZ := ⟨_, rfl⟩
      rw [hSZ] at hWD hS1 hS3 HNX2
      obtain ⟨SM, hSM⟩ : ∃ SM : Nat, SZ * M = SM := ⟨_, rfl⟩
      have eSM : (SZ : Int) * (M : Int) = SM := by rw [← hSM]; simp
      have hSMb : (SM : Int) ≤ 6700000 := by
        rw [← eSM]
        have h1 : (SZ : Int) * M ≤ 65536 * M := Int.mul_le_mul_of_nonneg_right hS3 (by omega)
        omega
      rw [hSM] at HNX2
      have hob := HOK.out i (by omega)
      rw [← HBE.out] at hob
      have HWD := Lib.hid (show Value.int .i64 (wrap64 (2 ^ D)) = Value.int .i64 (SZ : Int) by rw [hWD])
      clear hWD hN hD hSZ hSM HNX HBE
      by_cases c1 : rm < SZ
      · have d1 : decide ((rm : Int) < SZ) = true := decide_eq_true (by omega)
        have HN2 := Lib.hid (show best = loopB K M rm x (leastF K l) fr (i + 1) from (HNX2.out.trans (if_pos (Or.inl c1))).symm)
        have hw := HWD.out
        go_wp2_with fail
        clear hw
        exact ⟨⟨i + 1, best, by omega, by rw [show ((fr + (i + 1) : Nat) : Int) = (N : Int) + 1 by omega], rfl, HN2, trivial⟩, by simp [intOf]; omega⟩
      · have d1 : decide ((rm : Int) < SZ) = false := decide_eq_false (by omega)
        by_cases c2 : SM < rm
        · have d2 : decide ((SM : Int) < rm) = true := decide_eq_true (by omega)
          have HN2 := Lib.hid (show best = loopB K M rm x (leastF K l) fr (i + 1) from (HNX2.out.trans (if_pos (Or.inr (Or.inl c2)))).symm)
          have hw := HWD.out
          go_wp2_with fail
          clear hw
          exact ⟨⟨i + 1, best, by omega, by rw [show ((fr + (i + 1) : Nat) : Int) = (N : Int) + 1 by omega], rfl, HN2, trivial⟩, by simp [intOf]; omega⟩
        · have d2 : decide ((SM : Int) < rm) = false := decide_eq_false (by omega)
          by_cases c3 : rm < M
          · have d3 : decide ((rm : Int) < M) = true := decide_eq_true (by omega)
            have HN2 := Lib.hid (show best = loopB K M rm x (leastF K l) fr (i + 1) from (HNX2.out.trans (if_pos (Or.inr (Or.inr c3)))).symm)
            have hw := HWD.out
            go_wp2_with fail
            clear hw
            exact ⟨⟨i + 1, best, by omega, by rw [show ((fr + (i + 1) : Nat) : Int) = (N : Int) + 1 by omega], rfl, HN2, trivial⟩, by simp [intOf]; omega⟩
          · have d3 : decide ((rm : Int) < M) = false := decide_eq_false (by omega)
            have HN3 := Lib.hid (show loopB K M rm x (leastF K l) fr (i + 1) = stepB best (leastF K l N (rm - SZ)) (x * N) from HNX2.out.trans (if_neg (fun h => by rcases h with h | h | h <;> omega)))
            obtain ⟨RM, hRM⟩ : ∃ RM, rm - SZ = RM := ⟨_, rfl⟩
            have eRM : (rm : Int) - SZ = RM := by omega
            rw [hRM] at HN3
            have CRR := Lib.hid (CR.out N RM (by omega) (by omega) (by omega))
            have hof := HOF.out N RM
            obtain ⟨C, hC⟩ : ∃ C, leastF K l N RM = C := ⟨_, rfl⟩
            rw [hC] at CRR HN3 hof
            have hp1 : 0 ≤ x * (N : Int) := Int.mul_nonneg hx1 (by omega)
            have hp2 : x * (N : Int) ≤ 4294967295 * 16 := Int.le_trans (Int.mul_le_mul_of_nonneg_right hx2 (by omega)) (Int.mul_le_mul_of_nonneg_left (by omega) (by decide))
            obtain ⟨P, hP⟩ : ∃ P, x * (N : Int) = P := ⟨_, rfl⟩
            rw [hP] at hp1 hp2 HN3
            unfold OkB at hob hof
            have hcb : -1 ≤ C ∧ C ≤ 10000000000000 := by omega
            obtain ⟨cb1, cb2⟩ := hcb
            have hbb : -1 ≤ best ∧ best ≤ 10000000000000 := by omega
            obtain ⟨bb1, bb2⟩ := hbb
            clear hob hof hC hRM
            have hww := HWD.out
            go_wp2_with fail
            refine CRR.out.mono ?_; rintro e w2 ⟨rfl, hw⟩
            obtain rfl : wr = w2 := hw.symm
            clear hww
            by_cases g1 : 0 ≤ C
            · have k1 : decide (0 ≤ C) = true := decide_eq_true g1
              by_cases g2 : best < 0
              · have k2 : decide (best < 0) = true := decide_eq_true g2
                have HN2 := Lib.hid (show C + P = loopB K M rm x (leastF K l) fr (i + 1) from (HN3.out.trans (if_pos (show 0 ≤ C ∧ (best < 0 ∨ C + P < best) from ⟨g1, Or.inl g2⟩))).symm)
                go_wp2_with fail
                exact ⟨⟨i + 1, C + P, by omega, by rw [show ((fr + (i + 1) : Nat) : Int) = (N : Int) + 1 by omega], rfl, HN2, trivial⟩, by simp [intOf]; omega⟩
              · have k2 : decide (best < 0) = false := decide_eq_false g2
                by_cases g3 : C + P < best
                · have k3 : decide (C + P < best) = true := decide_eq_true g3
                  have HN2 := Lib.hid (show C + P = loopB K M rm x (leastF K l) fr (i + 1) from (HN3.out.trans (if_pos (show 0 ≤ C ∧ (best < 0 ∨ C + P < best) from ⟨g1, Or.inr g3⟩))).symm)
                  go_wp2_with fail
                  exact ⟨⟨i + 1, C + P, by omega, by rw [show ((fr + (i + 1) : Nat) : Int) = (N : Int) + 1 by omega], rfl, HN2, trivial⟩, by simp [intOf]; omega⟩
                · have k3 : decide (C + P < best) = false := decide_eq_false g3
                  have HN2 := Lib.hid (show best = loopB K M rm x (leastF K l) fr (i + 1) from (HN3.out.trans (if_neg (show ¬ (0 ≤ C ∧ (best < 0 ∨ C + P < best)) by omega))).symm)
                  go_wp2_with fail
                  exact ⟨⟨i + 1, best, by omega, by rw [show ((fr + (i + 1) : Nat) : Int) = (N : Int) + 1 by omega], rfl, HN2, trivial⟩, by simp [intOf]; omega⟩
            · have k1 : decide (0 ≤ C) = false := decide_eq_false g1
              have HN2 := Lib.hid (show best = loopB K M rm x (leastF K l) fr (i + 1) from (HN3.out.trans (if_neg (show ¬ (0 ≤ C ∧ (best < 0 ∨ C + P < best)) by omega))).symm)
              go_wp2_with fail
              exact ⟨⟨i + 1, best, by omega, by rw [show ((fr + (i + 1) : Nat) : Int) = (N : Int) + 1 by omega], rfl, HN2, trivial⟩, by simp [intOf]; omega⟩
    · have hlti : ¬ (N : Int) ≤ K := by omega
      have HF := Lib.hid (show loopB K M rm x (leastF K l) fr (K + 1 - fr) = best from by rw [HBE.out, show K + 1 - fr = i by omega])
      go_wp2_with fail
      go_ret
      exact ⟨ret_i HF.out.symm, rfl⟩
theorem dLeast (K : Nat) (hK : K ≤ 16) : ∀ l : List Int, LeastC K l
  | [] => dLeast0 K
  | x :: l => dLeastS K hK x l (dLeast K hK l)
end Go.Proofs.Ytofmjcelmbkebaa
