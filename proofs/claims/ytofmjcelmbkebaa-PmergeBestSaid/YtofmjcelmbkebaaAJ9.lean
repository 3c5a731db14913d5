/- Layer 7: PmergeBest. -/
import Derived.Test.YtofmjcelmbkebaaAJ8
namespace Go.Proofs.Ytofmjcelmbkebaa
open Go.ChangeShapes Go.WideShapes Go.ChangeAt Go.RowKit
set_option linter.unusedVariables false
set_option linter.unusedSimpArgs false
set_option maxRecDepth 100000
open KraftMath Pm
theorem posF_mem {l : List Int} {n : Nat} {x : Int} (h : x ∈ posF l n) : x ∈ l := List.mem_of_mem_take (List.mem_filter.1 h).1
set_option maxHeartbeats 3200000 in
theorem dBest (a : Option Addr) (c n : Nat) (l : List Int) (K : Nat) (w : World) (hl : l.length = n) (hi : IsInts w a l) (hn : n ≤ 8) (h0 : chkP l K = 0) :
    Calls Try.prog 15 #[.slice a n c, .int .i64 K] w fun e w' => e = .returned (.int .i64 (costL l (lensV l K))) ∧ Below w.heap.size w w' := by
  obtain ⟨K', hK', hK1, hK2, hln, hbd, hu1, hu2⟩ := chk_ok h0
  obtain rfl : K = K' := by omega
  have CF := Lib.hid (dFalling a c n l w hl hi (by omega) (fun i => (hbd i).1))
  have HEQ := Lib.hid (fun F h1 (h2 : F.Perm (posF l n)) => best_eq l F K h0 h1 (by rw [hl]; exact h2))
  have HMB := Lib.hid (show ∀ x ∈ l, 0 ≤ x ∧ x ≤ 4294967295 from fun x hx => by
    obtain ⟨i, -, rfl⟩ := mem_idx hx
    exact hbd i)
  have hS3 : ((2 ^ K : Nat) : Int) ≤ 65536 := by
    have h1 : 2 ^ K ≤ 2 ^ 16 := Nat.pow_le_pow_right (by decide) (by omega)
    have h2 : (2 : Nat) ^ 16 = 65536 := by decide
    rw [h2] at h1
    omega
  have hWD := shl_val K hK2
  have hLE := Lib.hid (fun F => dLeast K hK2 F)
  have HPL := Lib.hid (show (posF l n).length ≤ n by
    unfold posF
    have h1 := List.length_filter_le (fun x : Int => decide (0 < x)) (l.take n)
    rw [List.length_take] at h1
    omega)
  obtain ⟨C, hC⟩ : ∃ C, costL l (lensV l K) = C := ⟨_, rfl⟩
  rw [hC] at HEQ ⊢
  have HB := Lib.hid (show ∀ F : List Int, bestF K F = (if F.length = 1 then F.getD 0 0 else leastF K F 1 (2 ^ K)) from fun F => rfl)
  obtain ⟨SZ, hSZ⟩ : ∃ SZ, 2 ^ K = SZ := ⟨_, rfl⟩
  rw [hSZ] at hS3 hWD HB
  have hww : Value.int .i64 (wrap64 (2 ^ K)) = Value.int .i64 (SZ : Int) := by rw [hWD]
  clear hi hl h0 hbd hu1 hu2 hln hC hSZ hWD hK'
  go_enter Try.func15, Try.ntmps15
  go_wp2_with fail
  refine CF.out.mono ?_; rintro e w1 ⟨u, F, rfl, ho, hd, hp, hb⟩
  have HE := Lib.hid ((HEQ.out F hd hp).trans (HB.out F))
  have hFl : F.length ≤ 8 := by rw [hp.length_eq]; have := HPL.out; omega
  have HFM := Lib.hid (show ∀ x ∈ F, 0 ≤ x ∧ x ≤ 4294967295 from fun x hx => HMB.out x (posF_mem (hp.mem_iff.1 hx)))
  obtain ⟨va, vc, rfl⟩ := ho.slice
  have hcap := (own_capI ho).2
  have HI := Lib.hid (show IsInts w1 va F by
    obtain ⟨a', c', e, h⟩ := ho.isL (by omega)
    simp only [Value.slice.injEq] at e
    obtain ⟨rfl, -, -⟩ := e
    exact h)
  obtain ⟨M, hM⟩ : ∃ M, F.length = M := ⟨_, rfl⟩
  have HML := Lib.hid hM
  rw [hM] at hcap hFl HE ⊢
  have HBw := Lib.hid hb
  clear ho hd hp hb hM CF HEQ HB HMB HPL
  by_cases h1 : M = 1
  · subst h1
    obtain ⟨x, rfl, hxb, hc⟩ := HI.out.at 0 (by rw [HML.out]; decide)
    have cx := hc 0 (by rw [HML.out]; decide)
    rw [add_nought] at cx
    have HE2 := Lib.hid (HE.out.trans (if_pos rfl))
    obtain ⟨V, hV⟩ : ∃ V, F.getD 0 0 = V := ⟨_, rfl⟩
    rw [hV] at cx HE2
    clear hc hV HE hww
    go_wp2_with fail
    go_ret
    exact ⟨ret_i HE2.out.symm, HBw.out⟩
  · have e1 : ((M : Int) == 1) = false := by rw [beq_eq_false_iff_ne]; omega
    have HE2 := Lib.hid (HE.out.trans (if_neg h1))
    have CL := Lib.hid (hLE.out F va vc M 1 SZ w1 HML.out HI.out hcap (by omega) (Nat.le_refl _) (by omega) (by omega) HFM.out)
    clear HE h1 hS3
    go_wp2_with fail
    refine CL.out.mono ?_; rintro e w2 ⟨rfl, hw⟩
    obtain rfl : w1 = w2 := hw.symm
    go_wp2_with fail
    go_ret
    exact ⟨ret_i HE2.out.symm, HBw.out⟩
def IsU (w : World) (a : Option Addr) (l : List Int) : Prop := l = [] ∨ ∃ x, a = some x ∧ ∀ i, i < l.length → w.cell? (x.add i) = some (.int .u32 (l.getD i 0))
theorem IsU.at {w : World} {a : Option Addr} {l : List Int} (h : IsU w a l) (k : Nat) (hk : k < l.length) : ∃ x : Addr, a = some x ∧ x.block < w.heap.size ∧ ∀ i, i < l.length → w.cell? (x.add i) = some (.int .u32 (l.getD i 0)) := by
  rcases h with rfl | ⟨x, rfl, hc⟩
  · simp at hk
  · have := cell_block (hc 0 (by omega))
    exact ⟨x, rfl, by simpa [Addr.add] using this, hc⟩
theorem IsU.kept {w w' : World} {a : Option Addr} {l : List Int} (h : IsU w a l) (hb : Below w.heap.size w w') : IsU w' a l := by
  rcases h with rfl | ⟨x, rfl, hc⟩
  · exact .inl rfl
  · refine .inr ⟨x, rfl, fun i hi => ?_⟩
    have hc' := hc i hi
    rw [hb.cell (cell_block hc')]; exact hc'
set_option maxHeartbeats 6400000 in
theorem best_walk (a : Option Addr) (c n U m : Nat) (l : List Int) (w : World) (hl : l.length = n) (hi : IsU w a l) (hb : ∀ i, 0 ≤ l.getD i 0 ∧ l.getD i 0 ≤ 4294967295) (hn : n ≤ 8) (hU : U < 256) (hm : U % 8 + 1 = m) :
    Calls Try.prog 5 #[.slice a n c, .int .u8 U] w fun e w' => e = .returned (.bool true) ∧ Below w.heap.size w w' := by
  have q1 : ¬ (8 : Int) < n := by omega
  have em : (U : Int) % 8 + 1 = m := by omega
  have HI := Lib.hid hi; have HL := Lib.hid hl; have HBD := Lib.hid hb
  have CK := Lib.hid (fun a c W h => dChk a c n l m W hl h)
  have CA := Lib.hid (fun W => awake07 W)
  have CL := Lib.hid (fun (h0 : chkP l m = 0) a c W h => pLenOk a c n l m W hl h h0 _ rfl)
  have CB := Lib.hid (fun (h0 : chkP l m = 0) a c W h => dBest a c n l m W hl h hn h0)
  have CP := Lib.hid (fun a b c d W h k => pCost a b c d n n l (lensV l m) W hl h (by rw [lensV_len, hl]) k (by omega))
  have HRL := Lib.hid (show (lensV l m).length = n by rw [lensV_len, hl])
  rw [Int.toNat_natCast] at CL
  obtain ⟨R, hR⟩ : ∃ R, lensV l m = R := ⟨_, rfl⟩
  rw [hR] at CL CB CP HRL
  obtain ⟨C, hC⟩ : ∃ C, costL l R = C := ⟨_, rfl⟩
  rw [hC] at CB CP
  have eC : (C == C) = true := by simp
  obtain ⟨E, hE⟩ : ∃ E, chkP l m = E := ⟨_, rfl⟩
  rw [hE] at CK CL CB
  clear hi hl hb hm hR hC hE
  go_enter Try.func5, Try.ntmps5
  go_wp2_with fail
  clear em
  go_loopw [6, 7] (fun fv iv wr => ∃ i : Nat, i ≤ n ∧ iv = .int .i64 i ∧ Hid (OwnI w.heap.size wr fv (l.take i)) ∧ Hid (Below w.heap.size w wr)) (fun _ iv _ => n - (intOf iv).toNat)
  case atStart => exact ⟨0, Nat.zero_le _, by go_num, Lib.hid OwnS.nil, Lib.hid (Below.refl _ _)⟩
  case round =>
    obtain ⟨i, hi, rfl, HO, HB⟩ := hrel
    by_cases hlt : i < n
    · have hii : (i : Int) < n := by omega
      have hil : i < l.length := by rw [HL.out]; exact hlt
      obtain ⟨x, rfl, hxb, hc⟩ := (HI.out.kept HB.out).at i hil
      have cx := hc i hil
      have HTK := Lib.hid (take_getD l i hil)
      obtain ⟨v1, v2⟩ := HBD.out i
      obtain ⟨V, hV⟩ : ∃ V, l.getD i 0 = V := ⟨_, rfl⟩
      rw [hV] at cx HTK v1 v2
      have HLn := Lib.hid (show (l.take i).length ≤ 1099511627776 by rw [List.length_take]; omega)
      have HBs := Lib.hid HB.out.size
      clear hc hV hil
      go_wp2_with (at_builtin; refine app_int rfl (.tmp 24) (.tmp 30) rfl w.heap.size _ _ _ V rfl HO.out wr.heap.size 1 rfl rfl HLn.out HBs.out ?_; intro v' w' ho hb hg)
      have HO2 := Lib.hid (show OwnI w.heap.size w' v' (l.take (i + 1)) by rw [HTK.out]; exact ho)
      have HB2 := Lib.hid (HB.out.trans hb)
      clear ho hb hg HO HB
      go_wp2_with fail
      go_roundw
      case rel => exact ⟨i + 1, by omega, by go_num, HO2, HB2⟩
      case measure => simp [intOf] <;> omega
    · obtain rfl : n = i := by omega
      have hii : ¬ (n : Int) < n := by omega
      have hO2 := HO.out
      rw [List.take_of_length_le (by rw [HL.out]; exact Nat.le_refl _)] at hO2
      obtain ⟨fa, fc, rfl, hif⟩ := hO2.isL (by rw [HL.out]; omega)
      rw [HL.out]
      have HF := Lib.hid hif
      clear hif hO2 HO
      by_cases h0 : E = 0
      · have CL2 := Lib.hid (fun a c W h => CL.out h0 a c W h)
        have CB2 := Lib.hid (fun a c W h => CB.out h0 a c W h)
        have CP2 := CP
        subst h0
        clear CL CB CP
        go_wp2_with fail
        refine (CK.out _ _ _ HF.out).mono ?_; rintro e w2 ⟨rfl, hw⟩
        obtain rfl : wr = w2 := hw.symm
        go_wp2_with fail
        refine (CL2.out _ _ _ HF.out).mono ?_; rintro e w3 ⟨u, rfl, hu, hb3⟩
        obtain ⟨ua, uc, rfl, hiu⟩ := hu.isL (by rw [HRL.out]; omega)
        rw [HRL.out]
        have HU := Lib.hid hiu
        have HF3 := Lib.hid (HF.out.kept hb3)
        have HB3 := Lib.hid (HB.out.trans (hb3.mono HB.out.size))
        clear hu hiu hb3 HF HB
        go_wp2_with fail
        refine (CP2.out _ _ _ _ _ HF3.out HU.out).mono ?_; rintro e w4 ⟨rfl, k4, rfl⟩
        have HF4 := Lib.hid (HF3.out.drewN k4)
        have HB4 := Lib.hid (below_dn HB3.out k4)
        clear HF3 HB3 HU
        generalize w3.drewN k4 = w5 at *
        go_wp2_with fail
        refine (CB2.out _ _ _ HF4.out).mono ?_; rintro e w6 ⟨rfl, hb6⟩
        have HB6 := Lib.hid (HB4.out.trans (hb6.mono HB4.out.size))
        clear hb6
        go_wp2_with fail
        refine (CA.out _).mono ?_; rintro e w7 ⟨rfl, hb7⟩
        have HB7 := Lib.hid (HB6.out.trans (hb7.mono HB6.out.size))
        clear hb7
        go_wp2_with fail
        go_ret
        exact ⟨rfl, HB7.out⟩
      · have e1 : (E != 0) = true := by rw [bne_iff_ne]; exact h0
        clear h0 CL CB CP
        go_wp2_with fail
        refine (CK.out _ _ _ HF.out).mono ?_; rintro e w2 ⟨rfl, hw⟩
        obtain rfl : wr = w2 := hw.symm
        go_wp2_with fail
        refine (CA.out _).mono ?_; rintro e w7 ⟨rfl, hb7⟩
        have HB7 := Lib.hid (HB.out.trans (hb7.mono HB.out.size))
        clear hb7
        go_wp2_with fail
        go_ret
        exact ⟨rfl, HB7.out⟩
end Go.Proofs.Ytofmjcelmbkebaa
