import Derived.Test.YtopiiickeojpmaaJ07
import Derived.Test.YtopiiickeojpmaaKt
/- Layer 7: why there are no lengths. -/
namespace Go.Proofs.Ytopiiickeojpmaa
open Go.ChangeShapes Go.WideShapes Go.ChangeAt Go.RowKit
set_option linter.unusedVariables false
set_option linter.unusedSimpArgs false
set_option maxRecDepth 100000
open KraftMath
def badF (v : Int) : Bool := decide (v < 0) || decide (4294967295 < v)
def chkP (l : List Int) (limit : Int) : Int :=
  if limit < 1 ∨ 16 < limit then 1 else if 1024 < l.length then 5 else if l.any badF = true then 2 else if used l = 0 then 7 else if 2 ^ limit.toNat < used l then 6 else 0
theorem anyF_succ (l : List Int) (k : Nat) (h : k < l.length) (ha : (l.take k).any badF = false) (hb : badF (l.getD k 0) = false) : (l.take (k + 1)).any badF = false := by
  rw [take_succ_getD l k h, List.any_append, ha, Bool.false_or]; simp only [List.any_cons, List.any_nil, Bool.or_false]; exact hb
theorem anyF_hit (l : List Int) (k : Nat) (h : k < l.length) (hb : badF (l.getD k 0) = true) : l.any badF = true := by
  rw [List.any_eq_true]
  exact ⟨l.getD k 0, mem_getD h, hb⟩
theorem shl_test (S m : Nat) (h : m ≤ 16) : decide (wrap64 (2 ^ m) < (S : Int)) = decide (2 ^ m < S) := by
  rw [wrap_pow m h, decide_eq_decide]
  constructor
  · intro h; exact_mod_cast h
  · intro h; exact_mod_cast h
set_option maxHeartbeats 3200000 in
theorem pChk (a : Option Addr) (c n : Nat) (l : List Int) (L : Int) (w : World) (hl : l.length = n) (h : IsInts w a l) :
    Calls Try.prog 40 #[.slice a n c, .int .i64 L] w fun e w' => e = .returned (.int .i64 (chkP l L)) ∧ w' = w := by
  have HI := Lib.hid h
  have HL := Lib.hid hl
  have hn46 : (n : Int) ≤ 70368744177664 := by have := h.1; omega
  obtain ⟨R, hR⟩ : ∃ R, chkP l L = R := ⟨_, rfl⟩
  rw [hR]
  have CU := Lib.hid (kUsed a c l w h)
  rw [hl] at CU
  by_cases h1 : L < 1
  · have HF := Lib.hid (show R = 1 by rw [← hR]; unfold chkP; rw [if_pos (.inl h1)])
    have d1 : decide (L < 1) = true := decide_eq_true h1
    clear hR h hl
    go_enter Try.func40, Try.ntmps40
    go_wp2_with fail
    go_ret
    exact ⟨ret_i HF.out.symm, rfl⟩
  · have d1 : decide (L < 1) = false := decide_eq_false h1
    by_cases h2 : 16 < L
    · have HF := Lib.hid (show R = 1 by rw [← hR]; unfold chkP; rw [if_pos (.inr h2)])
      have d2 : decide (16 < L) = true := decide_eq_true h2
      clear hR h hl
      go_enter Try.func40, Try.ntmps40
      go_wp2_with fail
      go_ret
      exact ⟨ret_i HF.out.symm, rfl⟩
    · have d2 : decide (16 < L) = false := decide_eq_false h2
      obtain ⟨m, rfl⟩ : ∃ m : Nat, L = m := ⟨L.toNat, by omega⟩
      have hm : m ≤ 16 := by omega
      by_cases h3 : 1024 < n
      · have HF := Lib.hid (show R = 5 by rw [← hR]; unfold chkP; rw [if_neg (by omega), if_pos (by omega)])
        have d3 : (1024 : Int) < n := by omega
        clear hR h hl
        go_enter Try.func40, Try.ntmps40
        go_wp2_with fail
        go_ret
        exact ⟨ret_i HF.out.symm, rfl⟩
      · have d3 : ¬ (1024 : Int) < n := by omega
        have HF := Lib.hid (show R = if l.any badF = true then 2 else if used l = 0 then 7 else if 2 ^ m < used l then 6 else 0 by rw [← hR]; unfold chkP; rw [if_neg (by omega), if_neg (by omega), Int.toNat_natCast])
        have HU := Lib.hid (shl_test (used l) m hm)
        obtain ⟨u, hu⟩ : ∃ u, used l = u := ⟨_, rfl⟩
        have hun : u ≤ n := by rw [← hu, ← hl]; exact used_le l
        rw [hu] at HF HU CU
        clear hR h hl hu
        go_enter Try.func40, Try.ntmps40
        go_wp2_with fail
        go_loopw [19] (fun iv wr => ∃ i : Nat, i ≤ n ∧ iv = .int .i64 i ∧ Hid ((l.take i).any badF = false) ∧ wr = w) (fun iv _ => n - (intOf iv).toNat)
        case atStart => exact ⟨0, Nat.zero_le _, rfl, Lib.hid rfl, rfl⟩
        case round =>
          obtain ⟨i, hi, rfl, HT, rfl⟩ := hrel
          by_cases hlt : i < n
          · have hii : (i : Int) < n := by omega
            obtain ⟨x, rfl, hxb, hc⟩ := HI.out.at i (by rw [HL.out]; exact hlt)
            have cx := hc i (by rw [HL.out]; exact hlt)
            obtain ⟨v, hv⟩ : ∃ v, l.getD i 0 = v := ⟨_, rfl⟩
            rw [hv] at cx
            have HV := Lib.hid hv
            clear hc hv
            by_cases hb1 : v < 0
            · have e1 : decide (v < 0) = true := decide_eq_true hb1
              have HF2 := Lib.hid (show R = 2 by rw [HF.out, if_pos (anyF_hit l i (by rw [HL.out]; exact hlt) (by rw [HV.out]; unfold badF; rw [e1]; rfl))])
              go_wp2_with fail
              go_ret
              exact ⟨ret_i HF2.out.symm, rfl⟩
            · have e1 : decide (v < 0) = false := decide_eq_false hb1
              by_cases hb2 : 4294967295 < v
              · have e2 : decide (4294967295 < v) = true := decide_eq_true hb2
                have HF2 := Lib.hid (show R = 2 by rw [HF.out, if_pos (anyF_hit l i (by rw [HL.out]; exact hlt) (by rw [HV.out]; unfold badF; rw [e1, e2]; rfl))])
                go_wp2_with fail
                go_ret
                exact ⟨ret_i HF2.out.symm, rfl⟩
              · have e2 : decide (4294967295 < v) = false := decide_eq_false hb2
                have HT2 := Lib.hid (anyF_succ l i (by rw [HL.out]; exact hlt) HT.out (by rw [HV.out]; unfold badF; rw [e1, e2]; rfl))
                go_wp2_with fail
                go_roundw
                case rel => exact ⟨i + 1, by omega, by go_num, HT2, by trivial⟩
                case measure => simp [intOf] <;> omega
          · obtain rfl : n = i := by omega
            have HA := Lib.hid (show l.any badF = false by have := HT.out; rwa [List.take_of_length_le (by rw [HL.out]; exact Nat.le_refl _)] at this)
            by_cases h0 : u = 0
            · have e0 : ((u : Int) == 0) = true := by rw [beq_iff_eq]; omega
              have HF2 := Lib.hid (show R = 7 by rw [HF.out, HA.out, if_neg (by decide), if_pos h0])
              clear h0
              go_wp2_with fail
              refine CU.out.mono ?_; rintro e w2 ⟨rfl, rfl⟩
              go_wp2_with fail
              go_ret
              exact ⟨ret_i HF2.out.symm, rfl⟩
            · have e0 : ((u : Int) == 0) = false := by rw [beq_eq_false_iff_ne]; omega
              by_cases h6 : 2 ^ m < u
              · have HF2 := Lib.hid (show R = 6 by rw [HF.out, HA.out, if_neg (by decide), if_neg h0, if_pos h6])
                have e6 : decide (wrap64 (2 ^ m) < (u : Int)) = true := by rw [HU.out]; exact decide_eq_true h6
                have e7 := of_decide_eq_true e6
                clear h0 h6
                go_wp2_with fail
                refine CU.out.mono ?_; rintro e w2 ⟨rfl, rfl⟩
                go_wp2_with fail
                go_ret
                exact ⟨ret_i HF2.out.symm, rfl⟩
              · have HF2 := Lib.hid (show R = 0 by rw [HF.out, HA.out, if_neg (by decide), if_neg h0, if_neg h6])
                have e6 : decide (wrap64 (2 ^ m) < (u : Int)) = false := by rw [HU.out]; exact decide_eq_false h6
                have e7 := of_decide_eq_false e6
                clear h0 h6
                go_wp2_with fail
                refine CU.out.mono ?_; rintro e w2 ⟨rfl, rfl⟩
                go_wp2_with fail
                go_ret
                exact ⟨ret_i HF2.out.symm, rfl⟩
end Go.Proofs.Ytopiiickeojpmaa
