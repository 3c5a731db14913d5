/- Layer 24: what pmerge.Lengths says where one symbol occurs, and where none does: check. -/
import Derived.Test.YtofmjcelmbkebaaAF8
import Derived.Test.YtofmjcelmbkebaaKr
namespace Go.Proofs.Ytofmjcelmbkebaa
open Go.ChangeShapes Go.WideShapes Go.ChangeAt Go.RowKit
set_option linter.unusedVariables false
set_option linter.unusedSimpArgs false
set_option maxRecDepth 100000
open KraftMath
set_option maxHeartbeats 1600000 in
theorem pCheck (a : Option Addr) (c n u : Nat) (l : List Int) (w : World) (hl : l.length = n) (h : IsInts w a l) (hn : n ≤ 1000) (hb : ∀ i, 0 ≤ l.getD i 0 ∧ l.getD i 0 ≤ 1000) (hu : used l = u) (hu1 : u ≤ 1000) :
    Calls Try.prog 20 #[.slice a n c, .int .i64 15] w fun e w' => e = .returned (.int .i64 (if u = 0 then 7 else 0)) ∧ Below w.heap.size w w' := by
  have HI := Lib.hid h
  have HL := Lib.hid hl
  have HX := Lib.hid hb
  have CU := Lib.hid (kUsed a c l w h)
  rw [hl, hu] at CU
  obtain ⟨E, hE⟩ : ∃ E : Int, (if u = 0 then (7 : Int) else 0) = E := ⟨_, rfl⟩
  rw [hE]
  have HE := Lib.hid hE
  clear h hl hb hu hE
  go_enter Try.func20, Try.ntmps20
  go_wp2_with fail
  go_loopw [19] (fun iv wr => ∃ i : Nat, i ≤ n ∧ iv = .int .i64 i ∧ wr = w) (fun iv _ => n - (intOf iv).toNat)
  case atStart => exact ⟨0, Nat.zero_le _, rfl, rfl⟩
  case round =>
    obtain ⟨i, hi, rfl, rfl⟩ := hrel
    by_cases hlt : i < n
    · have hii : (i : Int) < n := by omega
      obtain ⟨x, rfl, hxb, hc⟩ := HI.out.at i (by rw [HL.out]; exact hlt)
      have cx := hc i (by rw [HL.out]; exact hlt)
      obtain ⟨v, hv⟩ : ∃ v, l.getD i 0 = v := ⟨_, rfl⟩
      have hvb := HX.out i
      rw [hv] at cx hvb
      obtain ⟨v1, v2⟩ := hvb
      have e1 : decide (v < 0) = false := decide_eq_false (by omega)
      have e2 : decide ((4294967295 : Int) < v) = false := decide_eq_false (by omega)
      clear hc hv
      go_wp2_with fail
      go_roundw
      case rel => exact ⟨i + 1, by omega, by go_num, by trivial⟩
      case measure => simp [intOf] <;> omega
    · obtain rfl : i = n := by omega
      by_cases h0 : u = 0
      · have e0 : ((u : Int) == 0) = true := by rw [beq_iff_eq]; omega
        have HE7 := Lib.hid (show E = 7 by rw [← HE.out, if_pos h0])
        clear h0
        go_wp2_with fail
        refine CU.out.mono ?_; rintro e w2 ⟨rfl, rfl⟩
        go_wp2_with fail
        go_ret
        exact ⟨by rw [HE7.out]; rfl, Below.refl _ _⟩
      · have e0 : ((u : Int) == 0) = false := by rw [beq_eq_false_iff_ne]; omega
        have HE7 := Lib.hid (show E = 0 by rw [← HE.out, if_neg h0])
        have hu1 : (u : Int) ≤ 1000 := by omega
        clear h0
        go_wp2_with fail
        refine CU.out.mono ?_; rintro e w2 ⟨rfl, rfl⟩
        go_wp2_with fail
        go_ret
        exact ⟨by rw [HE7.out]; rfl, Below.refl _ _⟩
end Go.Proofs.Ytofmjcelmbkebaa
