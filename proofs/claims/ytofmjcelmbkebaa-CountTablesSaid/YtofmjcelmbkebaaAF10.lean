/- Layer 24: pmerge.byFreq of one symbol that occurs; lengths. -/
import Derived.Test.YtofmjcelmbkebaaAF9
namespace Go.Proofs.Ytofmjcelmbkebaa
open Go.ChangeShapes Go.WideShapes Go.ChangeAt Go.RowKit
set_option linter.unusedVariables false
set_option linter.unusedSimpArgs false
set_option maxRecDepth 100000
/-- gladstoneref23.fine of prices. -/
theorem prA_bd (l : List Int) (i : Nat) : 1 ≤ prA l i ∧ prA l i ≤ 16 := by
  unfold prA
  split
  · omega
  · omega
set_option maxHeartbeats 1600000 in
theorem dFine (a : Option Addr) (c n : Nat) (l : List Int) (w : World) (h : IsInts w a (prL l n)) (hn : n ≤ 1000) :
    Calls Try.prog 44 #[.slice a n c] w fun e w' => e = .returned (.bool true) ∧ Below w.heap.size w w' := by
  have HI := Lib.hid h
  have HB := Lib.hid (fun i => prA_bd l i)
  have HG := Lib.hid (fun i h => prL_get l n i h)
  have HN := Lib.hid (prL_len l n)
  obtain ⟨P, hP⟩ : ∃ P, prL l n = P := ⟨_, rfl⟩
  rw [hP] at HI HG HN
  clear h hP
  go_enter Try.func44, Try.ntmps44
  go_wp2_with fail
  go_loopw [3] (fun iv wr => ∃ i : Nat, i ≤ n ∧ iv = .int .i64 i ∧ wr = w) (fun iv _ => n - (intOf iv).toNat)
  case atStart => exact ⟨0, Nat.zero_le _, rfl, rfl⟩
  case round =>
    obtain ⟨i, hi, rfl, rfl⟩ := hrel
    by_cases hlt : i < n
    · have hii : (i : Int) < n := by omega
      obtain ⟨x, rfl, hxb, hc⟩ := HI.out.at i (by rw [HN.out]; exact hlt)
      have cx := hc i (by rw [HN.out]; exact hlt)
      rw [HG.out i hlt] at cx
      obtain ⟨v, hv⟩ : ∃ v, prA l i = v := ⟨_, rfl⟩
      have hvb := HB.out i
      rw [hv] at cx hvb
      obtain ⟨v1, v2⟩ := hvb
      have e1 : decide (v < 1) = false := decide_eq_false (by omega)
      have e2 : decide ((1048576 : Int) < v) = false := decide_eq_false (by omega)
      clear hc hv
      go_wp2_with fail
      go_roundw
      case rel => exact ⟨i + 1, by omega, by go_num, by trivial⟩
      case measure => simp [intOf] <;> omega
    · obtain rfl : i = n := by omega
      go_wp2_with fail
      go_ret
      exact ⟨rfl, Below.refl _ _⟩
end Go.Proofs.Ytofmjcelmbkebaa
