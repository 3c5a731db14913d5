/- Layer 9: the greatest of a row. -/
import Derived.Test.YtlampmedeebekaaE4
namespace Go.Proofs.Ytlampmedeebekaa
open Go.ChangeShapes Go.WideShapes Go.ChangeAt Go.RowKit
set_option linter.unusedVariables false
set_option linter.unusedSimpArgs false
set_option maxRecDepth 100000
theorem maxs_step (l : List Int) (k : Nat) (hk : k < l.length) (M : Int) (h1 : ∀ x ∈ l.take k, x ≤ M) (h2 : M ∈ l.take k) : (∀ x ∈ l.take (k + 1), x ≤ max M (l.getD k 0)) ∧ max M (l.getD k 0) ∈ l.take (k + 1) := by
  rw [take_getD l k hk]
  constructor
  · intro x hx
    rcases List.mem_append.1 hx with hx | hx
    · have := h1 x hx; omega
    · rw [List.mem_singleton] at hx; omega
  · rcases Int.le_total M (l.getD k 0) with h | h
    · rw [Int.max_eq_right h]; simp
    · rw [Int.max_eq_left h]; exact List.mem_append_left _ h2
theorem sMax (a : Option Addr) (ca : Nat) (l : List Int) (hl : 1 ≤ l.length) (w : World) (h : IsInts w a l) :
    Calls Try.prog 86 #[.slice a l.length ca] w fun e w' => ∃ M, e = .returned (.int .i64 M) ∧ ((∀ x ∈ l, x ≤ M) ∧ M ∈ l) ∧ w' = w := by
  have HI := Lib.hid h
  have hb := h.1
  obtain ⟨x, rfl, hxb, cx⟩ := h.at 0 hl
  have c0 := cx 0 hl
  obtain ⟨M0, hM0⟩ : ∃ M0, l.getD 0 0 = M0 := ⟨_, rfl⟩
  rw [hM0] at c0
  have HM := Lib.hid (show (∀ y ∈ l.take 1, y ≤ M0) ∧ M0 ∈ l.take 1 by
    rw [take_getD l 0 hl, hM0]; simp)
  clear h cx hM0
  have c0 : w.cell? x = some (.int .i64 M0) := by have e : x.add 0 = x := by simp [Addr.add]
                                                  rw [← e]; exact c0
  have hd : decide ((l.length : Int) < 1) = false := by simp; omega
  go_enter Try.func86, Try.ntmps86
  go_wp2_with fail
  go_loopw [3, 4] (fun m i wr => ∃ k : Nat, 1 ≤ k ∧ k ≤ l.length ∧ i = .int .i64 k ∧ (∃ M, m = .int .i64 M ∧ Hid ((∀ y ∈ l.take k, y ≤ M) ∧ M ∈ l.take k)) ∧ wr = w) (fun _ i _ => l.length - (intOf i).toNat)
  case atStart => exact ⟨1, Nat.le_refl _, hl, rfl, ⟨M0, rfl, HM⟩, rfl⟩
  case round =>
    obtain ⟨k, hk1, hk, rfl, ⟨M, rfl, HMk⟩, rfl⟩ := hrel
    by_cases hlt : k < l.length
    · obtain ⟨x', e, -, cx1⟩ := HI.out.at k hlt
      injection e with e
      subst e
      have cx := cx1 k hlt
      clear cx1
      have HS := Lib.hid (maxs_step l k hlt M HMk.out.1 HMk.out.2)
      obtain ⟨Z, hZ⟩ : ∃ Z, l.getD k 0 = Z := ⟨_, rfl⟩
      rw [hZ] at cx HS
      have HMX := Lib.hid (show (if M < Z then Z else M) = max M Z by split <;> omega)
      clear hZ
      go_wp2_with fail
      go_roundw
      case rel => exact ⟨k + 1, by omega, by omega, by go_num, ⟨max M Z, congrArg (Value.int .i64) HMX.out, HS⟩, by first | trivial | rfl⟩
      case measure => simp [intOf]; omega
    · obtain rfl : k = l.length := by omega
      have hT := HMk.out
      rw [List.take_length] at hT
      have HT := Lib.hid hT
      clear hT
      go_wp2
      go_ret
      exact ⟨M, rfl, HT.out, rfl⟩
end Go.Proofs.Ytlampmedeebekaa
