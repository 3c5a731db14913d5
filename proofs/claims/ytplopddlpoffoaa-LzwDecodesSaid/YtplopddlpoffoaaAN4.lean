/- Layer 60: the document's search for the longest row. -/
import Derived.Test.YtplopddlpoffoaaAN3
namespace Go.Proofs.Ytplopddlpoffoaa
open Go.ChangeShapes Go.WideShapes Go.ChangeAt Go.RowKit
set_option linter.unusedVariables false
set_option linter.unusedSimpArgs false
set_option maxRecDepth 100000
open Bits
theorem lng_go_step (S : Row8) (l : List Row8) (k best n : Nat) (r : Row8) (h : l[k]? = some r) : lngGo S (l.drop k) k best n = if n < r.length ∧ r <+: S then lngGo S (l.drop (k + 1)) (k + 1) k r.length else lngGo S (l.drop (k + 1)) (k + 1) best n := by
  obtain ⟨hk, rfl⟩ := List.getElem?_eq_some_iff.1 h
  rw [List.drop_eq_getElem_cons hk]; rfl
theorem cut_pre (S r : Row8) (h : r.length ≤ S.length) : (((sB S).extract 0 r.length).toList == (sB r).toList) = decide (r <+: S) := by
  rw [sB_cut, List.drop_zero, ByteArray.toList_eq, ByteArray.toList_eq, sB_list, sB_list]
  rw [Bool.eq_iff_iff, beq_iff_eq, decide_eq_true_iff, List.prefix_iff_eq_take]
  exact eq_comm
/-- What the document's search leaves. -/
def SeenZ (S : Row8) (l : List Row8) (k best n : Nat) : Prop := lngGo S (l.drop k) k best n = lng l S
set_option maxHeartbeats 3200000 in
theorem dLongest (g c : Nat) (l : List Row8) (S : Row8) (B : Nat) (w : World) (h : OwnT B w (.slice (some ⟨g, 0, none⟩) l.length c) l) (hl : l.length ≤ 65536) (hr : ∀ r ∈ l, r.length ≤ 100000) (hS : S.length ≤ 100000) :
    Calls Try.prog 46 #[.slice (some ⟨g, 0, none⟩) l.length c, .string (sB S)] w fun e w' => e = .returned (.int .i64 (lng l S : Nat)) ∧ ∃ m, w' = w.drewN m := by
  have HC := Lib.hid (fun k r (hr : l[k]? = some r) => show w.cell? ⟨g, k, none⟩ = some (.string (sB r)) by
    have := OwnS.cell flatS8 h k 0 r hr (by decide)
    simpa [fS8] using this)
  have HR := Lib.hid hr
  have HG : Hid (lngGo S (l.drop 0) 0 0 0 = lng l S) := rfl
  have hSs := sB_size S
  clear h hr
  go_enter Try.func46, Try.ntmps46
  go_wp2_with fail
  go_loopw [5, 6, 7] (fun b n i wr => ∃ k best m : Nat, k ≤ l.length ∧ i = .int .i64 k ∧ b = .int .i64 best ∧ best ≤ 65536 ∧ m ≤ 100000 ∧ n = .int .i64 m ∧ Hid (SeenZ S l k best m) ∧ Hid (∃ j, wr = w.drewN j)) (fun _ _ i _ => l.length - (intOf i).toNat)
  case atStart => exact ⟨0, 0, 0, Nat.zero_le _, rfl, rfl, by omega, by omega, rfl, HG, Lib.hid ⟨0, rfl⟩⟩
  case round =>
    obtain ⟨k, best, m, hk, rfl, rfl, hb, hm, rfl, hsn, hj⟩ := hrel
    have HJ := Lib.hid (show ∀ nq, Hid (∃ j, wr.drewN nq = w.drewN j) from fun nq => by
      obtain ⟨j, rfl⟩ := hj.out
      exact Lib.hid ⟨_, World.drewN_drewN w j nq⟩)
    by_cases hlt : k < l.length
    · obtain ⟨r, hr⟩ : ∃ r, l[k]? = some r := ⟨l[k], by simp [hlt]⟩
      have cx : wr.cell? ⟨g, k, none⟩ = some (.string (sB r)) := by
        obtain ⟨j, rfl⟩ := hj.out
        exact HC.out k r hr
      have hst := lng_go_step S l k best m r hr
      have hrs := sB_size r
      have hrl := HR.out r (List.mem_of_getElem? hr)
      have hk1 : (k : Int) < (l.length : Int) := by omega
      have HSN := Lib.hid (show (if m < r.length ∧ r <+: S then lngGo S (l.drop (k + 1)) (k + 1) k r.length else lngGo S (l.drop (k + 1)) (k + 1) best m) = lng l S from hst ▸ hsn.out)
      clear hst hsn hr
      by_cases h1 : m < r.length
      · have h1i : (m : Int) < (r.length : Int) := by omega
        by_cases h2 : r.length ≤ S.length
        · have h2i : (r.length : Int) ≤ (S.length : Int) := by omega
          have hcp := cut_pre S r h2
          have hsl : ∀ W, (Instr.slice 9 (.string (sB S)) none (some (.int .i64 (r.length : Int))) none).run Try.prog W = .ok (.string ((sB S).extract 0 r.length)) W := by
            intro W
            have := run_slice_string_h (P := Try.prog) W 9 (sB S) Try.underlying9 .i64 (r.length : Int) (by omega) (by omega)
            simpa using this
          by_cases hp : r <+: S
          · rw [if_pos ⟨h1, hp⟩] at HSN
            rw [decide_eq_true hp] at hcp
            clear hp h1 h2
            go_wp2_with fail
            go_quiet (fail)
            go_wp2_with fail
            go_roundw
            case rel => exact ⟨k + 1, k, r.length, by omega, by go_num, rfl, by omega, by omega, rfl, HSN, HJ.out _⟩
            case measure => simp [intOf]; omega
          · rw [if_neg (fun e => hp e.2)] at HSN
            rw [decide_eq_false hp] at hcp
            clear hp h1 h2
            go_wp2_with fail
            go_quiet (fail)
            go_wp2_with fail
            go_roundw
            case rel => exact ⟨k + 1, best, m, by omega, by go_num, rfl, by omega, by omega, rfl, HSN, HJ.out _⟩
            case measure => simp [intOf]; omega
        · rw [if_neg (fun e => h2 e.2.length_le)] at HSN
          have h2i : ¬ (r.length : Int) ≤ (S.length : Int) := by omega
          go_wp2_with fail
          go_quiet (fail)
          go_wp2_with fail
          go_roundw
          case rel => exact ⟨k + 1, best, m, by omega, by go_num, rfl, by omega, by omega, rfl, HSN, HJ.out _⟩
          case measure => simp [intOf]; omega
      · rw [if_neg (fun e => h1 e.1)] at HSN
        have h1i : ¬ (m : Int) < (r.length : Int) := by omega
        go_wp2_with fail
        go_quiet (fail)
        go_wp2_with fail
        go_roundw
        case rel => exact ⟨k + 1, best, m, by omega, by go_num, rfl, by omega, by omega, rfl, HSN, HJ.out _⟩
        case measure => simp [intOf]; omega
    · obtain rfl : k = l.length := by omega
      have hE : best = lng l S := by
        have := hsn.out
        unfold SeenZ at this
        rw [List.drop_length] at this
        exact this
      subst hE
      clear hsn
      go_wp2_with fail
      go_ret
      exact ⟨rfl, hj.out⟩
end Go.Proofs.Ytplopddlpoffoaa
