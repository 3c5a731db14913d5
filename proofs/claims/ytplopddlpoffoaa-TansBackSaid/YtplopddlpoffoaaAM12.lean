/- Layer 59: the document's Decode. -/
import Derived.Test.YtplopddlpoffoaaAM11
import Derived.Test.YtplopddlpoffoaaAM7
namespace Go.Proofs.Ytplopddlpoffoaa
open Go.ChangeShapes Go.WideShapes Go.ChangeAt Go.RowKit
set_option linter.unusedVariables false
set_option linter.unusedSimpArgs false
set_option maxRecDepth 100000
open Bits
set_option maxHeartbeats 1600000 in
theorem dBefore (a : Option Addr) (c : Nat) (L : List Int) (x : Nat) (w : World) (h : IsInts w a L) (hx : x < L.length) (hl : L.length ≤ 5000) : Calls Try.prog 38 #[.slice a L.length c, .int .i64 x] w fun e w' => e = .returned (.int .i64 (befTo L (L.getD x 0) x)) ∧ ∃ j, w' = w.drewN j := by
  have HI := Lib.hid h
  have HB := Lib.hid (fun k => befTo_le L (L.getD x 0) k)
  have HST := Lib.hid (show ∀ k, befTo L (L.getD x 0) (k + 1) = befTo L (L.getD x 0) k + if L.getD k 0 = L.getD x 0 then 1 else 0 from fun k => rfl)
  obtain ⟨V, hV⟩ : ∃ V, L.getD x 0 = V := ⟨_, rfl⟩
  rw [hV] at HB HST ⊢
  have HV := Lib.hid hV
  clear h hV
  go_enter Try.func38, Try.ntmps38
  go_wp2_with fail
  go_loopw [5, 6] (fun nv iv wr => ∃ k : Nat, k ≤ x ∧ iv = .int .i64 k ∧ nv = .int .i64 (befTo L V k) ∧ ∃ j, wr = w.drewN j) (fun _ iv _ => x - (intOf iv).toNat)
  case atStart => exact ⟨0, Nat.zero_le _, rfl, rfl, 0, rfl⟩
  case round =>
    obtain ⟨k, hk, rfl, rfl, j, rfl⟩ := hrel
    by_cases hlt : k < x
    · obtain ⟨y, rfl, -, cy⟩ := HI.out.at k (by omega)
      have c1 := cy k (by omega)
      have c2 := cy x hx
      rw [HV.out] at c2
      have hb := HB.out k
      have hst := HST.out k
      obtain ⟨U, hU⟩ : ∃ U, L.getD k 0 = U := ⟨_, rfl⟩
      rw [hU] at c1 hst
      obtain ⟨b, hbb⟩ : ∃ b, befTo L V k = b := ⟨_, rfl⟩
      rw [hbb] at hb hst ⊢
      have HS2 := Lib.hid hst
      have hk1 : (k : Int) < (L.length : Int) := by omega
      have hx1 : (x : Int) < (L.length : Int) := by omega
      have hw : IntKind.i64.wrap ((b : Int) + 1) = (b : Int) + 1 := by rw [IntKind.wrap_i64]; omega
      clear cy hU hbb hst
      by_cases he : U = V
      · rw [if_pos he] at HS2
        have he2 : (U == V) = true := by rw [beq_iff_eq]; exact he
        go_wp2_with fail
        go_quiet (fail)
        go_wp2_with fail
        go_roundw
        case rel => exact ⟨k + 1, by omega, by go_num, by rw [HS2.out]; congr 1, _, rfl⟩
        case measure => simp [intOf]; omega
      · rw [if_neg he] at HS2
        have he2 : (U == V) = false := by rw [beq_eq_false_iff_ne]; exact he
        go_wp2_with fail
        go_quiet (fail)
        go_wp2_with fail
        go_roundw
        case rel => exact ⟨k + 1, by omega, by go_num, by rw [HS2.out]; rfl, _, rfl⟩
        case measure => simp [intOf]; omega
    · obtain rfl : k = x := by omega
      go_wp2_with fail
      go_ret
      exact ⟨rfl, j, rfl⟩
set_option maxHeartbeats 1600000 in
theorem dLeft59 (a : Option Addr) (c : Nat) (r : List Bool) (w : World) (h : IsBoo w a r) (hl : r.length ≤ 1000000) : Calls Try.prog 39 #[.slice a r.length c] w fun e w' => e = .returned (.bool (okL r)) ∧ w' = w := by
  obtain ⟨R, hR⟩ : ∃ R, okL r = R := ⟨_, rfl⟩
  rw [hR]
  have HR := Lib.hid hR
  have HI := Lib.hid h
  clear hR h
  go_enter Try.func39, Try.ntmps39
  go_wp2_with fail
  go_loopw [3] (fun iv wr => ∃ k : Nat, k ≤ r.length ∧ iv = .int .i64 k ∧ Hid (∀ i, i < k → r.getD i false = false) ∧ wr = w) (fun iv _ => r.length - (intOf iv).toNat)
  case atStart => exact ⟨0, Nat.zero_le _, rfl, Lib.hid (fun i hi => by omega), rfl⟩
  case round =>
    obtain ⟨k, hk, rfl, hall, rfl⟩ := hrel
    by_cases hlt : k < r.length
    · obtain ⟨x, rfl, -, cx⟩ := HI.out.at k hlt
      obtain ⟨B, hB⟩ : ∃ B, r.getD k false = B := ⟨_, rfl⟩
      rw [hB] at cx
      have hk1 : (k : Int) < (r.length : Int) := by omega
      cases B with
      | true =>
        have hr := HR.out
        have : okL r = false := by
          unfold okL
          rw [Bool.and_eq_false_iff]
          right
          rw [← Bool.not_eq_true]
          intro hh
          have h2 := List.all_eq_true.1 hh r[k] (List.getElem_mem hlt)
          rw [List.getD_eq_getElem?_getD, List.getElem?_eq_getElem hlt] at hB
          simp at hB h2
          rw [hB] at h2; cases h2
        rw [this] at hr
        subst hr
        clear hB
        go_wp2_with fail
        go_ret
        exact ⟨rfl, rfl⟩
      | false =>
        have HA2 := Lib.hid (show ∀ i, i < k + 1 → r.getD i false = false from fun i hi => by
          by_cases e : i = k
          · subst e; exact hB
          · exact hall.out i (by omega))
        clear hB
        go_wp2_with fail
        go_roundw
        case rel => exact ⟨k + 1, by omega, by go_num, HA2, by first | rfl | trivial⟩
        case measure => simp [intOf]; omega
    · obtain rfl : k = r.length := by omega
      have hr := HR.out
      have : okL r = decide (r.length < 8) := by
        unfold okL
        have : r.all (fun b => !b) = true := List.all_eq_true.2 (fun b hb => by
          obtain ⟨i, hi, e⟩ := List.mem_iff_getElem.1 hb
          have := hall.out i hi
          rw [List.getD_eq_getElem?_getD, List.getElem?_eq_getElem hi, e] at this
          simp at this; simp [this])
        rw [this, Bool.and_true]
      rw [this] at hr
      have hr2 : decide ((r.length : Int) < 8) = R := by rw [← hr]; simp; omega
      clear hr this
      go_wp2_with fail
      go_ret
      exact ⟨by first | rw [← hr2]; rfl | simp_all, rfl⟩
end Go.Proofs.Ytplopddlpoffoaa
