/- Layer 48: the document's Turn, and the row ahead by counting. -/
import Derived.Test.YtpkidedepcnoaaaY9
import Derived.Test.YtpkidedepcnoaaaU12
namespace Go.Proofs.Ytpkidedepcnoaaa
open Go.ChangeShapes Go.WideShapes Go.ChangeAt Go.RowKit
set_option linter.unusedVariables false
set_option linter.unusedSimpArgs false
set_option maxRecDepth 100000
theorem dSign (T : List UInt8) (at_ row : Nat) (w : World) (hT : T.length ≤ 100000) (hr : row ≤ T.length) (ha : at_ ≤ T.length) (hne : row ≠ at_) :
    Calls Try.prog 46 #[.string (sM T), .int .i64 at_, .int .i64 row] w fun e w' => e = .returned (.int .u8 (byteAt T (sOfB at_ row) : Nat)) ∧ ∃ k, w' = w.drewN k := by
  have hS : (sM T).size = T.length := sM_size T
  unfold sOfB
  by_cases h : at_ < row
  · rw [if_pos h]
    obtain ⟨z, hz⟩ : ∃ z, row - 1 = z := ⟨_, rfl⟩
    rw [hz]
    have hzi : (row : Int) - 1 = (z : Int) := by omega
    have x1 := ixM T (z : Int) z rfl (by omega)
    have hzn : (z : Int) < T.length := by omega
    have h1 : (at_ : Int) < row := by omega
    unfold byteAt
    obtain ⟨Y, hY⟩ : ∃ Y, (T.getD z 0).toNat = Y := ⟨_, rfl⟩
    rw [hY] at x1 ⊢
    clear hY hz
    go_enter Try.func46, Try.ntmps46
    go_wp2_with fail
    go_ret
    exact ⟨rfl, 0, rfl⟩
  · rw [if_neg h]
    have x1 := ixM T (row : Int) row rfl (by omega)
    have hzn : (row : Int) < T.length := by omega
    have h1 : ¬ (at_ : Int) < row := by omega
    unfold byteAt
    obtain ⟨Y, hY⟩ : ∃ Y, (T.getD row 0).toNat = Y := ⟨_, rfl⟩
    rw [hY] at x1 ⊢
    clear hY
    go_enter Try.func46, Try.ntmps46
    go_wp2_with fail
    go_ret
    exact ⟨rfl, 0, rfl⟩
def kOf (at_ k : Nat) : Nat := if at_ < k then k - 1 else k
set_option maxHeartbeats 3200000 in
theorem dBefore (T : List UInt8) (at_ row : Nat) (w : World) (hT : T.length ≤ 10000) (hr : row ≤ T.length) (ha : at_ ≤ T.length) (hne : row ≠ at_) :
    Calls Try.prog 47 #[.string (sM T), .int .i64 at_, .int .i64 row] w fun e w' => e = .returned (.int .i64 (ahd T at_ row : Nat)) ∧ Below w.heap.size w w' := by
  obtain ⟨n, hn⟩ : ∃ n, T.length = n := ⟨_, rfl⟩
  have hS : (sM T).size = n := by rw [sM_size, hn]
  have CS := Lib.hid (fun r W (h1 : r ≤ T.length) (h2 : r ≠ at_) => dSign T at_ r W (by omega) h1 ha h2)
  have e0 : ((row : Int) == (at_ : Int)) = false := by rw [beq_eq_false_iff_ne]; omega
  have CS0 := Lib.hid (fun W => CS.out row W hr hne)
  obtain ⟨s0, hs0⟩ : ∃ s, sOfB at_ row = s := ⟨_, rfl⟩
  have hsl : s0 < n := by rw [← hs0]; unfold sOfB; split <;> omega
  have HE := Lib.hid (show ahd T at_ row = 1 + cbf T s0 n by rw [ahd, hs0, ← hn, cbf_posn T s0 (by omega)])
  have HS0 := Lib.hid hs0
  have HN := Lib.hid hn
  rw [hs0] at CS0
  obtain ⟨c, hc⟩ : ∃ c, byteAt T s0 = c := ⟨_, rfl⟩
  rw [hc] at CS0
  have HC := Lib.hid hc
  rw [hn] at hT hr ha
  clear hn hs0 hc
  go_enter Try.func47, Try.ntmps47
  go_wp2_with fail
  refine (CS0.out _).mono ?_; rintro e w1 ⟨rfl, kq, rfl⟩
  have HB := Lib.hid (below_dn (Below.refl w.heap.size w) kq)
  generalize w.drewN kq = w1 at *
  clear CS0
  go_wp2_with fail
  go_loopw [7, 9] (fun nv iv wr => ∃ k : Nat, k ≤ n + 1 ∧ iv = .int .i64 k ∧ nv = .int .i64 (1 + cbf T s0 (kOf at_ k) : Nat) ∧ Hid (Below w.heap.size w wr)) (fun _ iv _ => n + 1 - (intOf iv).toNat)
  case atStart => exact ⟨0, Nat.zero_le _, rfl, rfl, HB⟩
  case round =>
    clear HB
    obtain ⟨k, hk, rfl, rfl, HB⟩ := hrel
    by_cases hlt : k ≤ n
    · have hki : (k : Int) ≤ n := by omega
      by_cases hka : k = at_
      · have e1 : ((k : Int) == (at_ : Int)) = true := by rw [beq_iff_eq]; omega
        have e2 : kOf at_ (k + 1) = kOf at_ k := by unfold kOf; split <;> split <;> omega
        have E2 := Lib.hid e2
        obtain ⟨K, hK⟩ : ∃ K, kOf at_ k = K := ⟨_, rfl⟩
        rw [hK] at E2 ⊢
        clear hK e2 hka
        go_wp2_with fail
        go_roundw
        case rel => exact ⟨k + 1, by omega, by go_num, by rw [E2.out], HB⟩
        case measure => simp [intOf] <;> omega
      · have e1 : ((k : Int) == (at_ : Int)) = false := by rw [beq_eq_false_iff_ne]; omega
        have e2 : kOf at_ (k + 1) = kOf at_ k + 1 := by unfold kOf; split <;> split <;> omega
        have e3 : sOfB at_ k = kOf at_ k := rfl
        have e4 : kOf at_ k < s0 ↔ k < row := by rw [← HS0.out]; unfold kOf sOfB; split <;> split <;> omega
        have CK := Lib.hid (fun W => CS.out k W (by rw [HN.out]; exact hlt) hka)
        rw [e3] at CK
        have hst := cbf_step T s0 (kOf at_ k)
        rw [← e2, HC.out] at hst
        have hle := cbf_le T s0 (kOf at_ k)
        have hkl : kOf at_ k ≤ n := by unfold kOf; split <;> omega
        obtain ⟨K, hK⟩ : ∃ K, kOf at_ k = K := ⟨_, rfl⟩
        rw [hK] at CK hst hle hkl e4 ⊢
        obtain ⟨m, hm⟩ : ∃ m, byteAt T K = m := ⟨_, rfl⟩
        rw [hm] at CK hst
        obtain ⟨C, hC⟩ : ∃ C, cbf T s0 K = C := ⟨_, rfl⟩
        rw [hC] at hst hle ⊢
        clear hK hm hC e2 e3 hka
        by_cases h1 : m < c
        · have h1i : (m : Int) < c := by omega
          rw [if_pos (.inl h1)] at hst
          have HST := Lib.hid hst
          clear hst e4 h1
          go_wp2_with fail
          refine (CK.out _).mono ?_; rintro e w5 ⟨rfl, kq, rfl⟩
          have HB := Lib.hid (below_dn HB.out kq)
          generalize wr.drewN kq = w5 at *
          clear CK
          go_wp2_with fail
          go_roundw
          case rel => exact ⟨k + 1, by omega, by go_num, by rw [HST.out]; go_num, HB⟩
          case measure => simp [intOf] <;> omega
        · have h1i : ¬ (m : Int) < c := by omega
          by_cases h2 : m = c
          · subst h2
            by_cases h3 : k < row
            · have h3i : (k : Int) < row := by omega
              rw [if_pos (.inr ⟨rfl, e4.2 h3⟩)] at hst
              have HST := Lib.hid hst
              clear hst e4 h1 h3
              go_wp2_with fail
              refine (CK.out _).mono ?_; rintro e w5 ⟨rfl, kq, rfl⟩
              have HB := Lib.hid (below_dn HB.out kq)
              generalize wr.drewN kq = w5 at *
              clear CK
              go_wp2_with fail
              go_roundw
              case rel => exact ⟨k + 1, by omega, by go_num, by rw [HST.out]; go_num, HB⟩
              case measure => simp [intOf] <;> omega
            · have h3i : ¬ (k : Int) < row := by omega
              rw [if_neg (fun h => h.elim h1 (fun h => h3 (e4.1 h.2)))] at hst
              have HST := Lib.hid hst
              clear hst e4 h1 h3
              go_wp2_with fail
              refine (CK.out _).mono ?_; rintro e w5 ⟨rfl, kq, rfl⟩
              have HB := Lib.hid (below_dn HB.out kq)
              generalize wr.drewN kq = w5 at *
              clear CK
              go_wp2_with fail
              go_roundw
              case rel => exact ⟨k + 1, by omega, by go_num, by rw [HST.out]; go_num, HB⟩
              case measure => simp [intOf] <;> omega
          · have h2i : ((m : Int) == (c : Int)) = false := by rw [beq_eq_false_iff_ne]; omega
            rw [if_neg (fun h => h.elim h1 (fun h => h2 h.1))] at hst
            have HST := Lib.hid hst
            clear hst e4 h1 h2
            go_wp2_with fail
            refine (CK.out _).mono ?_; rintro e w5 ⟨rfl, kq, rfl⟩
            have HB := Lib.hid (below_dn HB.out kq)
            generalize wr.drewN kq = w5 at *
            clear CK
            go_wp2_with fail
            go_roundw
            case rel => exact ⟨k + 1, by omega, by go_num, by rw [HST.out]; go_num, HB⟩
            case measure => simp [intOf] <;> omega
    · obtain rfl : k = n + 1 := by omega
      have hki : ¬ ((n + 1 : Nat) : Int) ≤ n := by omega
      have e2 : kOf at_ (n + 1) = n := by unfold kOf; split <;> omega
      rw [e2]
      obtain ⟨C, hC⟩ : ∃ C, cbf T s0 n = C := ⟨_, rfl⟩
      have HE2 := Lib.hid (HE.out.trans (by rw [hC]))
      rw [hC]
      clear hC e2 HE
      go_wp2_with fail
      go_ret
      exact ⟨by rw [HE2.out, Int.natCast_add]; rfl, HB.out⟩
end Go.Proofs.Ytpkidedepcnoaaa
