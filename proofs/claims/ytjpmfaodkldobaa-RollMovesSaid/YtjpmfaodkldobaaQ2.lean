/- Layer 42: borders. -/
import Derived.Test.YtjpmfaodkldobaaQ1
import Derived.Deep.RegionHeld3
namespace Go.Proofs.Ytjpmfaodkldobaa
open Go.ChangeShapes Go.WideShapes Go.ChangeAt Go.RowKit
set_option linter.unusedVariables false
set_option maxRecDepth 100000
open RollMath
/-- The borders of the first k. -/
def BorsTo (p : List UInt8) (bl : List Int) (k : Nat) : Prop := bl.length = p.length ∧ ∀ j, 1 ≤ j → j ≤ k → ∃ b : Nat, bl.getD (j - 1) 0 = b ∧ Bor p j b
theorem bors_next {p : List UInt8} {bl : List Int} {k n : Nat} (h : BorsTo p bl k) (hk : k < p.length) (hb : Bor p (k + 1) n) : BorsTo p (bl.set k (n : Int)) (k + 1) := by
  refine ⟨by rw [List.length_set]; exact h.1, fun j h1 h2 => ?_⟩
  by_cases e : j = k + 1
  · subst e
    refine ⟨n, ?_, hb⟩
    rw [Nat.add_sub_cancel]
    simp [List.getD_eq_getElem?_getD, List.getElem?_set, h.1, hk]
  · obtain ⟨b, hb1, hb2⟩ := h.2 j h1 (by omega)
    refine ⟨b, ?_, hb2⟩
    rw [← hb1]
    simp only [List.getD_eq_getElem?_getD, List.getElem?_set]
    rw [if_neg (by omega)]
theorem bor_one (p : List UInt8) : Bor p 1 0 := ⟨by decide, by simp, fun m hm _ => by omega⟩
theorem bors_start (p : List UInt8) (hp : 0 < p.length) : BorsTo p (List.replicate p.length 0) 1 := by
  refine ⟨by simp, fun j h1 h2 => ?_⟩
  obtain rfl : j = 1 := by omega
  exact ⟨0, by simp [List.getD_eq_getElem?_getD, hp], bor_one p⟩
set_option maxHeartbeats 3200000 in
theorem rBorders (p : ByteArray) (hp : 0 < p.size) (hs : p.size ≤ 1048576) (w : World) :
    Calls Try.prog 71 #[.string p] w fun e w' => ∃ v' bl, e = .returned v' ∧ OwnI w.heap.size w' v' bl ∧ BorsTo p.data.toList bl p.size ∧ Below w.heap.size w w' := by
  have hpl : p.data.toList.length = p.size := by simp
  have HLl := Lib.hid (show p.size ≤ 1099511627776 by omega)
  have HG := Lib.hid (L_get p)
  have HST := Lib.hid (bors_start p.data.toList (by rw [hpl]; exact hp))
  rw [hpl] at HST
  have hpl_ := Lib.hid hpl
  clear hpl
  go_enter Try.func71, Try.ntmps71
  go_wp2_with (refine make_int rfl (.tmp 7) (.tmp 7) rfl .i64 .i64 _ _ p.size rfl rfl rfl rfl HLl.out ?_; intro w3 hown hb3 hsz3)
  have hown_ := Lib.hid hown
  clear hown
  go_loopw [4, 5] (fun n i wr => ∃ (i0 n0 : Nat) (bl : List Int), 1 ≤ i0 ∧ i0 ≤ p.size ∧ i = .int .i64 i0 ∧ n = .int .i64 n0 ∧ n0 < i0 ∧ Hid (Best p.data.toList ((p.data.toList.take i0).drop 1) n0) ∧ OwnI w.heap.size wr (.slice (some ⟨w.heap.size, 0, none⟩) p.size p.size) bl ∧ Hid (BorsTo p.data.toList bl i0) ∧ Below w.heap.size w wr) (fun _ i _ => p.size - (intOf i).toNat)
  case atStart => exact ⟨1, 0, _, Nat.le_refl _, hp, rfl, rfl, by decide, Lib.hid (by
    have e : (List.take 1 p.data.toList).drop 1 = [] := by rw [List.drop_eq_nil_iff, List.length_take]; omega
    rw [e]; exact best_nil _), hown_.out, HST, hb3⟩
  case round =>
    clear hb3
    obtain ⟨i, n, bl, hi1, hi, rfl, rfl, hni, hbest, hown, hbs, hb⟩ := hrel
    by_cases hit : i < p.size
    · have hci := HG.out i hit
      have hcd := Lib.hid (best_cand hbest.out p[i])
      have HT := Lib.hid (drop_take_snoc p.data.toList i hi1 _ hci)
      have hlen := hbs.out.1
      rw [hpl_.out] at hlen
      have hown_ := Lib.hid hown
      have hbs_ := hbs
      have hlen_ := Lib.hid hlen
      have hbO := Lib.hid hb
      clear hown hlen hci
      go_wp2
      obtain ⟨wo, rfl⟩ : ∃ wo : World, wo = wr := ⟨_, rfl⟩
      go_loopw [4] (fun u wr => ∃ n0 : Nat, u = .int .i64 n0 ∧ n0 < i ∧ Hid (Cand p.data.toList ((p.data.toList.take i).drop 1) p[i] n0) ∧ ∃ q, wr = wo.drewN q) (fun u _ => (intOf u).toNat)
      case atStart => exact ⟨n, rfl, hni, hcd, 0, rfl⟩
      case round =>
        clear hcd hbest hni
        obtain ⟨n, rfl, hni, hcd, q, rfl⟩ := hrel
        have hnp : n < p.size := by omega
        have hgn := HG.out n hnp
        by_cases h0 : 0 < n
        · have e0 : decide (0 < (n : Int)) = true := by simp; omega
          have e0n : decide (0 < n) = true := by simpa using h0
          by_cases hc : p[n] = p[i]
          · have e1 : ((p[n].toNat : Int) != (p[i].toNat : Int)) = false := by rw [hc]; simp
            have e1e : ((p[n].toNat : Int) == (p[i].toNat : Int)) = true := by rw [hc]; simp
            have hhit := cand_hit hcd.out (by rw [hgn, hc])
            rw [← HT.out] at hhit
            clear hgn hc hcd
            have HBo := best_bor (k := i + 1) (by omega) (by rw [hpl_.out]; omega) hhit
            have HBs := Lib.hid (bors_next hbs_.out (by rw [hpl_.out]; exact hit) HBo)
            have HH := Lib.hid hhit
            have hq := hown_.out.int_cell i (by rw [hlen_.out]; exact hit)
            have hfr := hown_.out.free i
            have HSt := Lib.hid (hown_.out.set_int i ((n + 1 : Nat) : Int) (by rw [hlen_.out]; exact hit))
            clear hhit HBo
            go_wp2
            go_quiet (fail)
            go_wp2
            go_quiet (fail)
            go_wp2
            go_roundw
            case rel => exact ⟨i + 1, n + 1, _, by omega, by omega, by go_num, by go_num, by omega, HH, HSt.out.drewN _, HBs, below_dn (hbO.out.setCell (Nat.le_refl _) _) _⟩
            case measure => simp [intOf]; omega
          · have e1 : ((p[n].toNat : Int) != (p[i].toNat : Int)) = true := by
              rw [bne_iff_ne]; intro h; exact hc (UInt8.toNat_inj.1 (by omega))
            have e1e : ((p[n].toNat : Int) == (p[i].toNat : Int)) = false := by
              rw [beq_eq_false_iff_ne]; intro h; exact hc (UInt8.toNat_inj.1 (by omega))
            obtain ⟨b, hb1, hb2⟩ := hbs_.out.2 n (by omega) (by omega)
            have hfall := Lib.hid (cand_fall hcd.out hb2 (by rw [hgn]; intro h; injection h with h; exact hc h))
            have hbn := hb2.1
            have hq := hown_.out.int_cell (n - 1) (by rw [hlen_.out]; omega)
            rw [hb1] at hq
            have hni2 : ((n : Int) - 1).toNat = n - 1 := by omega
            clear hgn hc hb1 hb2 hcd
            go_wp2
            go_quiet (fail)
            go_wp2
            go_roundw
            case rel => exact ⟨b, rfl, by omega, hfall, _, by first | rfl | rw [World.drewN_drewN]⟩
            case measure => simp [intOf]; omega
        · obtain rfl : n = 0 := by omega
          by_cases hc : p[0] = p[i]
          · have e1e : ((p[0].toNat : Int) == (p[i].toNat : Int)) = true := by rw [hc]; simp
            have hhit := cand_hit hcd.out (by rw [hgn, hc])
            rw [← HT.out] at hhit
            clear hgn hc hcd
            have HBo := best_bor (k := i + 1) (by omega) (by rw [hpl_.out]; omega) hhit
            have HBs := Lib.hid (bors_next hbs_.out (by rw [hpl_.out]; exact hit) HBo)
            have HH := Lib.hid hhit
            have hq := hown_.out.int_cell i (by rw [hlen_.out]; exact hit)
            have hfr := hown_.out.free i
            have HSt := Lib.hid (hown_.out.set_int i ((0 + 1 : Nat) : Int) (by rw [hlen_.out]; exact hit))
            clear hhit HBo
            go_wp2
            go_quiet (fail)
            go_wp2
            go_quiet (fail)
            go_wp2
            go_roundw
            case rel => exact ⟨i + 1, 0 + 1, _, by omega, by omega, by go_num, by go_num, by omega, HH, HSt.out.drewN _, HBs, below_dn (hbO.out.setCell (Nat.le_refl _) _) _⟩
            case measure => simp [intOf]; omega
          · have e1e : ((p[0].toNat : Int) == (p[i].toNat : Int)) = false := by
              rw [beq_eq_false_iff_ne]; intro h; exact hc (UInt8.toNat_inj.1 (by omega))
            have hhit := cand_miss hcd.out (by rw [hgn]; intro h; injection h with h; exact hc h)
            rw [← HT.out] at hhit
            clear hgn hc hcd
            have HBo := best_bor (k := i + 1) (by omega) (by rw [hpl_.out]; omega) hhit
            have HBs := Lib.hid (bors_next hbs_.out (by rw [hpl_.out]; exact hit) HBo)
            have HH := Lib.hid hhit
            have hq := hown_.out.int_cell i (by rw [hlen_.out]; exact hit)
            have hfr := hown_.out.free i
            have HSt := Lib.hid (hown_.out.set_int i ((0 : Nat) : Int) (by rw [hlen_.out]; exact hit))
            clear hhit HBo
            go_wp2
            go_quiet (fail)
            go_wp2
            go_quiet (fail)
            go_wp2
            go_roundw
            case rel => exact ⟨i + 1, 0, _, by omega, by omega, by go_num, by go_num, by omega, HH, HSt.out.drewN _, HBs, below_dn (hbO.out.setCell (Nat.le_refl _) _) _⟩
            case measure => simp [intOf]; omega
    · obtain rfl : i = p.size := by omega
      have hown_ := Lib.hid hown
      clear hown
      go_wp2
      go_ret
      exact ⟨_, bl, rfl, hown_.out, hbs.out, hb⟩
end Go.Proofs.Ytjpmfaodkldobaa
