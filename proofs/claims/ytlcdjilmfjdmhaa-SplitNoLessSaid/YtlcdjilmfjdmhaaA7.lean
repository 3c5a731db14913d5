/- Layer 53: Cost, both. -/
import Derived.Test.YtlcdjilmfjdmhaaA6
namespace Go.Proofs.Ytlcdjilmfjdmhaa
open Go.ChangeShapes Go.WideShapes Go.ChangeAt Go.RowKit
set_option linter.unusedVariables false
set_option linter.unusedSimpArgs false
set_option maxRecDepth 100000
theorem sM_toL (L : List UInt8) : (sM L).toList = L := by rw [ByteArray.toList_eq]; simp [sM]
/-- What a text costs. -/
def costV (fee : Int) (L : List UInt8) : Int := if L.length = 0 then 0 else ent L + fee
def Frq (l : List Int) (L : List UInt8) : Prop := l.length = 256 ∧ ∀ b, b < 256 → l.getD b 0 = (cn L b : Int)
theorem Frq.start : Frq (List.replicate 256 0) [] := ⟨List.length_replicate, fun b hb => by rw [List.getD_eq_getElem?_getD, List.getElem?_replicate, if_pos hb]; rfl⟩
theorem take8 (L : List UInt8) (k : Nat) (h : k < L.length) : L.take (k + 1) = L.take k ++ [L.getD k 0] := by
  rw [List.take_succ_eq_append_getElem h]; simp [List.getD_eq_getElem?_getD, h]
theorem Frq.step {l : List Int} {L : List UInt8} {k : Nat} (h : Frq l (L.take k)) (hk : k < L.length) (x : Nat) (hx : (L.getD k 0).toNat = x) : x < 256 ∧ ∃ f : Nat, f ≤ k ∧ l.getD x 0 = (f : Int) ∧ Frq (l.set x ((f : Int) + 1)) (L.take (k + 1)) := by
  have hx2 : x < 256 := by rw [← hx]; exact (L.getD k 0).toNat_lt
  refine ⟨hx2, cn (L.take k) x, ?_, h.2 x hx2, by rw [List.length_set]; exact h.1, fun b hb => ?_⟩
  · have := cn_le (L.take k) x; rw [List.length_take] at this; omega
  · rw [set_getI _ _ _ _ (by rw [h.1]; exact hx2), take8 L k hk, cn_snoc, hx]
    by_cases e : x = b
    · subst e; rw [if_pos rfl, if_pos rfl]; simp
    · rw [if_neg e, if_neg e, Nat.add_zero]; exact h.2 b hb
theorem Frq.eq {l : List Int} {L : List UInt8} (h : Frq l L) : l = frq L := by
  apply List.ext_getElem (by rw [h.1]; simp [frq])
  intro i h1 h2
  have := h.2 i (by rw [← h.1]; exact h1)
  rw [List.getD_eq_getElem?_getD, List.getElem?_eq_getElem h1, Option.getD_some] at this
  rw [this]; simp [frq]
theorem cEnt (g : Nat) (L : List UInt8) (l : List Int) (w : World) (hV : IsV w g l) (hl : Frq l L) (hL : L.length ≤ 67108864) (E : Int) (hE : ent L = E) :
    Calls Try.prog 53 #[.slice (some ⟨g, 0, none⟩) 256 256] w fun e w' => e = .returned (.tuple #[.int .i64 E, .int .i64 0]) ∧ w' = w := by
  subst hE
  refine (Entropy_any (some ⟨g, 0, none⟩) 256 256 l w hl.1 (by decide) (hV.isInts (by rw [hl.1]; decide)).2).mono fun e w' ⟨h1, h2⟩ => ?_
  rw [hl.eq, ok_frq L (by omega)] at h2
  simp only at h2
  rw [Int.toNat_natCast, need_frq] at h2
  exact ⟨h2, h1.symm⟩
theorem dEnt (g : Nat) (L : List UInt8) (l : List Int) (w : World) (hV : IsV w g l) (hl : Frq l L) (hL : L.length ≤ 67108864) (E : Int) (hE : ent L = E) :
    Calls Try.prog 54 #[.slice (some ⟨g, 0, none⟩) 256 256] w fun e w' => e = .returned (.tuple #[.int .i64 E, .int .i64 0]) ∧ w' = w := by
  subst hE
  refine (refEntropy_any (some ⟨g, 0, none⟩) 256 256 l w hl.1 (by decide) (hV.isInts (by rw [hl.1]; decide)).2).mono fun e w' ⟨h1, h2⟩ => ?_
  rw [hl.eq, ok_frq L (by omega)] at h2
  simp only at h2
  rw [Int.toNat_natCast, need_frq] at h2
  exact ⟨h2, h1.symm⟩
theorem ent_bd (L : List UInt8) (h : L.length ≤ 67108864) : 0 ≤ ent L ∧ ent L ≤ 34292629504 := by
  have h1 := ent_nonneg L (by omega)
  have h2 := wt_bd L.length h
  have h3 := esum_bd L h
  refine ⟨h1, ?_⟩
  unfold ent
  omega
set_option maxHeartbeats 1600000 in
theorem cCost (L : List UInt8) (fee : Int) (w : World) (hL : L.length ≤ 67108864) (hf0 : 0 ≤ fee) (hf1 : fee ≤ 1048576) :
    Calls Try.prog 28 #[.string (sM L), .int .i64 fee] w fun e w' => e = .returned (.int .i64 (costV fee L)) ∧ Below w.heap.size w w' := by
  have hS : (sM L).size = L.length := sM_size L
  have hT : (sM L).toList.isEmpty = decide (L.length = 0) := by rw [sM_toL]; cases L <;> simp
  by_cases h0 : L.length = 0
  · have hV : costV fee L = 0 := if_pos h0
    have e0 : (sM L).toList.isEmpty = true := by rw [hT]; exact decide_eq_true h0
    rw [hV]
    clear hT hV
    go_enter Try.func28, Try.ntmps28
    go_wp2_with fail
    go_ret
    exact ⟨rfl, Below.refl _ _⟩
  · have hV : costV fee L = ent L + fee := if_neg h0
    have e0 : (sM L).toList.isEmpty = false := by rw [hT]; exact decide_eq_false h0
    have e1 : decide ((67108864 : Int) < L.length) = false := decide_eq_false (by omega)
    have e2 : ¬ (67108864 : Int) < L.length := by omega
    rw [hV]
    have heb := ent_bd L hL
    obtain ⟨E, hE⟩ : ∃ E, ent L = E := ⟨_, rfl⟩
    rw [hE] at heb ⊢
    have CE := Lib.hid (fun g l W h1 h2 => cEnt g L l W h1 h2 hL E hE)
    obtain ⟨n, hn⟩ : ∃ n, L.length = n := ⟨_, rfl⟩
    rw [hn] at hS hL e1 e2
    have HN := Lib.hid hn
    obtain ⟨B256, h256⟩ : ∃ b, b = 256 := ⟨256, rfl⟩
    clear hT hV hE hn
    go_enter Try.func28, Try.ntmps28
    go_wp2_with (refine make_int rfl _ _ rfl .i64 .i64 (256 : Int) (256 : Int) 256 rfl rfl rfl rfl (by omega) ?_; intro w1 ho1 hb1 hs1)
    have HV := Lib.hid (own_V ho1)
    have HB := Lib.hid hb1
    obtain ⟨g, hg⟩ : ∃ g, w.heap.size = g := ⟨_, rfl⟩
    have HG := Lib.hid hg
    rw [hg] at HV HB ⊢
    clear ho1 hb1 hs1
    go_loopw [19] (fun iv wr => ∃ (i : Nat) (l : List Int), i ≤ n ∧ iv = .int .i64 i ∧ Hid (Frq l (L.take i)) ∧ Hid (IsV wr g l) ∧ Hid (Below g w wr)) (fun iv _ => n - (intOf iv).toNat)
    case atStart => exact ⟨0, _, Nat.zero_le _, rfl, Lib.hid Frq.start, HV, HB⟩
    case round =>
      clear HV HB e0 e1 e2
      obtain ⟨i, l, hi, rfl, HL, HV, HB⟩ := hrel
      by_cases hlt : i < n
      · have hin : (i : Int) < n := by omega
        have x1 := ixM L (i : Int) i rfl (by rw [HN.out]; exact hlt)
        obtain ⟨x, hx⟩ : ∃ x, (L.getD i 0).toNat = x := ⟨_, rfl⟩
        obtain ⟨hx2, f, hf, hlf, hst⟩ := HL.out.step (by rw [HN.out]; exact hlt) x hx
        rw [hx] at x1
        have hxi : (x : Int) < 256 := by omega
        have c1 := HV.out.cell x (by rw [HL.out.1]; exact hx2)
        rw [hlf] at c1
        have f1 := HV.out.free x
        have l1 := block_lt HV.out
        have HST := Lib.hid hst
        have HV2 := Lib.hid (HV.out.set x ((f : Int) + 1))
        have HB2 := Lib.hid (HB.out.setCell (p := ⟨g, x, none⟩) (Nat.le_refl _) (.int .i64 ((f : Int) + 1)))
        clear hx hst hlf
        go_wp2_with fail
        skip
        go_roundw
        case rel => exact ⟨i + 1, _, by omega, by go_num, HST, HV2, HB2⟩
        case measure => simp [intOf]; omega
      · obtain rfl : i = n := by omega
        have HF := Lib.hid (show Frq l L by have := HL.out; rwa [List.take_of_length_le (by rw [HN.out]; exact Nat.le_refl _)] at this)
        have CE2 := Lib.hid (CE.out g l wr HV.out HF.out)
        clear CE
        go_wp2_with fail
        refine CE2.out.mono ?_; rintro e w3 ⟨rfl, rfl⟩
        go_wp2_with fail
        go_ret
        exact ⟨rfl, by rw [HG.out]; exact HB.out⟩
set_option maxHeartbeats 1600000 in
theorem dCost (L : List UInt8) (fee : Int) (w : World) (hL : L.length ≤ 67108864) (hf0 : 0 ≤ fee) (hf1 : fee ≤ 1048576) :
    Calls Try.prog 29 #[.string (sM L), .int .i64 fee] w fun e w' => e = .returned (.int .i64 (costV fee L)) ∧ Below w.heap.size w w' := by
  have hS : (sM L).size = L.length := sM_size L
  have hT : (sM L).toList.isEmpty = decide (L.length = 0) := by rw [sM_toL]; cases L <;> simp
  by_cases h0 : L.length = 0
  · have hV : costV fee L = 0 := if_pos h0
    have e0 : (sM L).toList.isEmpty = true := by rw [hT]; exact decide_eq_true h0
    rw [hV]
    clear hT hV
    go_enter Try.func29, Try.ntmps29
    go_wp2_with fail
    go_ret
    exact ⟨rfl, Below.refl _ _⟩
  · have hV : costV fee L = ent L + fee := if_neg h0
    have e0 : (sM L).toList.isEmpty = false := by rw [hT]; exact decide_eq_false h0
    have e1 : decide ((67108864 : Int) < L.length) = false := decide_eq_false (by omega)
    have e2 : ¬ (67108864 : Int) < L.length := by omega
    rw [hV]
    have heb := ent_bd L hL
    obtain ⟨E, hE⟩ : ∃ E, ent L = E := ⟨_, rfl⟩
    rw [hE] at heb ⊢
    have CE := Lib.hid (fun g l W h1 h2 => dEnt g L l W h1 h2 hL E hE)
    obtain ⟨n, hn⟩ : ∃ n, L.length = n := ⟨_, rfl⟩
    rw [hn] at hS hL e1 e2
    have HN := Lib.hid hn
    obtain ⟨B256, h256⟩ : ∃ b, b = 256 := ⟨256, rfl⟩
    clear hT hV hE hn
    go_enter Try.func29, Try.ntmps29
    go_wp2_with (refine make_int rfl _ _ rfl .i64 .i64 (256 : Int) (256 : Int) 256 rfl rfl rfl rfl (by omega) ?_; intro w1 ho1 hb1 hs1)
    have HV := Lib.hid (own_V ho1)
    have HB := Lib.hid hb1
    obtain ⟨g, hg⟩ : ∃ g, w.heap.size = g := ⟨_, rfl⟩
    have HG := Lib.hid hg
    rw [hg] at HV HB ⊢
    clear ho1 hb1 hs1
    go_loopw [6] (fun iv wr => ∃ (i : Nat) (l : List Int), i ≤ n ∧ iv = .int .i64 i ∧ Hid (Frq l (L.take i)) ∧ Hid (IsV wr g l) ∧ Hid (Below g w wr)) (fun iv _ => n - (intOf iv).toNat)
    case atStart => exact ⟨0, _, Nat.zero_le _, rfl, Lib.hid Frq.start, HV, HB⟩
    case round =>
      clear HV HB e0 e1 e2
      obtain ⟨i, l, hi, rfl, HL, HV, HB⟩ := hrel
      by_cases hlt : i < n
      · have hin : (i : Int) < n := by omega
        have x1 := ixM L (i : Int) i rfl (by rw [HN.out]; exact hlt)
        obtain ⟨x, hx⟩ : ∃ x, (L.getD i 0).toNat = x := ⟨_, rfl⟩
        obtain ⟨hx2, f, hf, hlf, hst⟩ := HL.out.step (by rw [HN.out]; exact hlt) x hx
        rw [hx] at x1
        have hxi : (x : Int) < 256 := by omega
        have c1 := HV.out.cell x (by rw [HL.out.1]; exact hx2)
        rw [hlf] at c1
        have f1 := HV.out.free x
        have l1 := block_lt HV.out
        have HST := Lib.hid hst
        have HV2 := Lib.hid (HV.out.set x ((f : Int) + 1))
        have HB2 := Lib.hid (HB.out.setCell (p := ⟨g, x, none⟩) (Nat.le_refl _) (.int .i64 ((f : Int) + 1)))
        clear hx hst hlf
        go_wp2_with fail
        go_region; go_wp2_with fail
        go_roundw
        case rel => exact ⟨i + 1, _, by omega, by go_num, HST, HV2, Lib.hid HB2.out.drew⟩
        case measure => simp [intOf]; omega
      · obtain rfl : i = n := by omega
        have HF := Lib.hid (show Frq l L by have := HL.out; rwa [List.take_of_length_le (by rw [HN.out]; exact Nat.le_refl _)] at this)
        have CE2 := Lib.hid (CE.out g l wr HV.out HF.out)
        clear CE
        go_wp2_with fail
        refine CE2.out.mono ?_; rintro e w3 ⟨rfl, rfl⟩
        go_wp2_with fail
        go_ret
        exact ⟨rfl, by rw [HG.out]; exact HB.out⟩
end Go.Proofs.Ytlcdjilmfjdmhaa
