/- Layer 21: below, above. -/
import Derived.Test.YtpkidedepcnoaaaZ5
namespace Go.Proofs.Ytpkidedepcnoaaa
open Go.ChangeShapes Go.WideShapes Go.ChangeAt Go.RowKit Go.Maps Go.ChangeMaps
set_option linter.unusedVariables false
set_option linter.unusedSimpArgs false
set_option maxRecDepth 100000
/-- But for the map in block b all is as it was. -/
structure MT (w w' : World) (b : Nat) : Prop where
  cell : ∀ a, w'.cell? a = w.cell? a
  other : ∀ k, k ≠ b → w'.heap[k]? = w.heap[k]?
  size : w'.heap.size = w.heap.size
  os : w'.os = w.os
  tape : w'.tape = w.tape
  output : w'.output = w.output
theorem MT.refl (w : World) (b : Nat) : MT w w b := ⟨fun _ => rfl, fun _ _ => rfl, rfl, rfl, rfl, rfl⟩
theorem MT.trans {u v w : World} {b : Nat} (h : MT u v b) (k : MT v w b) : MT u w b :=
  ⟨fun a => (k.cell a).trans (h.cell a), fun j hj => (k.other j hj).trans (h.other j hj), k.size.trans h.size, k.os.trans h.os, k.tape.trans h.tape, k.output.trans h.output⟩
theorem MT.of {w w' : World} {b : Nat} (h : w.mapTurned w' b) : MT w w' b := by
  have hg := h.grown
  obtain ⟨es, clock, es', clock', hb, rfl⟩ := h
  have hlt : b < w.heap.size := block_lt hb
  have hs : (setBlock w b (.map es' clock')).heap = w.heap.setIfInBounds b (.map es' clock') := rfl
  have hother : ∀ k, k ≠ b → (setBlock w b (.map es' clock')).heap[k]? = w.heap[k]? := fun k hk => by
    rw [hs, Array.getElem?_setIfInBounds, if_neg (fun e => hk e.symm)]
  refine ⟨fun a => ?_, hother, by rw [hs]; simp, rfl, rfl, rfl⟩
  by_cases e : a.block = b
  · have h1 : (setBlock w b (.map es' clock')).heap[a.block]? = some (.map es' clock') := by rw [hs, e, Array.getElem?_setIfInBounds, if_pos rfl, if_pos hlt]
    rw [← e] at hb
    unfold World.cell?
    rw [h1, hb]
  · exact World.cell?_of_block (w := w) (hother a.block e)
theorem MT.ints {w w' : World} {b : Nat} (h : MT w w' b) {p : Option Addr} {l : List Int} (hl : IsInts w p l) : IsInts w' p l := by
  refine ⟨hl.1, ?_⟩
  rcases hl.2 with rfl | ⟨x, rfl, hc⟩
  · exact .inl rfl
  · exact .inr ⟨x, rfl, fun j hj => by rw [h.cell]; exact hc j hj⟩
theorem MT.isL {w w' : World} {b : Nat} (h : MT w w' b) {v : Value} {l : List Int} (hl : IsL w v l) : IsL w' v l := by
  obtain ⟨p, c, e, hl⟩ := hl
  exact ⟨p, c, e, h.ints hl⟩
theorem MT.fin {w w' : World} {b g : Nat} {L : List UInt8} {a : List Nat} (h : MT w w' b) (hf : IsFin w g L a) (hgb : g ≠ b) : IsFin w' g L a := by
  obtain ⟨v, u, r, h1, h2, h3, h4, h5⟩ := hf
  exact ⟨v, u, r, (h.other g hgb).trans h1, h2, h.isL h3, h.isL h4, h.isL h5⟩
theorem MT.keeps {w w' : World} {b : Nat} (h : MT w w' b) : Keeps (fun j => j = b) w w' := ⟨h.os, h.tape, h.output, by rw [h.size]; exact Nat.le_refl _, fun k _ hk => h.other k hk⟩
theorem rank_at {L : List UInt8} {a : List Nat} (h : IsSuf L a) (r : Nat) (hr : r < a.length) : (ranksL (nI a)).getD (a.getD r 0) 0 = (r : Int) := by
  have hlt := h.lt _ (getD_mem a r hr)
  have hl : (nI a).length = L.length := by rw [nI_len, h.len]
  rw [ranksL_getD _ _ (by omega), hl]
  have := (suf_ranked (nI a) a L.length rfl h.len h.nodup h.lt).2 r (by rw [← h.len]; exact hr)
  exact this
theorem run_down {L : List UInt8} {a : List Nat} (h : IsSuf L a) (i most r j : Nat) (hr : r < a.length) (hri : a.getD r 0 = i) (hj : j + 1 ≤ r) :
    min (if j + 1 = r then most else shr L i most (a.getD (j + 1) 0)) (comAt L (a.getD j 0) (a.getD (j + 1) 0)) = shr L i most (a.getD j 0) := by
  unfold shr
  rw [comAt_sym L i (a.getD j 0), comAt_sym L i (a.getD (j + 1) 0)]
  by_cases e : j + 1 = r
  · rw [if_pos e, e, hri]; omega
  · rw [if_neg e]
    have := mid_min h j (j + 1) r (by omega) (by omega) hr
    rw [hri] at this
    omega
theorem run_down_le {L : List UInt8} {a : List Nat} (h : IsSuf L a) (i most r : Nat) (hr : r < a.length) (hri : a.getD r 0 = i) (x j : Nat) (hx : x ≤ j) (hj : j < r) : shr L i most (a.getD x 0) ≤ shr L i most (a.getD j 0) := by
  by_cases e : x = j
  · subst e; exact Nat.le_refl _
  · unfold shr
    rw [comAt_sym L i (a.getD j 0), comAt_sym L i (a.getD x 0)]
    have := mid_min h x j r (by omega) (by omega) hr
    rw [hri] at this
    omega
theorem run_up {L : List UInt8} {a : List Nat} (h : IsSuf L a) (i most r j : Nat) (hri : a.getD r 0 = i) (hj : r ≤ j) (hja : j + 1 < a.length) :
    min (if j = r then most else shr L i most (a.getD j 0)) (comAt L (a.getD j 0) (a.getD (j + 1) 0)) = shr L i most (a.getD (j + 1) 0) := by
  unfold shr
  by_cases e : j = r
  · rw [if_pos e, e, hri]; omega
  · rw [if_neg e]
    have := mid_min h r j (j + 1) (by omega) (by omega) hja
    rw [hri] at this
    omega
theorem run_up_le {L : List UInt8} {a : List Nat} (h : IsSuf L a) (i most r : Nat) (hri : a.getD r 0 = i) (x j : Nat) (hx : j ≤ x) (hj : r < j) (hxa : x < a.length) : shr L i most (a.getD x 0) ≤ shr L i most (a.getD j 0) := by
  by_cases e : x = j
  · subst e; exact Nat.le_refl _
  · unfold shr
    have := mid_min h r j x (by omega) (by omega) hxa
    rw [hri] at this
    omega
theorem shr_le (L : List UInt8) (i most p : Nat) : shr L i most p ≤ most := by unfold shr; omega
/-- The nearest place of all is found: nothing behind it is nearer. -/
theorem stop_ok {f : Nat → Nat} {lw i : Nat} {M : Nat → Option Nat} {K K' : Nat → Prop} {n : Nat} {best : Int} (h : Inv f lw i M K) (hb : Bst lw i M n best) (hst : (i : Int) - 1 ≤ best) (hk : ∀ p, K' p → K p ∨ f p ≤ n) : Inv f lw i M K' :=
  h.mono (fun p hp a b c => by
    rcases hk p hp with h1 | h1
    · exact .inl h1
    · right
      rcases hb with hb | ⟨u, hb1, hb2, hb3, hb4⟩
      · omega
      · exact hb4.less h1 (by omega))
set_option maxHeartbeats 3200000 in
theorem cBelow (g b c0 i lw most r n : Nat) (L : List UInt8) (a : List Nat) (M0 : Nat → Option Nat) (K : Nat → Prop) (w : World) (hF : IsFin w g L a) (hn : L.length = n) (hn2 : n ≤ 10000) (hr : r < n) (hri : a.getD r 0 = i) (hlw : lw ≤ i) (hm : 2 ≤ most) (hm2 : most ≤ 1000)
    (hM : IsM w b c0 M0) (hc0 : c0 ≤ 100000) (hI : Inv (shr L i most) lw i M0 K) :
    Calls Try.prog 39 #[.pointer (some ⟨g, 0, none⟩), .int .i64 i, .int .i64 lw, .int .i64 most, .map (some b)] w fun e w' => e = .returned (.tuple #[]) ∧ (∃ M c, IsM w' b c M ∧ c ≤ c0 + n ∧ Inv (shr L i most) lw i M (fun p => K p ∨ ∃ x, x < r ∧ a.getD x 0 = p)) ∧ MT w w' b := by
  obtain ⟨v, u, rk, hg, hs, hv, hu, hrk⟩ := hF
  obtain ⟨pv, cv, rfl, hv⟩ := hv
  obtain ⟨pu, cu, rfl, hu⟩ := hu
  obtain ⟨pr, cr, rfl, hrk⟩ := hrk
  have hal : a.length = n := by rw [hs.len, hn]
  have l1 : (nI a).length = n := by rw [nI_len, hal]
  have l2 : (nI (rowL L a)).length = n := by rw [nI_len, rowL_len, hal]
  have l3 : (ranksL (nI a)).length = n := by rw [ranksL_len, l1]
  have hin : i < n := by have := hs.lt _ (getD_mem a r (by omega)); omega
  obtain ⟨xr, rfl, hxr, hcr⟩ := hrk.at i (by omega)
  have cri := hcr i (by omega)
  have hrat := rank_at hs r (by omega)
  rw [hri] at hrat
  rw [hrat] at cri
  rw [l1, l2, l3] at hg
  have HS := Lib.hid hs
  have HV := Lib.hid hv
  have HU := Lib.hid hu
  have HAL := Lib.hid hal
  have HL1 := Lib.hid l1
  have HL2 := Lib.hid l2
  have HG := Lib.hid hg
  have HR := Lib.hid hri
  have HN := Lib.hid hn
  have HI0 := Lib.hid (hI.mono (K' := fun p => K p ∨ ∃ x, r ≤ x ∧ x < r ∧ a.getD x 0 = p) (fun p hp _ _ _ => by
    rcases hp with hp | ⟨x, h1, h2, -⟩
    · exact .inl hp
    · omega))
  have HM0 := Lib.hid hM
  have HB0 := Lib.hid (show Bst lw i M0 most ((lw : Int) - 1) from .inl rfl)
  have c2 := cell_lit hg 2 _ rfl
  have lg := block_lt hg
  have hri2 : (r : Int) < n := by omega
  have hin2 : (i : Int) < n := by omega
  have hi1 : (-1 : Int) ≤ (i : Int) - 1 := by omega
  clear hs hv hu hal l1 l2 l3 hg hcr hrat hri hn hrk hM hI
  go_enter Try.func39, Try.ntmps39
  go_wp2_with fail
  clear c2 lg cri hxr
  go_loopw [10, 11, 12] (fun bv nv jv wr => ∃ (j k c : Nat) (best : Int) (M : Nat → Option Nat), j ≤ r ∧ jv = .int .i64 j ∧ nv = .int .i64 k ∧ bv = .int .i64 best ∧ k ≤ most ∧ (-1 : Int) ≤ best ∧ best < n ∧ c ≤ c0 + (r - j) ∧ Hid (k = if j = r then most else shr L i most (a.getD j 0)) ∧ Hid (Bst lw i M k best) ∧ Hid (Inv (shr L i most) lw i M (fun p => K p ∨ ∃ x, j ≤ x ∧ x < r ∧ a.getD x 0 = p)) ∧ Hid (IsM wr b c M) ∧ Hid (MT w wr b)) (fun _ _ jv _ => (intOf jv).toNat)
  case atStart => exact ⟨r, most, c0, (lw : Int) - 1, M0, Nat.le_refl _, rfl, rfl, rfl, Nat.le_refl _, by omega, by omega, by omega, Lib.hid (if_pos rfl).symm, HB0, HI0, HM0, Lib.hid (MT.refl w b)⟩
  case round =>
    clear HB0 HI0 HM0
    obtain ⟨j, k, c, best, M, hj, rfl, rfl, rfl, hkm, hb0, hb1, hc, HK, HB, HI, HM, HT⟩ := hrel
    have hg2 : wr.heap[g]? = some (.cells #[.slice pv n cv, .slice pu n cu, .slice (some xr) n cr] 60 (0, 0)) := by
      have hne : g ≠ b := by
        obtain ⟨D, ⟨es, ck, hb, -⟩, -, -⟩ := HM.out
        intro e
        rw [← e] at hb
        have h1 := HG.out
        have : w.heap[g]? ≠ none := by rw [h1]; simp
        rcases Nat.lt_or_ge g w.heap.size with hlt | hge
        · have hmt := HT.out.cell ⟨g, 0, none⟩
          have e1 : w.cell? ⟨g, 0, none⟩ = some _ := cell_lit h1 0 _ rfl
          rw [e1] at hmt
          unfold World.cell? at hmt
          simp only at hmt
          rw [hb] at hmt
          simp at hmt
        · exact this (Array.getElem?_eq_none hge)
      exact (HT.out.other g hne).trans HG.out
    have c0' := cell_lit hg2 0 _ rfl
    have c1' := cell_lit hg2 1 _ rfl
    have lg := block_lt hg2
    clear hg2
    by_cases hj0 : 0 < j
    · obtain ⟨z, hz⟩ : ∃ z, z + 1 = j := ⟨j - 1, by omega⟩
      have HZ := Lib.hid hz
      have hj1 : (j : Int) - 1 = (z : Int) := by omega
      have hji : (j : Int) < n := by omega
      have hzi : (z : Int) < n := by omega
      have hji0 : (0 : Int) < j := by omega
      have d1 : decide ((0 : Int) < (j : Int)) = true := decide_eq_true hji0
      have hrn := HK.out
      rw [← hz] at hrn
      have hrd := run_down HS.out i most r z (by rw [HAL.out]; exact hr) HR.out (by omega)
      rw [← hrn, hz] at hrd
      have hle : ∀ x, x ≤ z → shr L i most (a.getD x 0) ≤ shr L i most (a.getD z 0) := fun x hx => run_down_le HS.out i most r (by rw [HAL.out]; exact hr) HR.out x z hx (by omega)
      have hkz : shr L i most (a.getD z 0) ≤ k := by omega
      have HLE := Lib.hid hle
      by_cases hb : best < (i : Int) - 1
      · have d2 : decide (best < (i : Int) - 1) = true := decide_eq_true hb
        obtain ⟨xu, rfl, hxu, hcu⟩ := (HT.out.ints HU.out).at j (by rw [HL2.out]; omega)
        obtain ⟨xv, rfl, hxv, hcv⟩ := (HT.out.ints HV.out).at z (by rw [HL1.out]; omega)
        have cu1 := hcu j (by rw [HL2.out]; omega)
        have cv1 := hcv z (by rw [HL1.out]; omega)
        have g1 : (nI (rowL L a)).getD j 0 = ((comAt L (a.getD z 0) (a.getD j 0) : Nat) : Int) := by
          rw [show (nI (rowL L a)).getD j 0 = (((rowL L a).getD j 0 : Nat) : Int) from mapN_getD _ j (by rw [rowL_len, HAL.out]; omega), rowL_getD L a j (by rw [HAL.out]; omega), if_neg (by omega), show j - 1 = z by omega]
        have g2 : (nI a).getD z 0 = ((a.getD z 0 : Nat) : Int) := mapN_getD a z (by rw [HAL.out]; omega)
        rw [g1] at cu1
        rw [g2] at cv1
        have hpn : a.getD z 0 < n := by rw [← HN.out]; exact HS.out.lt _ (getD_mem a z (by rw [HAL.out]; omega))
        obtain ⟨q, hq⟩ : ∃ q, comAt L (a.getD z 0) (a.getD j 0) = q := ⟨_, rfl⟩
        obtain ⟨p, hp⟩ : ∃ p, a.getD z 0 = p := ⟨_, rfl⟩
        obtain ⟨k2, hk2⟩ : ∃ k2, shr L i most p = k2 := ⟨_, rfl⟩
        rw [hq] at hrd cu1
        rw [hp] at hrd hkz cv1 hpn
        rw [hk2] at hrd hkz
        have hmn1 : min (k : Int) (q : Int) = (k2 : Int) := by omega
        have hmn2 : (if (q : Int) < k then (q : Int) else (k : Int)) = (k2 : Int) := by split <;> omega
        have hmn3 : (if q < k then (q : Int) else (k : Int)) = (k2 : Int) := by split <;> omega
        have hmn4 : min k q = k2 := by omega
        have HP := Lib.hid hp
        have HK2 := Lib.hid hk2
        have HKZ := Lib.hid hkz
        have HPN := Lib.hid hpn
        have HBL := Lib.hid (HB.out.less hkz)
        have HHB := Lib.hid hb
        clear hcu hcv g1 g2 hrd hrn hle hq hp hk2 hkz hz hpn
        by_cases h2 : k2 < 2
        · have h2i : (k2 : Int) < 2 := by omega
          have HF := Lib.hid (HI.out.mono (K' := fun p => K p ∨ ∃ x, x < r ∧ a.getD x 0 = p) (fun p hp _ _ hf => by
            rcases hp with hp | ⟨x, h1, h3⟩
            · exact .inl (.inl hp)
            · by_cases hx : j ≤ x
              · exact .inl (.inr ⟨x, hx, h1, h3⟩)
              · have hh := HLE.out x (by have := HZ.out; omega)
                rw [h3, HP.out, HK2.out] at hh
                omega))
          go_wp2_with fail
          refine bodyPost_ret (results_none rfl _ _ _) rfl ?_
          exact ⟨rfl, ⟨M, c, HM.out, by omega, HF.out⟩, HT.out⟩
        · have h2i : ¬ (k2 : Int) < 2 := by omega
          by_cases hnote : p < i ∧ best < (p : Int)
          · have CN := Lib.hid (cNote p i k2 b c best M wr hnote.1 hnote.2 (by omega) (by omega) (by omega) HM.out)
            have hlwp : lw ≤ p := by
              rcases HB.out with h | ⟨u, h, h3, -⟩
              · omega
              · omega
            have HI2 := Lib.hid ((HI.out.put p hlwp hnote.1 (by rw [HK2.out]; omega)).mono (K' := fun p => K p ∨ ∃ x, z ≤ x ∧ x < r ∧ a.getD x 0 = p) (fun p' hp' _ _ hf => by
              rcases hp' with hp' | ⟨x, h1, h3, h4⟩
              · exact .inl (.inl (.inl hp'))
              · by_cases hx : j ≤ x
                · exact .inl (.inl (.inr ⟨x, hx, h3, h4⟩))
                · have : x = z := by have := HZ.out; omega
                  subst this
                  exact .inl (.inr (by rw [← h4, HP.out]))))
            rw [HK2.out] at HI2
            have HB2 := Lib.hid (show Bst lw i (newM M k2 p) k2 (p : Int) from .inr ⟨p, rfl, hlwp, hnote.1, Cov.new _ _ _ _ _ (Nat.le_refl _) (Nat.le_refl _)⟩)
            clear hnote
            go_wp2_with fail
            refine CN.out.mono ?_; rintro e w4 ⟨rfl, hM4, hT4⟩
            have HM4 := Lib.hid hM4
            have HT4 := Lib.hid (HT.out.trans (MT.of hT4))
            clear hM4 hT4 CN
            go_wp2_with fail
            go_roundw
            case rel => exact ⟨z, k2, c + 1, p, newM M k2 p, by omega, by go_num, rfl, rfl, by have := HKZ.out; omega, by omega, by have := HPN.out; omega, by have := HZ.out; omega, Lib.hid (by rw [if_neg (by have := HZ.out; omega), HP.out, HK2.out]), HB2, HI2, HM4, HT4⟩
            case measure => have := HZ.out; simp [intOf]; omega
          · have CN := Lib.hid (cNoteOut p i k2 b best wr (by omega))
            have HI2 := Lib.hid ((skip_ok HI.out HB.out p (by rw [HK2.out]; exact HKZ.out) (by omega)).mono (K' := fun p => K p ∨ ∃ x, z ≤ x ∧ x < r ∧ a.getD x 0 = p) (fun p' hp' _ _ hf => by
              rcases hp' with hp' | ⟨x, h1, h3, h4⟩
              · exact .inl (.inl (.inl hp'))
              · by_cases hx : j ≤ x
                · exact .inl (.inl (.inr ⟨x, hx, h3, h4⟩))
                · have : x = z := by have := HZ.out; omega
                  subst this
                  exact .inl (.inr (by rw [← h4, HP.out]))))
            clear hnote
            go_wp2_with fail
            refine CN.out.mono ?_; rintro e w4 ⟨rfl, rfl⟩
            go_wp2_with fail
            go_roundw
            case rel => exact ⟨z, k2, c, best, M, by omega, by go_num, rfl, rfl, by have := HKZ.out; omega, by omega, by omega, by have := HZ.out; omega, Lib.hid (by rw [if_neg (by have := HZ.out; omega), HP.out, HK2.out]), HBL, HI2, HM, HT⟩
            case measure => have := HZ.out; simp [intOf]; omega
      · have d2 : decide (best < (i : Int) - 1) = false := decide_eq_false hb
        have HF := Lib.hid (stop_ok (K' := fun p => K p ∨ ∃ x, x < r ∧ a.getD x 0 = p) HI.out HB.out (by omega) (fun p hp => by
          rcases hp with hp | ⟨x, h1, h3⟩
          · exact .inl (.inl hp)
          · by_cases hx : j ≤ x
            · exact .inl (.inr ⟨x, hx, h1, h3⟩)
            · right
              have hh := HLE.out x (by have := HZ.out; omega)
              rw [h3] at hh
              omega))
        clear hle hrd hrn hkz hz
        go_wp2_with fail
        go_end0
        exact ⟨rfl, ⟨M, c, HM.out, by omega, HF.out⟩, HT.out⟩
    · obtain rfl : j = 0 := by omega
      have HF := Lib.hid (HI.out.mono (K' := fun p => K p ∨ ∃ x, x < r ∧ a.getD x 0 = p) (fun p hp _ _ _ => by
        rcases hp with hp | ⟨x, h1, h2⟩
        · exact .inl (.inl hp)
        · exact .inl (.inr ⟨x, Nat.zero_le _, h1, h2⟩)))
      go_wp2_with fail
      go_end0
      exact ⟨rfl, ⟨M, c, HM.out, by omega, HF.out⟩, HT.out⟩
set_option maxHeartbeats 3200000 in
theorem cAbove (g b c0 i lw most r n : Nat) (L : List UInt8) (a : List Nat) (M0 : Nat → Option Nat) (K : Nat → Prop) (w : World) (hF : IsFin w g L a) (hn : L.length = n) (hn2 : n ≤ 10000) (hr : r < n) (hri : a.getD r 0 = i) (hlw : lw ≤ i) (hm : 2 ≤ most) (hm2 : most ≤ 1000)
    (hM : IsM w b c0 M0) (hc0 : c0 ≤ 100000) (hI : Inv (shr L i most) lw i M0 K) :
    Calls Try.prog 40 #[.pointer (some ⟨g, 0, none⟩), .int .i64 i, .int .i64 lw, .int .i64 most, .map (some b)] w fun e w' => e = .returned (.tuple #[]) ∧ (∃ M c, IsM w' b c M ∧ c ≤ c0 + n ∧ Inv (shr L i most) lw i M (fun p => K p ∨ ∃ x, r < x ∧ x < n ∧ a.getD x 0 = p)) ∧ MT w w' b := by
  obtain ⟨v, u, rk, hg, hs, hv, hu, hrk⟩ := hF
  obtain ⟨pv, cv, rfl, hv⟩ := hv
  obtain ⟨pu, cu, rfl, hu⟩ := hu
  obtain ⟨pr, cr, rfl, hrk⟩ := hrk
  have hal : a.length = n := by rw [hs.len, hn]
  have l1 : (nI a).length = n := by rw [nI_len, hal]
  have l2 : (nI (rowL L a)).length = n := by rw [nI_len, rowL_len, hal]
  have l3 : (ranksL (nI a)).length = n := by rw [ranksL_len, l1]
  have hin : i < n := by have := hs.lt _ (getD_mem a r (by omega)); omega
  obtain ⟨xr, rfl, hxr, hcr⟩ := hrk.at i (by omega)
  have cri := hcr i (by omega)
  have hrat := rank_at hs r (by omega)
  rw [hri] at hrat
  rw [hrat] at cri
  rw [l1, l2, l3] at hg
  have HS := Lib.hid hs
  have HV := Lib.hid hv
  have HU := Lib.hid hu
  have HAL := Lib.hid hal
  have HL1 := Lib.hid l1
  have HL2 := Lib.hid l2
  have HG := Lib.hid hg
  have HR := Lib.hid hri
  have HN := Lib.hid hn
  have HI0 := Lib.hid (hI.mono (K' := fun p => K p ∨ ∃ x, r < x ∧ x < r + 1 ∧ a.getD x 0 = p) (fun p hp _ _ _ => by
    rcases hp with hp | ⟨x, h1, h2, -⟩
    · exact .inl hp
    · omega))
  have HM0 := Lib.hid hM
  have HB0 := Lib.hid (show Bst lw i M0 most ((lw : Int) - 1) from .inl rfl)
  have c2 := cell_lit hg 2 _ rfl
  have lg := block_lt hg
  have hri2 : (r : Int) < n := by omega
  obtain ⟨r1, hr1⟩ : ∃ r1, r + 1 = r1 := ⟨_, rfl⟩
  have hr1i : (r : Int) + 1 = (r1 : Int) := by omega
  have HR1 := Lib.hid hr1
  rw [hr1] at HI0
  have hin2 : (i : Int) < n := by omega
  have hi1 : (-1 : Int) ≤ (i : Int) - 1 := by omega
  clear hs hv hu hal l1 l2 l3 hg hcr hrat hri hn hrk hM hI
  go_enter Try.func40, Try.ntmps40
  go_wp2_with fail
  clear c2 lg cri hxr hr1i
  go_loopw [10, 11, 12] (fun bv nv jv wr => ∃ (z j k c : Nat) (best : Int) (M : Nat → Option Nat), r ≤ z ∧ z + 1 = j ∧ j ≤ n ∧ jv = .int .i64 j ∧ nv = .int .i64 k ∧ bv = .int .i64 best ∧ k ≤ most ∧ (-1 : Int) ≤ best ∧ best < n ∧ c ≤ c0 + (j - r1) ∧ Hid (k = if z = r then most else shr L i most (a.getD z 0)) ∧ Hid (Bst lw i M k best) ∧ Hid (Inv (shr L i most) lw i M (fun p => K p ∨ ∃ x, r < x ∧ x < j ∧ a.getD x 0 = p)) ∧ Hid (IsM wr b c M) ∧ Hid (MT w wr b)) (fun _ _ jv _ => n - (intOf jv).toNat)
  case atStart => exact ⟨r, r1, most, c0, (lw : Int) - 1, M0, Nat.le_refl _, hr1, by omega, rfl, rfl, rfl, Nat.le_refl _, by omega, by omega, by omega, Lib.hid (if_pos rfl).symm, HB0, HI0, HM0, Lib.hid (MT.refl w b)⟩
  case round =>
    clear HB0 HI0 HM0
    obtain ⟨z, j, k, c, best, M, hrz, hz, hj, rfl, rfl, rfl, hkm, hb0, hb1, hc, HK, HB, HI, HM, HT⟩ := hrel
    have HZ := Lib.hid hz
    have hg2 : wr.heap[g]? = some (.cells #[.slice pv n cv, .slice pu n cu, .slice (some xr) n cr] 60 (0, 0)) := by
      have hne : g ≠ b := by
        obtain ⟨D, ⟨es, ck, hb, -⟩, -, -⟩ := HM.out
        intro e
        rw [← e] at hb
        have h1 := HG.out
        have : w.heap[g]? ≠ none := by rw [h1]; simp
        rcases Nat.lt_or_ge g w.heap.size with hlt | hge
        · have hmt := HT.out.cell ⟨g, 0, none⟩
          have e1 : w.cell? ⟨g, 0, none⟩ = some _ := cell_lit h1 0 _ rfl
          rw [e1] at hmt
          unfold World.cell? at hmt
          simp only at hmt
          rw [hb] at hmt
          simp at hmt
        · exact this (Array.getElem?_eq_none hge)
      exact (HT.out.other g hne).trans HG.out
    have c0' := cell_lit hg2 0 _ rfl
    have c1' := cell_lit hg2 1 _ rfl
    have lg := block_lt hg2
    clear hg2
    by_cases hj0 : j < n
    · have hji : (j : Int) < n := by omega
      have d1 : decide ((j : Int) < n) = true := decide_eq_true hji
      have hrd := run_up HS.out i most r z HR.out hrz (by rw [HAL.out]; omega)
      rw [← HK.out, hz] at hrd
      have hle : ∀ x, j ≤ x → x < n → shr L i most (a.getD x 0) ≤ shr L i most (a.getD j 0) := fun x hx hxn => run_up_le HS.out i most r HR.out x j hx (by omega) (by rw [HAL.out]; exact hxn)
      have hkz : shr L i most (a.getD j 0) ≤ k := by omega
      have HLE := Lib.hid hle
      by_cases hb : best < (i : Int) - 1
      · have d2 : decide (best < (i : Int) - 1) = true := decide_eq_true hb
        obtain ⟨xu, rfl, hxu, hcu⟩ := (HT.out.ints HU.out).at j (by rw [HL2.out]; omega)
        obtain ⟨xv, rfl, hxv, hcv⟩ := (HT.out.ints HV.out).at j (by rw [HL1.out]; omega)
        have cu1 := hcu j (by rw [HL2.out]; omega)
        have cv1 := hcv j (by rw [HL1.out]; omega)
        have g1 : (nI (rowL L a)).getD j 0 = ((comAt L (a.getD z 0) (a.getD j 0) : Nat) : Int) := by
          rw [show (nI (rowL L a)).getD j 0 = (((rowL L a).getD j 0 : Nat) : Int) from mapN_getD _ j (by rw [rowL_len, HAL.out]; omega), rowL_getD L a j (by rw [HAL.out]; omega), if_neg (by omega), show j - 1 = z by omega]
        have g2 : (nI a).getD j 0 = ((a.getD j 0 : Nat) : Int) := mapN_getD a j (by rw [HAL.out]; omega)
        rw [g1] at cu1
        rw [g2] at cv1
        have hpn : a.getD j 0 < n := by rw [← HN.out]; exact HS.out.lt _ (getD_mem a j (by rw [HAL.out]; omega))
        obtain ⟨q, hq⟩ : ∃ q, comAt L (a.getD z 0) (a.getD j 0) = q := ⟨_, rfl⟩
        obtain ⟨p, hp⟩ : ∃ p, a.getD j 0 = p := ⟨_, rfl⟩
        obtain ⟨k2, hk2⟩ : ∃ k2, shr L i most p = k2 := ⟨_, rfl⟩
        rw [hq] at hrd cu1
        rw [hp] at hrd hkz cv1 hpn
        rw [hk2] at hrd hkz
        have hmn1 : min (k : Int) (q : Int) = (k2 : Int) := by omega
        have hmn2 : (if (q : Int) < k then (q : Int) else (k : Int)) = (k2 : Int) := by split <;> omega
        have hmn3 : (if q < k then (q : Int) else (k : Int)) = (k2 : Int) := by split <;> omega
        have hmn4 : min k q = k2 := by omega
        have HP := Lib.hid hp
        have HK2 := Lib.hid hk2
        have HKZ := Lib.hid hkz
        have HPN := Lib.hid hpn
        have HBL := Lib.hid (HB.out.less hkz)
        have HHB := Lib.hid hb
        clear hcu hcv g1 g2 hrd hle hq hp hk2 hkz hz hpn
        by_cases h2 : k2 < 2
        · have h2i : (k2 : Int) < 2 := by omega
          have HF := Lib.hid (HI.out.mono (K' := fun p => K p ∨ ∃ x, r < x ∧ x < n ∧ a.getD x 0 = p) (fun p hp _ _ hf => by
            rcases hp with hp | ⟨x, h1, h3⟩
            · exact .inl (.inl hp)
            · by_cases hx : x < j
              · exact .inl (.inr ⟨x, h1, hx, h3.2⟩)
              · have hh := HLE.out x (by omega) h3.1
                rw [h3.2, HP.out, HK2.out] at hh
                omega))
          go_wp2_with fail
          refine bodyPost_ret (results_none rfl _ _ _) rfl ?_
          exact ⟨rfl, ⟨M, c, HM.out, by omega, HF.out⟩, HT.out⟩
        · have h2i : ¬ (k2 : Int) < 2 := by omega
          by_cases hnote : p < i ∧ best < (p : Int)
          · have CN := Lib.hid (cNote p i k2 b c best M wr hnote.1 hnote.2 (by omega) (by omega) (by omega) HM.out)
            have hlwp : lw ≤ p := by
              rcases HB.out with h | ⟨u, h, h3, -⟩
              · omega
              · omega
            have HI2 := Lib.hid ((HI.out.put p hlwp hnote.1 (by rw [HK2.out]; omega)).mono (K' := fun p => K p ∨ ∃ x, r < x ∧ x < j + 1 ∧ a.getD x 0 = p) (fun p' hp' _ _ hf => by
              rcases hp' with hp' | ⟨x, h1, h3, h4⟩
              · exact .inl (.inl (.inl hp'))
              · by_cases hx : x < j
                · exact .inl (.inl (.inr ⟨x, h1, hx, h4⟩))
                · have : x = j := by omega
                  subst this
                  exact .inl (.inr (by rw [← h4, HP.out]))))
            rw [HK2.out] at HI2
            have HB2 := Lib.hid (show Bst lw i (newM M k2 p) k2 (p : Int) from .inr ⟨p, rfl, hlwp, hnote.1, Cov.new _ _ _ _ _ (Nat.le_refl _) (Nat.le_refl _)⟩)
            clear hnote
            go_wp2_with fail
            refine CN.out.mono ?_; rintro e w4 ⟨rfl, hM4, hT4⟩
            have HM4 := Lib.hid hM4
            have HT4 := Lib.hid (HT.out.trans (MT.of hT4))
            clear hM4 hT4 CN
            go_wp2_with fail
            go_roundw
            case rel => exact ⟨j, j + 1, k2, c + 1, p, newM M k2 p, by have := HZ.out; omega, rfl, by omega, by go_num, rfl, rfl, by have := HKZ.out; omega, by omega, by have := HPN.out; omega, by have := HZ.out; have := HR1.out; omega, Lib.hid (by rw [if_neg (by have := HZ.out; omega), HP.out, HK2.out]), HB2, HI2, HM4, HT4⟩
            case measure => simp [intOf]; omega
          · have CN := Lib.hid (cNoteOut p i k2 b best wr (by omega))
            have HI2 := Lib.hid ((skip_ok HI.out HB.out p (by rw [HK2.out]; exact HKZ.out) (by omega)).mono (K' := fun p => K p ∨ ∃ x, r < x ∧ x < j + 1 ∧ a.getD x 0 = p) (fun p' hp' _ _ hf => by
              rcases hp' with hp' | ⟨x, h1, h3, h4⟩
              · exact .inl (.inl (.inl hp'))
              · by_cases hx : x < j
                · exact .inl (.inl (.inr ⟨x, h1, hx, h4⟩))
                · have : x = j := by omega
                  subst this
                  exact .inl (.inr (by rw [← h4, HP.out]))))
            clear hnote
            go_wp2_with fail
            refine CN.out.mono ?_; rintro e w4 ⟨rfl, rfl⟩
            go_wp2_with fail
            go_roundw
            case rel => exact ⟨j, j + 1, k2, c, best, M, by have := HZ.out; omega, rfl, by omega, by go_num, rfl, rfl, by have := HKZ.out; omega, by omega, by omega, by omega, Lib.hid (by rw [if_neg (by have := HZ.out; omega), HP.out, HK2.out]), HBL, HI2, HM, HT⟩
            case measure => simp [intOf]; omega
      · have d2 : decide (best < (i : Int) - 1) = false := decide_eq_false hb
        have HF := Lib.hid (stop_ok (K' := fun p => K p ∨ ∃ x, r < x ∧ x < n ∧ a.getD x 0 = p) HI.out HB.out (by omega) (fun p hp => by
          rcases hp with hp | ⟨x, h1, h3⟩
          · exact .inl (.inl hp)
          · by_cases hx : x < j
            · exact .inl (.inr ⟨x, h1, hx, h3.2⟩)
            · right
              have hh := HLE.out x (by omega) h3.1
              rw [h3.2] at hh
              omega))
        clear hle hrd hkz hz
        go_wp2_with fail
        go_end0
        exact ⟨rfl, ⟨M, c, HM.out, by omega, HF.out⟩, HT.out⟩
    · obtain rfl : j = n := by omega
      have HF := Lib.hid (HI.out.mono (K' := fun p => K p ∨ ∃ x, r < x ∧ x < j ∧ a.getD x 0 = p) (fun p hp _ _ _ => .inl hp))
      go_wp2_with fail
      go_end0
      exact ⟨rfl, ⟨M, c, HM.out, by omega, HF.out⟩, HT.out⟩
end Go.Proofs.Ytpkidedepcnoaaa
