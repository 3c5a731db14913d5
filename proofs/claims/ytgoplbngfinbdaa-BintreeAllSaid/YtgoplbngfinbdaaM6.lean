/- Layer 41: back. -/
import Derived.Test.YtgoplbngfinbdaaM5
namespace Go.Proofs.Ytgoplbngfinbdaa
open Go.ChangeShapes Go.WideShapes Go.ChangeAt Go.RowKit
set_option linter.unusedVariables false
set_option linter.unusedSimpArgs false
set_option maxRecDepth 100000
/-- Where the walk along the chain stands: what is told so far is what the document tells of so many distances, and nothing counts up to the next place. -/
def Told (L : List UInt8) (i W most J : Nat) (S : Nat × List Mt) : Prop := ∃ Dn, Dn + J ≤ i ∧ Dn ≤ W ∧ atS L i most Dn = S ∧ ∀ n, Dn + n ≤ i - J → atS L i most (Dn + n) = S
theorem Told.start (L : List UInt8) (i W most : Nat) : Told L i W most (lastP L (pairAt L i) i) (1, []) :=
  ⟨0, by have := lastP_le L (pairAt L i) i; omega, Nat.zero_le _, rfl, fun n hn => atS_chain L i most i 0 (Nat.le_refl _) (by omega) n hn⟩
theorem Told.full {L : List UInt8} {i W most J : Nat} {S : Nat × List Mt} (h : Told L i W most J S) (hf : min most (L.length - i) ≤ S.1) : atS L i most (min i W) = S := by
  obtain ⟨Dn, h1, h2, h3, h4⟩ := h
  have := atS_full L i most Dn (min i W - Dn) (by rw [h3]; exact hf)
  rw [show Dn + (min i W - Dn) = min i W by omega, h3] at this
  exact this
theorem Told.done {L : List UInt8} {i W most J : Nat} {S : Nat × List Mt} (h : Told L i W most J S) (hJ : min i W ≤ i - J) : atS L i most (min i W) = S := by
  obtain ⟨Dn, h1, h2, h3, h4⟩ := h
  have := h4 (min i W - Dn) (by omega)
  rwa [show Dn + (min i W - Dn) = min i W by omega] at this
theorem Told.next {L : List UInt8} {i W most k : Nat} {S : Nat × List Mt} (h : Told L i W most (k + 1) S) (hk : k < i) (hw : i - k ≤ W) (N : Nat) (hN : nAt L i most (i - k) = N) :
    Told L i W most (lastP L (pairAt L i) k) (if S.1 < N then (N, S.2 ++ [((N : Int), ((i - k : Nat) : Int))]) else S) := by
  obtain ⟨Dn, h1, h2, h3, h4⟩ := h
  have e1 := h4 (i - (k + 1) - Dn) (by omega)
  rw [show Dn + (i - (k + 1) - Dn) = i - (k + 1) by omega] at e1
  have e2 : atS L i most (i - k) = if S.1 < N then (N, S.2 ++ [((N : Int), ((i - k : Nat) : Int))]) else S := by
    have hik : i - k = i - (k + 1) + 1 := by omega
    rw [hik] at hN
    rw [hik, atS, e1, hN]
  have hl := lastP_le L (pairAt L i) k
  refine ⟨i - k, by omega, hw, e2, fun n hn => ?_⟩
  rw [← e2]
  exact atS_chain L i most k (i - k) (by omega) rfl n hn
/-- What back needs of the chain's rows. -/
def Chained (L : List UInt8) (m i : Nat) (ah : List Int) : Prop := ∀ p, p ≤ i → p + 1 < L.length → i < p + m → ah.getD (p % m) 0 = (lastP L (pairAt L p) p : Nat)
set_option maxHeartbeats 3200000 in
theorem cBack (NN : Nat) (w : World) (B g g1 g2 : Nat) (L : List UInt8) (W D m i most : Nat) (la ah : List Int) (at_ : Nat) (h : IsF NN w B g g1 g2 L W D at_ m la ah) (hc : Chained L m i ah) (hL : L.length ≤ 100000) (hi : i + 1 < L.length) (hW : 1 ≤ W) (hW2 : (W : Int) ≤ 67108864) (hmW : m = W + 1 ∨ m = L.length) (hm0 : 0 < m) (hm1 : m ≤ L.length) (hD : i < D) (hD2 : (D : Int) ≤ 1000000) (hmo : 2 ≤ most) (hmo2 : most ≤ 258) (M : Nat) (hM : min i W = M) (R : Nat × List Mt) (hR : atS L i most M = R) (hB : B ≤ w.heap.size) :
    Calls Try.prog 63 #[.pointer (some ⟨g, 0, none⟩), .int .i64 i, .int .i64 most] w fun e w' => ∃ v, e = .returned v ∧ OwnMt w.heap.size w' v R.2 ∧ Below w.heap.size w w' := by
  have hS : (sM L).size = L.length := sM_size L
  subst hM
  have c0 := cell_lit h.box 0 _ rfl
  have c2 := cell_lit h.box 2 _ rfl
  have hglt := block_lt h.box
  obtain ⟨mo, hmoe⟩ : ∃ mo, min most (L.length - i) = mo := ⟨_, rfl⟩
  have CB := Lib.hid (fun W' p X (h' : IsF NN W' B g g1 g2 L W D at_ m la ah) (hp : p ≤ i) (hX : ah.getD (p % m) 0 = ((X : Nat) : Int)) (hX2 : X ≤ 1000000) => cBefore NN W' B g g1 g2 L W D at_ m la ah h' p (by omega) hm0 (by omega) X hX hX2)
  have CS := Lib.hid (fun W' k (hk : k ≤ i) N (hN : min (comAt L i k) mo = N) => cShared L k i mo W' (by omega) hk (by omega) N hN)
  have hm2 : ((L.length : Int) - i) = ((L.length - i : Nat) : Int) := by omega
  have hmin : min (most : Int) ((L.length : Int) - i) = (mo : Int) := by omega
  have hif : (if ((L.length - i : Nat) : Int) < (most : Int) then ((L.length - i : Nat) : Int) else (most : Int)) = (mo : Int) := by split <;> omega
  have hif2 : (if L.length - i < most then ((L.length - i : Nat) : Int) else (most : Int)) = (mo : Int) := by split <;> omega
  have h0 : (i : Int) < L.length := by omega
  have e0 := hc i (Nat.le_refl _) hi (by omega)
  have hl0 := lastP_le L (pairAt L i) i
  have CB0 := CB.out w i (lastP L (pairAt L i) i) h (Nat.le_refl _) e0 (by omega)
  obtain ⟨J0, hJ0⟩ : ∃ J, lastP L (pairAt L i) i = J := ⟨_, rfl⟩
  rw [hJ0] at CB0 hl0
  have CB0' := Lib.hid CB0
  have HF := Lib.hid h
  have HC := Lib.hid hc
  have HJ0 := Lib.hid hJ0
  have HR := Lib.hid hR
  have HMO := Lib.hid hmoe
  clear CB0 e0 h hc hJ0 hR hmoe
  have c1 := cell_lit HF.out.box 1 _ rfl
  go_enter Try.func63, Try.ntmps63
  go_wp2_with fail
  refine CB0'.out.mono ?_; rintro e w1 ⟨rfl, q1, rfl⟩
  clear CB0'
  go_wp2_with fail
  go_loopw [7, 8, 9, 10] (fun o b k lf wr => ∃ (J T lv j : Nat) (O : List Mt), k = .int .i64 ((J : Int) - 1) ∧ lf = .int .i64 lv ∧ b = .int .i64 T ∧ J + 1 ≤ lv ∧ lv ≤ D ∧ J ≤ i ∧ lastP L (pairAt L i) j = J ∧ Hid (Told L i W most J (T, O)) ∧ Hid (OwnMt w.heap.size wr o O) ∧ Hid (Below w.heap.size w wr)) (fun _ _ _ lf _ => (intOf lf).toNat)
  case atStart => exact ⟨J0, 1, D, i, [], rfl, rfl, rfl, by omega, Nat.le_refl _, hl0, HJ0.out, Lib.hid (by rw [← HJ0.out]; exact Told.start L i W most), Lib.hid OwnS.nil, Lib.hid (below_dn (Below.refl _ _) _)⟩
  case round =>
    clear hif hif2 hmin hm2
    obtain ⟨J, T, lv, j, O, rfl, rfl, rfl, hlv, hlv2, hJi, hjJ, hTold, hO, hB2⟩ := hrel
    obtain ⟨va, vc, rfl⟩ := hO.out.slice
    have HF2 := Lib.hid (HF.out.kept hB2.out)
    have b0 := cell_lit HF2.out.box 0 _ rfl
    have b1 := cell_lit HF2.out.box 1 _ rfl
    have hgw := block_lt HF2.out.box
    have hlp : (0 : Int) < lv := by omega
    by_cases hbm : T < mo
    · have hbi : (T : Int) < mo := by omega
      by_cases hJ : J = 0
      · subst hJ
        have e9 : R.2 = O := by rw [← HR.out, hTold.out.done (by omega)]
        have HOO := Lib.hid (show OwnMt w.heap.size wr (.slice va O.length vc) R.2 by rw [e9]; exact hO.out)
        clear e9
        go_wp2_with fail
        go_ret
        exact ⟨_, rfl, HOO.out, hB2.out⟩
      · obtain ⟨k, rfl⟩ : ∃ k, J = k + 1 := ⟨J - 1, by omega⟩
        rw [show (((k + 1 : Nat) : Int) - 1) = (k : Int) by omega]
        obtain ⟨d, hd⟩ : ∃ d, i - k = d := ⟨_, rfl⟩
        have hdi : (i : Int) - k = (d : Int) := by omega
        have hk0 : (0 : Int) ≤ (k : Int) := by omega
        by_cases hw : d ≤ W
        · have hwi : (d : Int) ≤ W := by omega
          obtain ⟨-, hk2, hk3⟩ := lastP_hit L (pairAt L i) j k hjJ
          obtain ⟨N, hNn⟩ : ∃ N, nAt L i most (i - k) = N := ⟨_, rfl⟩
          have hNN : min (comAt L i k) mo = N := by
            have h1 := comAt_le L i k
            have h2 : i - (i - k) = k := by omega
            have h3 := HMO.out
            rw [← hNn]; unfold nAt; rw [h2]; omega
          have C1 := Lib.hid (fun W' => CS.out W' k (by omega) N hNN)
          have HNX := Lib.hid (hTold.out.next (by omega) (by omega) N hNn)
          have hkm : i < k + m := by omega
          have eX := HC.out k (by omega) hk2 hkm
          rw [hk3] at eX
          have hlk := lastP_le L (pairAt L i) k
          obtain ⟨J2, hJ2⟩ : ∃ J2, lastP L (pairAt L i) k = J2 := ⟨_, rfl⟩
          rw [hJ2] at eX hlk HNX
          have CB2 := Lib.hid (fun W' (h' : IsF NN W' B g g1 g2 L W D at_ m la ah) => CB.out W' k J2 h' (by omega) eX (by omega))
          have HJ2 := Lib.hid hJ2
          rw [hd] at HNX
          have hOl : O.length ≤ i := by
            obtain ⟨Dn, x1, x2, x3, x4⟩ := hTold.out
            have := (atS_bd L i most Dn).2
            rw [x3] at this
            have : O.length ≤ Dn := this
            omega
          have HLn := Lib.hid (show O.length ≤ 1099511627776 by omega)
          have hlv1 : (lv : Int) ≤ 1000000 := by omega
          clear hNn hNN hJ2 eX hkm hk2 hk3 hjJ hTold hOl
          go_wp2_with fail
          refine (C1.out _).mono ?_; rintro e w2 ⟨rfl, hb2⟩
          have HF3 := Lib.hid (HF2.out.kept hb2)
          have HO3 := Lib.hid (hO.out.kept hb2)
          have HB3 := Lib.hid (hB2.out.trans (hb2.mono hB2.out.size))
          have HBs := Lib.hid (show w.heap.size ≤ w2.heap.size from HB3.out.size)
          clear hb2 C1 HF2 hO hB2 b0 b1 hgw
          by_cases hT : T < N
          · have hTl : (T : Int) < N := by omega
            rw [if_pos hT] at HNX
            clear hT
            go_wp2_with (at_builtin; refine app_mt rfl _ _ rfl w.heap.size _ (.slice va O.length vc) O ((N : Int), (d : Int)) rfl HO3.out w2.heap.size 1 rfl rfl HLn.out HBs.out ?_; intro v5 w5 ho5 hb5 hg5)
            have HB5 := Lib.hid (HB3.out.trans hb5)
            have HO5 := Lib.hid ho5
            have HF5 := Lib.hid (HF.out.kept HB5.out)
            clear hb5 ho5 hg5 HB3 HO3 HF3
            refine (CB2.out _ HF5.out).mono ?_; rintro e w6 ⟨rfl, q6, rfl⟩
            have HO6 := Lib.hid (HO5.out.drewN q6)
            have HB6 := Lib.hid (below_dn HB5.out q6)
            clear CB2 HO5 HB5 HF5
            go_wp2_with fail
            go_roundw
            case rel => exact ⟨J2, N, lv - 1, k, O ++ [((N : Int), (d : Int))], rfl, by rw [show ((lv - 1 : Nat) : Int) = (lv : Int) - 1 by omega], rfl, by omega, by omega, by omega, HJ2.out, HNX, HO6, HB6⟩
            case measure => simp [intOf]; omega
          · have hTl : ¬ (T : Int) < N := by omega
            rw [if_neg hT] at HNX
            clear hT
            go_wp2_with fail
            refine (CB2.out _ HF3.out).mono ?_; rintro e w6 ⟨rfl, q6, rfl⟩
            have HO4 := Lib.hid (HO3.out.drewN q6)
            have HB4 := Lib.hid (below_dn HB3.out q6)
            clear CB2 HO3 HB3 HF3
            go_wp2_with fail
            go_roundw
            case rel => exact ⟨J2, T, lv - 1, k, O, rfl, by rw [show ((lv - 1 : Nat) : Int) = (lv : Int) - 1 by omega], rfl, by omega, by omega, by omega, HJ2.out, HNX, HO4, HB4⟩
            case measure => simp [intOf]; omega
        · have hwi : ¬ (d : Int) ≤ W := by omega
          have e9 : R.2 = O := by rw [← HR.out, hTold.out.done (by omega)]
          have HOO := Lib.hid (show OwnMt w.heap.size wr (.slice va O.length vc) R.2 by rw [e9]; exact hO.out)
          clear e9
          go_wp2_with fail
          go_ret
          exact ⟨_, rfl, HOO.out, hB2.out⟩
    · have hbi : ¬ (T : Int) < mo := by omega
      have e9 : R.2 = O := by rw [← HR.out, hTold.out.full (by rw [HMO.out]; omega)]
      have HOO := Lib.hid (show OwnMt w.heap.size wr (.slice va O.length vc) R.2 by rw [e9]; exact hO.out)
      clear e9
      go_wp2_with fail
      go_ret
      exact ⟨_, rfl, HOO.out, hB2.out⟩
end Go.Proofs.Ytgoplbngfinbdaa
