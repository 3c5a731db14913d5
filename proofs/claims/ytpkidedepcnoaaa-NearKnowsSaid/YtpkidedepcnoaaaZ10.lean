/- Layer 21: At; the document's At, by any window. -/
import Derived.Test.YtpkidedepcnoaaaZ9
namespace Go.Proofs.Ytpkidedepcnoaaa
open Go.ChangeShapes Go.WideShapes Go.ChangeAt Go.RowKit Go.Maps
set_option linter.unusedVariables false
set_option linter.unusedSimpArgs false
set_option maxRecDepth 100000
set_option maxHeartbeats 1600000 in
theorem dAtAny (L : List UInt8) (i W most : Nat) (w : World) (hL : L.length ≤ 100000) (hi : i < L.length) (hW : 1 ≤ W) (hW2 : (W : Int) ≤ 9223372036854775807) (hm : 2 ≤ most) (hm2 : (most : Int) ≤ 9223372036854775807) (M : Nat) (hM : min i W = M) (R : Nat × List Mt) (hR : atS L i most M = R) :
    Calls Try.prog 27 #[.string (sM L), .int .i64 i, .int .i64 W, .int .i64 most] w fun e w' => ∃ v, e = .returned v ∧ OwnMt w.heap.size w' v R.2 ∧ Below w.heap.size w w' := by
  have hN : (sM L).size = L.length := sM_size L
  have CO := Lib.hid (fun k W (hk : k ≤ L.length) => dOfIn L i k W (by omega) (by omega) hk _ rfl)
  have HR := Lib.hid hR
  have hM1 : M ≤ i ∧ (M : Int) ≤ W ∧ (M < i → (M : Int) < W → False) := by omega
  obtain ⟨hMi, hMW, hMx⟩ := hM1
  have q0 : decide ((i : Int) < 0) = false := decide_eq_false (by omega)
  have q1 : decide ((L.length : Int) ≤ i) = false := decide_eq_false (by omega)
  have q4 : decide (L.length ≤ i) = false := decide_eq_false (by omega)
  have q2 : decide ((W : Int) < 1) = false := decide_eq_false (by omega)
  have q3 : decide ((most : Int) < 2) = false := decide_eq_false (by omega)
  have HMX := Lib.hid hMx
  clear hR hM hMx
  go_enter Try.func27, Try.ntmps27
  go_wp2_with fail
  go_loopw [9, 10, 11] (fun o b d wr => ∃ k : Nat, k ≤ M ∧ d = .int .i64 ((k : Int) + 1) ∧ b = .int .i64 ((atS L i most k).1 : Nat) ∧ OwnMt w.heap.size wr o (atS L i most k).2 ∧ Below w.heap.size w wr) (fun _ _ d _ => M + 1 - (intOf d).toNat)
  case atStart => exact ⟨0, Nat.zero_le _, rfl, rfl, OwnS.nil, Below.refl _ _⟩
  case round =>
    clear q0 q1 q2 q3 q4
    obtain ⟨k, hk, rfl, rfl, ho, hb⟩ := hrel
    obtain ⟨va, vc, rfl⟩ := ho.slice
    have HO := Lib.hid ho
    have HB := Lib.hid hb
    have hbd := atS_bd L i most k
    clear ho hb
    by_cases hlt : k < M
    · have d1 : decide ((k : Int) + 1 ≤ i) = true := decide_eq_true (by omega)
      have d2 : decide ((k : Int) + 1 ≤ W) = true := decide_eq_true (by omega)
      obtain ⟨P, hP⟩ : ∃ P, i - (k + 1) = P := ⟨_, rfl⟩
      have hsub2 : (i : Int) - ((k : Int) + 1) = (P : Int) := by omega
      have hle : P ≤ L.length := by omega
      obtain ⟨C, hC⟩ : ∃ C, comAt L i P = C := ⟨_, rfl⟩
      obtain ⟨N, hNn⟩ : ∃ N, nAt L i most (k + 1) = N := ⟨_, rfl⟩
      have hst : atS L i most (k + 1) = if (atS L i most k).1 < nAt L i most (k + 1) then (nAt L i most (k + 1), (atS L i most k).2 ++ [(((nAt L i most (k + 1) : Nat) : Int), ((k + 1 : Nat) : Int))]) else atS L i most k := rfl
      have hnn : nAt L i most (k + 1) = min (min (comAt L i (i - (k + 1))) most) 258 := rfl
      rw [hP, hC, hNn] at hnn
      rw [hNn] at hst
      have C1 := Lib.hid (fun W => dOfIn L i P W (by omega) (by omega) hle C hC)
      have hmn : min (min (C : Int) most) 258 = (N : Int) := by omega
      have HMN := Lib.hid hmn
      have hN2 : N ≤ 258 := by omega
      obtain ⟨⟨T, O⟩, hTO⟩ : ∃ r, atS L i most k = r := ⟨_, rfl⟩
      rw [hTO] at HO hbd hst ⊢
      have HST := Lib.hid hst
      clear hP hC hNn hnn hst hTO hmn
      go_wp2_with fail
      refine (C1.out _).mono ?_; rintro e w2 ⟨rfl, hb2⟩
      have HO2 := Lib.hid (HO.out.kept hb2)
      have HB2 := Lib.hid (HB.out.trans (hb2.mono HB.out.size))
      have hmn := min3 C most N HMN.out 3 3 3 3
      clear hb2 HO HB C1
      by_cases hT : T < N
      · have hTi : decide ((T : Int) < N) = true := decide_eq_true (by omega)
        have hTl : (T : Int) < N := by omega
        have HS1 := Lib.hid (show atS L i most (k + 1) = (N, O ++ [((N : Int), (k : Int) + 1)]) by rw [HST.out, if_pos hT]; simp)
        have HLn := Lib.hid (show O.length ≤ 1099511627776 by have : O.length ≤ k := hbd.2; omega)
        have HBs := Lib.hid (show w.heap.size ≤ w2.heap.size from HB2.out.size)
        clear HST hT hbd
        go_wp2_with (at_builtin; refine app_mt rfl _ _ rfl w.heap.size _ (.slice va O.length vc) O ((N : Int), (k : Int) + 1) rfl HO2.out w2.heap.size 1 rfl rfl HLn.out HBs.out ?_; intro v5 w5 ho5 hb5 hg5)
        have HO5 := Lib.hid ho5
        have HB5 := Lib.hid (HB2.out.trans hb5)
        clear ho5 hb5 hg5 HO2 HB2
        go_wp2_with fail
        go_roundw
        case rel => exact ⟨k + 1, by omega, by go_num, by rw [HS1.out], by rw [HS1.out]; exact HO5.out, HB5.out⟩
        case measure => simp [intOf]; omega
      · have hTi : decide ((T : Int) < N) = false := decide_eq_false (by omega)
        have hTl : ¬ (T : Int) < N := by omega
        have HS1 := Lib.hid (show atS L i most (k + 1) = (T, O) by rw [HST.out, if_neg hT])
        clear HST hT hbd
        go_wp2_with fail
        go_roundw
        case rel => exact ⟨k + 1, by omega, by go_num, by rw [HS1.out], by rw [HS1.out]; exact HO2.out, HB2.out⟩
        case measure => simp [intOf]; omega
    · obtain rfl : k = M := by omega
      rw [HR.out] at HO ⊢
      by_cases h1 : k < i
      · have d1 : decide ((k : Int) + 1 ≤ i) = true := decide_eq_true (by omega)
        have d2 : decide ((k : Int) + 1 ≤ W) = false := decide_eq_false (by intro h; exact HMX.out h1 (by omega))
        go_wp2_with fail
        go_ret
        exact ⟨_, rfl, HO.out, HB.out⟩
      · have d1 : decide ((k : Int) + 1 ≤ i) = false := decide_eq_false (by omega)
        go_wp2_with fail
        go_ret
        exact ⟨_, rfl, HO.out, HB.out⟩
theorem nAt_cut (L : List UInt8) (i most m d : Nat) (h : min most 258 = m) : nAt L i most d = nAt L i m d := by unfold nAt; omega
theorem atS_cut (L : List UInt8) (i most m : Nat) (h : min most 258 = m) : ∀ D, atS L i most D = atS L i m D
  | 0 => rfl
  | D + 1 => by
    rw [atS, atS, atS_cut L i most m h D, nAt_cut L i most m (D + 1) h]
theorem nAt_shr (L : List UInt8) (i m d : Nat) (h : m ≤ 258) : nAt L i m d = shr L i m (i - d) := by unfold nAt shr; omega
/-- What the program tells is the document's list. -/
theorem told_eq {L : List UInt8} {i m D lw : Nat} {M : Nat → Option Nat} {out : List Mt} (hm : 2 ≤ m) (hm2 : m ≤ 258) (hD : D ≤ i) (hlw : i - D = lw) (hI : Inv (shr L i m) lw i M (fun _ => True)) (hr : RisesTo M i out) : out = (atS L i m D).2 := by
  obtain ⟨r1, r2, r3⟩ := hr
  obtain ⟨-, -, -, s4, s5, s6⟩ := atS_mem L i m hm hm2 D
  refine rise_eq _ _ r1 s6 (fun x => ?_)
  constructor
  · intro hx
    obtain ⟨n, p, rfl, hM⟩ := r2 x hx
    obtain ⟨a, b, c, d, e⟩ := (kept_iff hI n p).1 ((r3 n p).1 hx)
    have e1 : (i : Int) - (p : Int) = ((i - p : Nat) : Int) := by omega
    rw [e1]
    refine (s4 n (i - p)).2 ⟨by omega, by omega, ?_, d, fun d' h1 h2 => ?_⟩
    · rw [nAt_shr L i m _ hm2, show i - (i - p) = p by omega]; exact c
    · rw [nAt_shr L i m _ hm2]; exact e (i - d') (by omega) (by omega)
  · intro hx
    obtain ⟨n, d, rfl⟩ := s5 x hx
    obtain ⟨a, b, c, h2, e⟩ := (s4 n d).1 hx
    have e1 : (d : Int) = (i : Int) - ((i - d : Nat) : Int) := by omega
    rw [e1]
    refine (r3 n (i - d)).2 ((kept_iff hI n (i - d)).2 ⟨by omega, by omega, ?_, h2, fun q h3 h4 => ?_⟩)
    · rw [← nAt_shr L i m _ hm2]; exact c
    · have := e (i - q) (by omega) (by omega)
      rw [nAt_shr L i m _ hm2, show i - (i - q) = q by omega] at this
      exact this
theorem IsFin.kept {w w' : World} {g : Nat} {L : List UInt8} {a : List Nat} (h : IsFin w g L a) (hb : Below w.heap.size w w') : IsFin w' g L a := by
  obtain ⟨v, u, r, h1, h2, h3, h4, h5⟩ := h
  exact ⟨v, u, r, (hb.block g (block_lt h1)).trans h1, h2, h3.kept hb, h4.kept hb, h5.kept hb⟩
theorem IsM.made (w : World) : IsM (w.alloc (.map #[] 0)) w.heap.size 0 (fun _ => none) :=
  ⟨.map [], World.ownsMap_made w Try.prog 3 _, fun k => ⟨rfl, fun v hv => by cases hv⟩, fun kl hk => by simp [Maps.has_eq] at hk⟩
set_option maxHeartbeats 3200000 in
theorem cAtIn (g n i m D lw : Nat) (win most : Int) (L : List UInt8) (a : List Nat) (w : World) (hF : IsFin w g L a) (hn : L.length = n) (hn2 : n ≤ 10000) (hi : i < n) (hw : 1 ≤ win) (hmo : 2 ≤ most) (hmm : min most 258 = (m : Int)) (hDD : min win (i : Int) = (D : Int)) (hlw : i - D = lw) :
    Calls Try.prog 26 #[.pointer (some ⟨g, 0, none⟩), .int .i64 i, .int .i64 win, .int .i64 most] w fun e w' => ∃ v, e = .returned v ∧ OwnMt w.heap.size w' v (atS L i m D).2 ∧ Below w.heap.size w w' := by
  have hs : IsSuf L a := by obtain ⟨v, u, r, h1, h2, h3⟩ := hF; exact h2
  have hal : a.length = n := by rw [hs.len, hn]
  obtain ⟨r, hr, her⟩ := List.getElem_of_mem (hs.mem i (by omega))
  have hri : a.getD r 0 = i := by rw [List.getD_eq_getElem?_getD, List.getElem?_eq_getElem hr, Option.getD_some, her]
  rw [hal] at hr
  have hm2 : 2 ≤ m ∧ m ≤ 258 := by omega
  have hDi : D ≤ i := by omega
  have hb0 : Below w.heap.size w (w.alloc (.map #[] 0)) := (Below.refl _ w).alloc (Nat.le_refl _) _
  have HF0 := Lib.hid (hF.kept hb0)
  have HM0 := Lib.hid (IsM.made w)
  have HB0 := Lib.hid hb0
  have HI0 := Lib.hid (show Inv (shr L i m) lw i (fun _ => none) (fun _ => False) from ⟨fun n p h => (by cases h), fun p h => h.elim⟩)
  have hfin := hF
  obtain ⟨v, u, rk, hg, -, ⟨pv, cv, rfl, hv⟩, hu, hrk⟩ := hfin
  have l1 : (nI a).length = n := by rw [nI_len, hal]
  rw [l1] at hg
  have c0 := cell_lit hg 0 _ rfl
  have lg := block_lt hg
  have HS := Lib.hid hs
  have HR := Lib.hid hri
  have HAL := Lib.hid hal
  have HN := Lib.hid hn
  have hgb : g ≠ w.heap.size := by omega
  have d1 : decide ((i : Int) < 0) = false := decide_eq_false (by omega)
  have d2 : decide ((n : Int) ≤ i) = false := decide_eq_false (by omega)
  have d2' : decide (n ≤ i) = false := decide_eq_false (by omega)
  have d3 : decide (win < 1) = false := decide_eq_false (by omega)
  have d4 : decide (most < 2) = false := decide_eq_false (by omega)
  have hmk := fun W : World => run_makeMap (P := Try.prog) 61 W
  have hx1 : (if (258 : Int) < most then (258 : Int) else most) = (m : Int) := by split <;> omega
  have hx2 : (if (i : Int) < win then (i : Int) else win) = (D : Int) := by split <;> omega
  have hsub : (i : Int) - (D : Int) = (lw : Int) := by omega
  have hx3 : (if (0 : Int) < (lw : Int) then (lw : Int) else 0) = (lw : Int) := by split <;> omega
  have hx4 : max (0 : Int) (lw : Int) = (lw : Int) := by omega
  clear hg hv hu hrk hs hal hri l1 hn hF her hb0
  go_enter Try.func26, Try.ntmps26
  go_wp2_with fail
  refine (cBelow g w.heap.size 0 i lw m r n L a (fun _ => none) (fun _ => False) _ HF0.out HN.out hn2 hr HR.out (by omega) hm2.1 (by omega) HM0.out (by omega) HI0.out).mono ?_; rintro e w1 ⟨rfl, ⟨M1, c1, hM1, hc1, hI1⟩, hT1⟩
  have HM1 := Lib.hid hM1
  have HI1 := Lib.hid hI1
  have HF1 := Lib.hid (hT1.fin HF0.out hgb)
  have HT1 := Lib.hid hT1
  clear hM1 hI1 hT1 hx1 hx2 hx3 hx4 hmk d1 d2 d2' d3 d4 hsub c0 lg
  go_wp2_with fail
  refine (cAbove g w.heap.size c1 i lw m r n L a M1 _ _ HF1.out HN.out hn2 hr HR.out (by omega) hm2.1 (by omega) HM1.out (by omega) HI1.out).mono ?_; rintro e w2 ⟨rfl, ⟨M2, c2, hM2, hc2, hI2⟩, hT2⟩
  have HM2 := Lib.hid hM2
  have HI2 := Lib.hid (hI2.mono (K' := fun _ => True) (fun p _ _ hpi _ => by
    left
    have hs := HS.out
    obtain ⟨x, hx, hex⟩ := List.getElem_of_mem (hs.mem p (by rw [HN.out]; omega))
    have hgx : a.getD x 0 = p := by rw [List.getD_eq_getElem?_getD, List.getElem?_eq_getElem hx, Option.getD_some, hex]
    rw [HAL.out] at hx
    rcases Nat.lt_trichotomy x r with h | h | h
    · exact .inl (.inr ⟨x, h, hgx⟩)
    · subst h; have := HR.out; omega
    · exact .inr ⟨x, h, hx, hgx⟩))
  have HT2 := Lib.hid (HT1.out.trans hT2)
  clear hM2 hI2 hT2
  have HB2 := Lib.hid (show Below w.heap.size w w2 from HB0.out.trans (HT2.out.keeps.below (fun k hk => ⟨by simp; omega, by omega⟩)))
  go_wp2_with fail
  refine (cRising w.heap.size c2 i M2 w2 HM2.out (by omega) (by omega) (fun n p h => (HI2.out.sound n p h).2.1)).mono ?_; rintro e w3 ⟨v, out, rfl, ho, -, hr3, hb3⟩
  have he := told_eq hm2.1 hm2.2 hDi hlw HI2.out hr3
  subst he
  obtain ⟨va, vc, rfl⟩ := ho.slice
  have HO := Lib.hid (ho.base HB2.out.size)
  have HB3 := Lib.hid (HB2.out.trans (hb3.mono HB2.out.size))
  clear ho hr3 hb3
  go_wp2_with fail
  go_ret
  exact ⟨_, rfl, HO.out, HB3.out⟩
theorem dAtOut (L : List UInt8) (i win most : Int) (w : World) (hL : L.length ≤ 100000) (ho : i < 0 ∨ L.length ≤ i ∨ win < 1 ∨ most < 2) :
    Calls Try.prog 27 #[.string (sM L), .int .i64 i, .int .i64 win, .int .i64 most] w fun e w' => e = .returned (.slice none 0 0) ∧ w' = w := by
  have hN : (sM L).size = L.length := sM_size L
  by_cases h1 : i < 0
  · have d1 : decide (i < 0) = true := decide_eq_true h1
    go_enter Try.func27, Try.ntmps27
    go_wp2_with fail
    go_ret
    exact ⟨rfl, rfl⟩
  have d1 : decide (i < 0) = false := decide_eq_false h1
  by_cases h2 : (L.length : Int) ≤ i
  · have d2 : decide ((L.length : Int) ≤ i) = true := decide_eq_true h2
    go_enter Try.func27, Try.ntmps27
    go_wp2_with fail
    go_ret
    exact ⟨rfl, rfl⟩
  have d2 : decide ((L.length : Int) ≤ i) = false := decide_eq_false h2
  by_cases h3 : win < 1
  · have d3 : decide (win < 1) = true := decide_eq_true h3
    go_enter Try.func27, Try.ntmps27
    go_wp2_with fail
    go_ret
    exact ⟨rfl, rfl⟩
  have d3 : decide (win < 1) = false := decide_eq_false h3
  have d4 : decide (most < 2) = true := decide_eq_true (by omega)
  go_enter Try.func27, Try.ntmps27
  go_wp2_with fail
  go_ret
  exact ⟨rfl, rfl⟩
/-- The document's answer of any place, window and length. -/
def atZ (L : List UInt8) (i win most : Int) : List Mt := if 0 ≤ i ∧ i < L.length ∧ 1 ≤ win ∧ 2 ≤ most then (atS L i.toNat (min most 258).toNat (min win i).toNat).2 else []
theorem atZ_len (L : List UInt8) (i win most : Int) (hL : L.length ≤ 10000) : (atZ L i win most).length ≤ 10000 := by
  unfold atZ
  split
  · have := (atS_bd L i.toNat (min most 258).toNat (min win i).toNat).2
    omega
  · simp
theorem cAtZ (g : Nat) (L : List UInt8) (a : List Nat) (i win most : Int) (w : World) (hF : IsFin w g L a) (hL : L.length ≤ 10000) :
    Calls Try.prog 26 #[.pointer (some ⟨g, 0, none⟩), .int .i64 i, .int .i64 win, .int .i64 most] w fun e w' => ∃ v, e = .returned v ∧ IsMv w' v (atZ L i win most) ∧ Below w.heap.size w w' := by
  have hl := atZ_len L i win most hL
  by_cases h : 0 ≤ i ∧ i < L.length ∧ 1 ≤ win ∧ 2 ≤ most
  · have e : atZ L i win most = (atS L i.toNat (min most 258).toNat (min win i).toNat).2 := if_pos h
    have := cAtIn g L.length i.toNat (min most 258).toNat (min win i).toNat (i.toNat - (min win i).toNat) win most L a w hF rfl hL (by omega) h.2.2.1 h.2.2.2 (by omega) (by omega) rfl
    rw [Int.toNat_of_nonneg h.1] at this
    refine this.mono fun e' w' ⟨v, h1, h2, h3⟩ => ⟨v, h1, ?_, h3⟩
    rw [e] at hl ⊢
    exact h2.isMv (by omega)
  · have e : atZ L i win most = [] := if_neg h
    refine (cAtOut g L a i win most w hF (by omega)).mono fun e' w' ⟨h1, h2⟩ => ⟨_, h1, by rw [e]; exact IsMv.nil _, by rw [h2]; exact Below.refl _ _⟩
theorem dAtZ (L : List UInt8) (i win most : Int) (w : World) (hL : L.length ≤ 10000) (hw : win ≤ 9223372036854775807) (hm : most ≤ 9223372036854775807) :
    Calls Try.prog 27 #[.string (sM L), .int .i64 i, .int .i64 win, .int .i64 most] w fun e w' => ∃ v, e = .returned v ∧ IsMv w' v (atZ L i win most) ∧ Below w.heap.size w w' := by
  have hl := atZ_len L i win most hL
  by_cases h : 0 ≤ i ∧ i < L.length ∧ 1 ≤ win ∧ 2 ≤ most
  · have e : atZ L i win most = (atS L i.toNat (min most 258).toNat (min win i).toNat).2 := if_pos h
    have := dAtAny L i.toNat win.toNat most.toNat w (by omega) (by omega) (by omega) (by omega) (by omega) (by omega) (min win i).toNat (by omega) _ rfl
    rw [Int.toNat_of_nonneg h.1, Int.toNat_of_nonneg (by omega), Int.toNat_of_nonneg (by omega), atS_cut L i.toNat most.toNat (min most 258).toNat (by omega)] at this
    refine this.mono fun e' w' ⟨v, h1, h2, h3⟩ => ⟨v, h1, ?_, h3⟩
    rw [e] at hl ⊢
    exact h2.isMv (by omega)
  · have e : atZ L i win most = [] := if_neg h
    refine (dAtOut L i win most w (by omega) (by omega)).mono fun e' w' ⟨h1, h2⟩ => ⟨_, h1, by rw [e]; exact IsMv.nil _, by rw [h2]; exact Below.refl _ _⟩
end Go.Proofs.Ytpkidedepcnoaaa
