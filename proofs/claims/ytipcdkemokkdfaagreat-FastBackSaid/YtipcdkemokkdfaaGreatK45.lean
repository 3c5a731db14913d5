import Derived.Test.YtipcdkemokkdfaaGreatK44
/- Layer 30: Block. -/
namespace Go.Proofs.YtipcdkemokkdfaaGreat
open Go.ChangeShapes Go.WideShapes Go.ChangeAt Go.RowKit
open Tok (OkTok chk chk_no chk_yes)
set_option linter.unusedVariables false
set_option linter.unusedSimpArgs false
set_option maxRecDepth 100000
theorem lastN_append2 (k : Nat) (h a b : List UInt8) : lastN k (lastN k (h ++ a) ++ b) = lastN k (h ++ (a ++ b)) := by rw [← lastN_append, List.append_assoc]
theorem sumK_drop (l : List Tk) (k : Nat) (hk : k < l.length) : sumK (l.drop k) = szN l[k] + sumK (l.drop (k + 1)) := by
  rw [List.drop_eq_getElem_cons hk, sumK_cons]
theorem szN_tok (t : Tk) (h : t.ok) : szTok t.k t.b t.l t.d t.r = (szN t : Int) := by
  have h1 := (sz_ok h).1
  exact h1
theorem two_boxes (w : World) (a b : Obj) : ((w.alloc a).alloc b).heap[w.heap.size]? = some a ∧ ((w.alloc a).alloc b).heap[w.heap.size + 1]? = some b ∧ Below w.heap.size w ((w.alloc a).alloc b) := by
  refine ⟨heap_old (heap_alloc_new w a) b, ?_, ((Below.refl _ _).alloc (Nat.le_refl _) a).alloc (by simp) b⟩
  have := heap_alloc_new (w.alloc a) b
  simpa using this
set_option maxHeartbeats 3200000 in
theorem fBlock (w : World) (g B size : Nat) (v : Value) (H : List UInt8) (h : WinH w g B size v H) (h1 : 1 ≤ size) (h2 : size ≤ 67108864) (q : Q4) (s : ByteArray) (raw : Nat) (hr1 : 1 ≤ raw) (hr2 : raw ≤ 65536) (l : List Tk) (hl : sumK l ≤ 65536) (hok : ∀ t ∈ l, t.ok)
    (C : ∀ W, Calls Tryz.prog 18 #[.string s, .int .i64 raw] W fun e w' => ∃ v E, e = .returned (.tuple #[v, .int .i64 E]) ∧ Below W.heap.size W w' ∧ EndK (.good l) W v E w')
    (RR : List UInt8) (Q : Q4) (E : Int) (hR : appS size l q H = (RR, Q, E)) :
    Calls Tryz.prog 10 #[.pointer (some ⟨g, 0, none⟩), q4V q, .string s, .int .i64 raw] w fun e w' => e = .returned (.tuple #[.string (sOf (RR.drop H.length)), q4V Q, .int .i64 E]) ∧ Keeps (feet g v) w w' ∧ (E = 0 → StepH w g B size v (lastN size RR) w') := by
  have HW := Lib.hid h
  have HC := Lib.hid C
  have HR := Lib.hid hR
  have HOK := Lib.hid hok
  have HL := Lib.hid hl
  have hll : l.length ≤ 65536 := by have := sum_len l hok; omega
  have HFT := Lib.hid h.feet_lt
  have n1 : ¬ (raw : Int) < 1 := by omega
  have n2 : ¬ 65536 < (raw : Int) := by omega
  show Calls Tryz.prog 10 #[.pointer (some ⟨g, 0, none⟩), .agg #[.int .i64 q.a, .int .i64 q.b, .int .i64 q.c, .int .i64 q.d], .string s, .int .i64 raw] w _
  clear h C hR hok hl
  go_enter Tryz.func10, Tryz.ntmps10
  go_wp2_with fail
  obtain ⟨e5, e9, hb0⟩ := two_boxes w (.cells #[.int .i64 q.a, .int .i64 q.b, .int .i64 q.c, .int .i64 q.d] 23) (.cells #[.int .i64 0, .int .i64 0, .int .i64 0, .int .i64 0] 23)
  obtain ⟨g5, hg5⟩ : ∃ g5, w.heap.size = g5 := ⟨_, rfl⟩
  obtain ⟨w0, hw0⟩ : ∃ w0, (w.alloc (.cells #[.int .i64 q.a, .int .i64 q.b, .int .i64 q.c, .int .i64 q.d] 23)).alloc (.cells #[.int .i64 0, .int .i64 0, .int .i64 0, .int .i64 0] 23) = w0 := ⟨_, rfl⟩
  rw [hw0, hg5] at e5 e9
  rw [hw0] at hb0 ⊢
  rw [hg5]
  obtain ⟨g9, hg9⟩ : ∃ g9, g5 + 1 = g9 := ⟨_, rfl⟩
  rw [hg9] at e9 ⊢
  have hft := HFT.out
  rw [hg5] at hft
  have HBB := Lib.hid hb0
  have HG := Lib.hid (show g < g5 ∧ (∀ k, v.ownBlock = some k → k < g5) ∧ g5 < g9 ∧ w.heap.size = g5 ∧ g9 < w0.heap.size from ⟨hft g (.inl rfl), fun k e => hft k (.inr e), by omega, hg5, block_lt e9⟩)
  clear hw0 hg9 hg5 hft HFT
  refine (HC.out w0).mono ?_; rintro e w1 ⟨vt, E0, rfl, hb1, rfl, hot⟩
  obtain ⟨va, vc, rfl, -⟩ := OwnS.isTk hot
  have HT := Lib.hid hot
  have HB1 := Lib.hid (HBB.out.trans (hb1.mono HBB.out.size))
  have HE5 := Lib.hid ((hb1.block _ (block_lt e5)).trans e5)
  have HE9 := Lib.hid ((hb1.block _ (block_lt e9)).trans e9)
  have HW1 := Lib.hid (HW.out.low HB1.out)
  have hs1 := hb1.size
  obtain ⟨ROW, hROW, hmk⟩ := mk_cap1 43 5 (.int .u8 0) 1 Tryz.underlying43 info_u8 (by decide) raw (by omega)
  have HBA := Lib.hid ((Below.refl w1.heap.size w1).alloc (Nat.le_refl _) (.cells ROW 5))
  obtain ⟨B2, hB2⟩ : ∃ B2, w1.heap.size = B2 := ⟨_, rfl⟩
  have HO := Lib.hid (show OwnY w1.heap.size (w1.alloc (.cells ROW 5)) (.slice (some ⟨B2, 0, none⟩) 0 raw) [] from by rw [← hB2]; exact own_cap1 (heap_alloc_new w1 _) (Nat.le_refl _) hROW (by omega))
  have hL0 : Lp w1 (w1.alloc (.cells ROW 5)) g g5 g9 B size v H (.slice (some ⟨B2, 0, none⟩) 0 raw) [] q := by
    obtain ⟨a1, a2, a3, a4, a5⟩ := HG.out
    refine ⟨⟨v, HW1.out.low HBA.out, fun k e => .inl e, fun k e hv => ?_⟩, HO.out, Keeps.of_below HBA.out, (HBA.out.block _ (block_lt HE5.out)).trans HE5.out, (HBA.out.block _ (block_lt HE9.out)).trans HE9.out, by omega, fun k e => ?_, by omega, by omega⟩
    · have : B2 = k := by simpa [Value.ownBlock] using e
      have := a2 k hv; omega
    · have := a2 k e; omega
  have HLP := Lib.hid hL0
  have HWL := Lib.hid (show lastN size H = H from lastN_all _ _ HW.out.len)
  have HB2 := Lib.hid hB2
  have HSZ := Lib.hid (show w0.heap.size ≤ w1.heap.size from hs1)
  have HTK := Lib.hid (show ∀ wr, Keeps (fun k => feet g v k ∨ k = g5) w1 wr → IsTk wr va l from fun wr hk => by
    obtain ⟨a1, a2, a3, a4, a5⟩ := HG.out
    have h6 := own_keepS HT.out hk (fun k e hf => by
      have h7 := (World.ownsRow.lt HT.out k e).1
      rcases hf with (rfl | hf) | rfl
      · omega
      · have := a2 k hf; omega
      · omega)
    obtain ⟨va', vc', e, h8⟩ := OwnS.isTk h6
    injection e with e1 e2 e3
    rw [e1]; exact h8)
  clear e5 e9 hb0 hb1 hot hL0 hROW HO HBA HE5 HE9 HW1 HW HC HBB hs1 HT HSZ
  go_wp2_with fail
  clear hB2 HB2 hmk
  go_loopw [8, 10, 13, 45] (fun x y u i wr => ∃ (k : Nat) (q' : Q4) (o : List UInt8), x = .string ⟨#[]⟩ ∧ y = .int .i64 0 ∧ i = .int .i64 k ∧ k ≤ l.length ∧ o.length + sumK (l.drop k) ≤ 65536 ∧ Hid (appS size (l.drop k) q' (H ++ o) = (RR, Q, E)) ∧ Hid (Lp w1 wr g g5 g9 B size v (lastN size (H ++ o)) u o q')) (fun _ _ _ i _ => l.length - (intOf i).toNat)
  case atStart =>
    refine ⟨0, q, [], rfl, rfl, rfl, Nat.zero_le _, by simpa using HL.out, Lib.hid (by simpa using HR.out), Lib.hid ?_⟩
    rw [List.append_nil, HWL.out]
    exact HLP.out
  case round =>
    obtain ⟨k, q', o, rfl, rfl, rfl, hk, hol, hap, hlp⟩ := hrel
    obtain ⟨ua, uc, rfl⟩ := hlp.out.out.slice
    by_cases hlt : k < l.length
    · obtain ⟨x, rfl, hx, x0, x1, x2, x3, x4⟩ := (HTK.out wr hlp.out.kp).at k hlt
      have hki : (k : Int) < (l.length : Int) := by omega
      have HST := Lib.hid ((appS_drop size l k hlt q' (H ++ o)).symm.trans hap.out)
      have hsk := sumK_drop l k hlt
      obtain ⟨t, ht⟩ : ∃ t, l[k] = t := ⟨_, rfl⟩
      have htok : t.ok := by rw [← ht]; exact HOK.out _ (List.getElem_mem hlt)
      rw [ht] at HST hsk x0 x1 x2 x3 x4
      clear ht
      have HLT := Lib.hid hlt
      obtain ⟨tk, tb, tl, td, tr⟩ := t
      simp only at x0 x1 x2 x3 x4
      obtain ⟨⟨q2, D, E2⟩, hU⟩ : ∃ r, useV q' ⟨tk, tb, tl, td, tr⟩ = r := ⟨_, rfl⟩
      have HU := Lib.hid (show ∀ W, Calls Tryz.prog 19 #[.agg #[.int .i64 q'.a, .int .i64 q'.b, .int .i64 q'.c, .int .i64 q'.d], .agg #[.int .i64 tk, .int .i64 tb, .int .i64 tl, .int .i64 td, .int .i64 tr]] W fun e w' => e = .returned (.tuple #[.agg #[.int .i64 q2.a, .int .i64 q2.b, .int .i64 q2.c, .int .i64 q2.d], .int .i64 D, .int .i64 E2]) ∧ Below W.heap.size W w' from
        fun W => (pUse q' ⟨tk, tb, tl, td, tr⟩ W).mono fun e w' h => by unfold UsePost at h; rw [hU] at h; exact h)
      have HUV := Lib.hid hU
      have HLP := Lib.hid hlp.out
      have s5 := block_lt HLP.out.e5
      obtain ⟨c0, c1, c2, c3⟩ := HLP.out.c5
      clear hU hlp hap htok
      go_wp2_with fail
      obtain ⟨gt, hgt⟩ : ∃ gt, wr.heap.size = gt := ⟨_, rfl⟩
      have et := heap_alloc_new wr (.cells #[.int .i64 tk, .int .i64 tb, .int .i64 tl, .int .i64 td, .int .i64 tr] 42)
      have HLP2 := Lib.hid (HLP.out.low ((Below.refl _ _).alloc (Nat.le_refl _) (.cells #[.int .i64 tk, .int .i64 tb, .int .i64 tl, .int .i64 td, .int .i64 tr] 42)))
      have hgs := HLP.out.kp.size
      obtain ⟨wa, hwa⟩ : ∃ wa, wr.alloc (.cells #[.int .i64 tk, .int .i64 tb, .int .i64 tl, .int .i64 td, .int .i64 tr] 42) = wa := ⟨_, rfl⟩
      rw [hwa, hgt] at et
      rw [hwa] at HLP2 ⊢
      rw [hgt]
      rw [hgt] at hgs s5
      clear hwa hgt c0 c1 c2 c3 x0 x1 x2 x3 x4 HLP hx
      refine (HU.out _).mono ?_; rintro e w3 ⟨rfl, hb3⟩
      have HLP := Lib.hid (HLP2.out.low hb3)
      have HET := Lib.hid ((hb3.block _ (block_lt et)).trans et)
      clear HLP2 et hb3 HU
      have ct0 := cell_lit HET.out 0 _ rfl
      have ct1 := cell_lit HET.out 1 _ rfl
      have ct2 := cell_lit HET.out 2 _ rfl
      have ct3 := cell_lit HET.out 3 _ rfl
      have ct4 := cell_lit HET.out 4 _ rfl
      have st := block_lt HET.out
      by_cases hE0 : E2 = 0
      · subst hE0
        go_wp2_with fail
        have e16 := heap_alloc_new w3 (.cells #[.int .i64 q2.a, .int .i64 q2.b, .int .i64 q2.c, .int .i64 q2.d] 23)
        have HLP2 := Lib.hid (HLP.out.low ((Below.refl _ _).alloc (Nat.le_refl _) (.cells #[.int .i64 q2.a, .int .i64 q2.b, .int .i64 q2.c, .int .i64 q2.d] 23)))
        have HUB := Lib.hid (fun j e => (HLP.out.ub (k := j) e).2)
        have HBX := Lib.hid ((Below.refl w3.heap.size w3).alloc (Nat.le_refl _) (.cells #[.int .i64 q2.a, .int .i64 q2.b, .int .i64 q2.c, .int .i64 q2.d] 23))
        have HGG := Lib.hid (Nat.le_refl w3.heap.size)
        obtain ⟨g16, hg16⟩ : ∃ g16, w3.heap.size = g16 := ⟨_, rfl⟩
        obtain ⟨wb, hwb⟩ : ∃ wb, w3.alloc (.cells #[.int .i64 q2.a, .int .i64 q2.b, .int .i64 q2.c, .int .i64 q2.d] 23) = wb := ⟨_, rfl⟩
        rw [hwb, hg16] at e16
        rw [hwb] at HLP2 HBX ⊢
        rw [hg16]
        rw [hg16] at HUB
        conv at HGG => arg 1; rhs; rw [hg16]
        have hsb := HBX.out.size
        clear hwb hg16 ct0 ct1 ct2 ct3 ct4
        refine (fActOf ⟨tk, tb, tl, td, tr⟩ D wb).mono ?_; rintro e w4 ⟨rfl, hb4⟩
        have HLP0 := HLP
        have HE16 := Lib.hid ((hb4.block _ (block_lt e16)).trans e16)
        obtain ⟨V, hV⟩ : ∃ V, actV ⟨tk, tb, tl, td, tr⟩ D = V := ⟨_, rfl⟩
        have CD := Lib.hid (fun T E hT => lpDo HLP0.out (HBX.out.trans (hb4.mono hsb)) g16 HGG.out _ HE16.out ⟨tk, tb, tl, td, tr⟩ D T E hT)
        rw [hV] at CD ⊢
        have hst := HST.out
        clear HLP2 e16 hb4 hV HLP HE16 HBX HGG hsb HLP0
        rcases act_step size h1 h2 ⟨tk, tb, tl, td, tr⟩ q' (H ++ o) (by rw [HUV.out]) with ⟨a1, a2, T, a3, a4⟩ | ⟨a1, a2⟩
        · rw [HUV.out] at a2 a3
          rw [if_pos a1, a2, a4] at hst
          have HA := Lib.hid hst
          have hTl : (T.length : Int) = szTok tk tb tl td tr := actS_len _ D _ T a3 (useV_ok (by rw [HUV.out]))
          rw [szN_tok ⟨tk, tb, tl, td, tr⟩ (useV_ok (q := q') (by rw [HUV.out]))] at hTl
          have HOL := Lib.hid (show o.length + T.length + sumK (l.drop (k + 1)) ≤ 65536 by omega)
          have CDT := Lib.hid (CD.out T 0 a3)
          clear a1 a2 a3 a4 hst CD HST HUV hTl hsk hol
          trace_state
          go_wp2_with fail
          refine CDT.out.mono ?_; rintro e w5 ⟨rfl, hlp5, e165⟩
          have HLP5 := Lib.hid hlp5
          have HE165 := Lib.hid e165
          have c0 := cell_lit e165 0 _ rfl
          have c1 := cell_lit e165 1 _ rfl
          have c2 := cell_lit e165 2 _ rfl
          have c3 := cell_lit e165 3 _ rfl
          have HAP := Lib.hid (show ∀ v1 wX, wX.ownsRow w1.heap.size 5 1 v1 (o.length + (sOf T).size) (cells8 o ++ Go.Lib.strCells (sOf T)) → w5.drew.grownBy wX (Value.slice ua o.length uc).ownBlock → (∀ k, v1.ownBlock = some k → (Value.slice ua o.length uc).ownBlock = some k ∨ w5.drew.heap.size ≤ k) →
              Lp w1 wX g g5 g9 B size v (lastN size (lastN size (H ++ o) ++ T)) v1 (o ++ T) q' ∧ wX.heap[g16]? = some (.cells #[.int .i64 q2.a, .int .i64 q2.b, .int .i64 q2.c, .int .i64 q2.d] 23 (0, 0)) from fun v1 wX ho hg hb => by
            refine ⟨HLP5.out.app (show OwnY _ _ _ _ from ?_) hg hb, ?_⟩
            · show wX.ownsRow _ _ _ _ _ _
              rw [cells8_fY, ← cells8_app, List.length_append]
              rw [sOf_sz, strCells8, sOf_li] at ho
              exact ho
            · exact (((Keeps.refl (fun k => (Value.slice ua o.length uc).ownBlock = some k) w5).drew).grown hg (fun k e => .inr e)).heap HE165.out (fun e => by have := HUB.out _ e; omega))
          have HOWN := Lib.hid (show w5.drew.ownsRow w1.heap.size 5 1 (.slice ua o.length uc) o.length (cells8 o) from by
            have := HLP5.out.out
            unfold OwnY OwnS at this
            rw [cells8_fY] at this
            exact this)
          have HBS := Lib.hid (show w1.heap.size ≤ w5.drew.heap.size from HLP5.out.kp.size)
          have HS63 := Lib.hid (show o.length + (sOf T).size ≤ maxLen by rw [sOf_sz]; unfold maxLen; have := HOL.out; omega)
          have HSby := Lib.hid (show o.length + (sOf T).size ≤ 140737488355328 by rw [sOf_sz]; have := HOL.out; omega)
          obtain ⟨i0, hi, hz0, hz1, hz2⟩ := info_get info_u8
          obtain ⟨Ts, hTs⟩ : ∃ Ts, sOf T = Ts := ⟨_, rfl⟩
          rw [hTs] at HAP HS63 HSby ⊢
          clear hlp5 e165 CDT hTs
          go_wp2_with fail
          go_region_law (refine step_append_str (P := Tryz.prog) rfl (.tmp 72) (.tmp 73) 43 9 rfl w1.heap.size 5 i0 Tryz.underlying43 Tryz.underlying9 hi hz0 hz1 hz2 _ o.length (cells8 o) ?hd HOWN.out Ts ?hs HS63.out HSby.out HBS.out ?_; (case hd => go_simp); (case hs => go_simp); intro v1 wX hown1 hgr1 hbk1; obtain ⟨hlp6, e166⟩ := HAP.out v1 wX hown1 hgr1 hbk1; obtain ⟨a1, d1, rfl⟩ := own_slice hown1; (have p0 := cell_lit e166 0 _ rfl); (have p1 := cell_lit e166 1 _ rfl); (have p2 := cell_lit e166 2 _ rfl); (have p3 := cell_lit e166 3 _ rfl); obtain ⟨k0, k1, k2, k3⟩ := hlp6.c5; (have f0 := free_in hlp6.e5 0); (have f1 := free_in hlp6.e5 1); (have f2 := free_in hlp6.e5 2); (have f3 := free_in hlp6.e5 3))
          all_goals
            have HF := hlp6.put q2
            have hsl : Value.slice a1 (o.length + Ts.size) d1 = Value.slice a1 (o.length + Ts.size) d1 := rfl
            clear hlp6 e166 hown1 hgr1 hbk1 p0 p1 p2 p3 k0 k1 k2 k3 f0 f1 f2 f3 c0 c1 c2 c3 HAP HOWN
            revert HF
            generalize (World.setCell _ ⟨g5, 3, none⟩ (.int .i64 q2.d)) = W
            intro HF
            rw [lastN_append2] at HF
            have HFF := Lib.hid HF
            have HA2 := Lib.hid (show appS size (l.drop (k + 1)) q2 (H ++ (o ++ T)) = (RR, Q, E) by rw [← List.append_assoc]; exact HA.out)
            clear HF
            go_wp2_with fail
            exact ⟨⟨k + 1, q2, o ++ T, rfl, rfl, by go_num, by have := HLT.out; omega, by rw [List.length_append]; exact HOL.out, HA2, HFF⟩, by have := HLT.out; simp [intOf]; omega⟩
        · rw [a1, if_neg (by decide)] at hst
          injection hst with eR e3
          injection e3 with eQ eE
          subst eR eQ eE
          have CDT := Lib.hid (CD.out [] 10 (by rw [HUV.out] at a2; exact a2))
          clear a1 a2 CD HST HUV hsk hol
          go_wp2_with fail
          refine CDT.out.mono ?_; rintro e w5 ⟨rfl, hlp5, -⟩
          have HF := Lib.hid (hlp5.fin HB1.out (by have := HG.out; omega) (by have := HG.out; omega) (.int .i64 0) (.int .i64 0) (.int .i64 0) (.int .i64 0))
          obtain ⟨d0, d1, d2, d3⟩ := hlp5.c9
          have f0 := free_in hlp5.e9 0
          have f1 := free_in hlp5.e9 1
          have f2 := free_in hlp5.e9 2
          have f3 := free_in hlp5.e9 3
          clear hlp5 CDT
          go_wp2_with fail
          try rw [Exit.noGoto_ret]
          have hf := HF.out
          revert hf
          generalize (World.setCell _ ⟨g9, 3, none⟩ (.int .i64 0)) = W
          rintro ⟨f1, f2, hz⟩
          have r0 := cell_lit hz 0 _ rfl
          have r1 := cell_lit hz 1 _ rfl
          have r2 := cell_lit hz 2 _ rfl
          have r3 := cell_lit hz 3 _ rfl
          exact bodyPost_ret (v := .tuple #[.string ⟨#[]⟩, .agg #[.int .i64 0, .int .i64 0, .int .i64 0, .int .i64 0], .int .i64 10]) (by simp [results, Tryz.results10, go_sem, r0, r1, r2, r3]) rfl ⟨by rw [List.drop_nil]; rfl, f1, fun e => absurd e (by decide)⟩
      · have hU2 := useV_bad (q := q') (t := ⟨tk, tb, tl, td, tr⟩) (by rw [HUV.out]; exact hE0)
        rw [HUV.out] at hU2
        injection hU2 with eq eD
        injection eD with eD eE
        subst eq eD eE
        have hst := HST.out
        rw [stepS_use HUV.out (by decide), if_neg (by decide)] at hst
        injection hst with eR e3
        injection e3 with eQ eE
        subst eR eQ eE
        have HF := Lib.hid (HLP.out.fin HB1.out (by have := HG.out; omega) (by have := HG.out; omega) (.int .i64 0) (.int .i64 0) (.int .i64 0) (.int .i64 0))
        have s9 := block_lt HLP.out.e9
        obtain ⟨d0, d1, d2, d3⟩ := HLP.out.c9
        have f0 := free_in HLP.out.e9 0
        have f1 := free_in HLP.out.e9 1
        have f2 := free_in HLP.out.e9 2
        have f3 := free_in HLP.out.e9 3
        go_wp2_with fail
        try rw [Exit.noGoto_ret]
        have hf := HF.out
        revert hf
        generalize (World.setCell _ ⟨g9, 3, none⟩ (.int .i64 0)) = W
        rintro ⟨f1, f2, hz0⟩
        have hz := heap_old hz0 (.cells #[.int .i64 z4.a, .int .i64 z4.b, .int .i64 z4.c, .int .i64 z4.d] 23)
        have r0 := cell_lit hz 0 _ rfl
        have r1 := cell_lit hz 1 _ rfl
        have r2 := cell_lit hz 2 _ rfl
        have r3 := cell_lit hz 3 _ rfl
        exact bodyPost_ret (v := .tuple #[.string ⟨#[]⟩, .agg #[.int .i64 0, .int .i64 0, .int .i64 0, .int .i64 0], .int .i64 10]) (by simp only [results, Tryz.results10]; simp [go_sem, r0, r1, r2, r3]) rfl ⟨by rw [List.drop_nil]; rfl, f1.alloc _, fun e => absurd e (by decide)⟩
    · obtain rfl : k = l.length := by omega
      have hst := hap.out
      rw [List.drop_length, appS] at hst
      injection hst with eR e3
      injection e3 with eQ eE
      subst eR eQ eE
      have HF := Lib.hid (hlp.out.fin HB1.out (by have := HG.out; omega) (by have := HG.out; omega) (.int .i64 q'.a) (.int .i64 q'.b) (.int .i64 q'.c) (.int .i64 q'.d))
      have s5 := block_lt hlp.out.e5
      have s9 := block_lt hlp.out.e9
      have hcv := y_conv (w := wr.drew) (show OwnY _ wr.drew _ _ from hlp.out.out)
      obtain ⟨c0, c1, c2, c3⟩ := hlp.out.c5
      obtain ⟨d0, d1, d2, d3⟩ := hlp.out.c9
      have f0 := free_in hlp.out.e9 0
      have f1 := free_in hlp.out.e9 1
      have f2 := free_in hlp.out.e9 2
      have f3 := free_in hlp.out.e9 3
      clear hlp
      go_wp2_with fail
      go_region
      all_goals go_wp2_with fail
      all_goals
        try rw [Exit.noGoto_ret]
        have hf := HF.out
        revert hf
        generalize (World.setCell _ ⟨g9, 3, none⟩ (.int .i64 q'.d)) = W
        rintro ⟨f1, f2, hz⟩
        have r0 : W.drew.cell? ⟨g9, 0, none⟩ = _ := cell_lit hz 0 _ rfl
        have r1 : W.drew.cell? ⟨g9, 1, none⟩ = _ := cell_lit hz 1 _ rfl
        have r2 : W.drew.cell? ⟨g9, 2, none⟩ = _ := cell_lit hz 2 _ rfl
        have r3 : W.drew.cell? ⟨g9, 3, none⟩ = _ := cell_lit hz 3 _ rfl
        exact bodyPost_ret (v := .tuple #[.string (sOf o), .agg #[.int .i64 q'.a, .int .i64 q'.b, .int .i64 q'.c, .int .i64 q'.d], .int .i64 0]) (by simp only [results, Tryz.results10]; simp [go_sem, r0, r1, r2, r3]) rfl ⟨rfl, f1.drew, f2.later 1⟩
end Go.Proofs.YtipcdkemokkdfaaGreat
