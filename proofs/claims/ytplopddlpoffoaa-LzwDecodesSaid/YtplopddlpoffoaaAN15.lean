/- Layer 60: Decode, the walk. -/
import Derived.Test.YtplopddlpoffoaaAN14
namespace Go.Proofs.Ytplopddlpoffoaa
open Go.ChangeShapes Go.WideShapes Go.ChangeAt Go.RowKit
set_option linter.unusedVariables false
set_option linter.unusedSimpArgs false
set_option maxRecDepth 100000
open Bits
theorem take_bound {R : List Bool} {t K t' X : Nat} {E : Int} (hK : K ≤ 56) (hS : takeS R t (K : Nat) = (t', X, E)) : X < 2 ^ K ∧ (E = 0 ∨ E = 3) := by
  unfold takeS at hS
  rw [if_neg (by omega), Int.toNat_natCast] at hS
  split at hS
  · simp at hS
    obtain ⟨-, rfl, rfl⟩ := hS
    exact ⟨Nat.pow_pos (by decide), .inr rfl⟩
  · simp at hS
    obtain ⟨-, rfl, rfl⟩ := hS
    exact ⟨peek_lt _ _, .inl rfl⟩
theorem okZ_peek (r : List Bool) : okZ r = true ↔ r.length < 8 ∧ peek r r.length = 0 := by
  have wz : ∀ r : List Bool, wordOf r = 0 ↔ r.all (fun b => !b) = true := by
    intro r
    induction r with
    | nil => simp [wordOf]
    | cons b r ih =>
      have e : wordOf (b :: r) = (if b then 1 else 0) + 2 * wordOf r := rfl
      rw [e, List.all_cons, Bool.and_eq_true, ← ih]
      cases b <;> simp <;> omega
  unfold okZ peek
  rw [List.take_length, wz, Bool.and_eq_true, decide_eq_true_eq]
theorem conv_outU {B : Nat} {w : World} {v : Value} {l : List UInt8} (h : OwnU B w v l) : (convert 94 9 v).run Try.prog w = .ok (.string (sB l)) w := by
  unfold OwnU OwnS at h
  rw [fU8_cells] at h
  exact conv_own8 Try.underlying94 Try.underlying5 Try.underlying9 h
set_option maxHeartbeats 12800000 in
theorem cDecode (s : ByteArray) (many m : Nat) (h9 : 9 ≤ m) (h16 : m ≤ 16) (hm : many ≤ 16777216) (hs : s.size ≤ 100000) (RES : Row8 × Int) (hRES : decZ (spread s.data.toList) many m many freshR [] [] 0 = RES) (w : World) : Calls Try.prog 21 #[.string s, .int .i64 many, .int .i64 m] w fun e w' => e = .returned (.tuple #[.string (sB RES.1), .int .i64 RES.2]) ∧ Below w.heap.size w w' := by
  obtain ⟨q, hq⟩ : ∃ q, 2 ^ m = q := ⟨_, rfl⟩
  have hq2 : 512 ≤ q ∧ q ≤ 65536 := by
    have h1 : 2 ^ 9 ≤ 2 ^ m := Nat.pow_le_pow_right (by decide) h9
    have h2 : 2 ^ m ≤ 2 ^ 16 := Nat.pow_le_pow_right (by decide) h16
    rw [hq] at h1 h2
    omega
  have hsh : (Value.int .i64 (wrap64 (2 ^ m))) = Value.int .i64 (q : Int) := by
    rw [show ((2 : Int) ^ m) = ((2 ^ m : Nat) : Int) by simp, hq]
    congr 1
    unfold wrap64
    omega
  have HQ := Lib.hid hq
  have HMB := Lib.hid (cMayBits (m : Int) true (decide_eq_true (by omega)))
  have HOW0 : Hid (Owes (spread s.data.toList) many m RES freshR [] [] 0) := ⟨many, by simp, fun _ => hRES, fun h => absurd h (by simp)⟩
  have HS16 := Lib.hid (show s.size ≤ maxLen / 16 by unfold maxLen; omega)
  have HSL := Lib.hid (show s.data.toList.length ≤ 100000 by simpa using hs)
  clear hq hRES
  go_enter Try.func21, Try.ntmps21
  go_wp2_with fail
  refine (HMB.out _).mono ?_; rintro e w1 ⟨rfl, rfl⟩
  go_wp2_with fail
  refine (rNew s HS16.out _).mono ?_; rintro e w2 ⟨rfl, hr2, hb2, hz2'⟩
  have HF2 := Lib.hid (far_start hr2)
  have HR2 := Lib.hid hr2
  have HB2 := Lib.hid hb2
  obtain ⟨rb, hrb⟩ : ∃ rb, w1.heap.size + 1 = rb := ⟨_, rfl⟩
  obtain ⟨B, hB⟩ : ∃ B, w2.heap.size = B := ⟨_, rfl⟩
  have hwB : w1.heap.size ≤ B := by omega
  have hqB : w1.heap.size ≤ rb := by omega
  clear hr2 hb2 hz2'
  go_wp2_with fail
  obtain ⟨W3, hW3⟩ : ∃ W3, w2.alloc (.cells #[.slice none 0 0, .slice none 0 0, .int .i64 0, .int .i64 0] 99) = W3 := ⟨_, rfl⟩
  rw [hW3]
  have HI0 := Lib.hid (show DecI w1 rb B s.data.toList many m q RES freshR [] [] [] 0 0 0 (.slice none 0 0) (.slice none 0 0) W3 by
    have hal : Below B w2 W3 := by rw [← hW3, ← hB]; exact (Below.refl _ _).alloc (Nat.le_refl _) _
    have hr := HR2.out
    have hf := HF2.out
    rw [hrb] at hr hf
    rw [hB] at hf
    obtain ⟨h1, h2⟩ := reader_low hr hf hal
    refine ⟨⟨?_, OwnS.nil, OwnS.nil, Nat.le_refl _⟩, h1, h2, spn_start, HOW0.out, HB2.out.trans (hal.mono hwB), by simp; omega, by simp, by rw [← hB]; exact hal.mono (Nat.le_of_eq hB) |>.size⟩
    rw [← hW3, ← hB]; exact heap_alloc_new w2 _)
  clear hW3 HR2 HF2 HB2 HOW0 HMB hrb hB
  go_loopg [] many (fun gk wr => ∃ l last O ps lf ln t ov rv, gk = many - O.length ∧ Hid (DecI w1 rb B s.data.toList many m q RES l last O ps lf ln t ov rv wr))
  case atStart => exact ⟨_, _, _, _, _, _, _, _, _, by simp, HI0⟩
  case round =>
    clear HI0
    obtain ⟨l, last, O, ps, lf, ln, t, ov, rv, hgk, hd⟩ := hrel
    obtain ⟨oa, oc, hov⟩ := hd.out.rd.out.slice
    obtain ⟨ra, rc, hrv⟩ := hd.out.rd.rows.slice
    subst hov hrv
    have c0 := cell_lit hd.out.rd.block 0 (.slice oa O.length oc) rfl
    have c1 := cell_lit hd.out.rd.block 1 (.slice ra ps.length rc) rfl
    have c2 := cell_lit hd.out.rd.block 2 (.int .i64 (lf : Int)) rfl
    have c3 := cell_lit hd.out.rd.block 3 (.int .i64 (ln : Int)) rfl
    have f1 := free_in hd.out.rd.block 1
    have hBl := block_lt hd.out.rd.block
    obtain ⟨N, hN⟩ : ∃ N, O.length = N := ⟨_, rfl⟩
    obtain ⟨P, hP⟩ : ∃ P, ps.length = P := ⟨_, rfl⟩
    have hfew := hd.out.few
    have hsmall := hd.out.small
    rw [hN] at c0 hgk hsmall
    rw [hP] at c1 hfew
    have HNN := Lib.hid hN
    have HPP := Lib.hid hP
    clear hN hP
    by_cases hlt : N < many
    · have hlti : (N : Int) < (many : Int) := by omega
      have hrows := hd.out.spn.rows m
      by_cases hpd : 0 < N ∧ 256 + P < q
      · have hp1 : (0 : Int) < (N : Int) := by omega
        have hp2 : (256 : Int) + (P : Int) < (q : Int) := by omega
        have hlnN : ln ≤ N := by
          have := (hd.out.spn.got (by intro e; have := HNN.out; rw [e] at this; simp at this; omega)).2.1
          rw [HNN.out] at this; omega
        have hwl : IntKind.i64.wrap ((ln : Int) + 1) = (ln : Int) + 1 := by rw [IntKind.wrap_i64]; omega
        go_wp2_with fail
        go_quiet (fail)
        rename_i nq
        obtain ⟨W4, hW4⟩ : ∃ W4, wr.drewN nq = W4 := ⟨_, rfl⟩
        rw [hW4]
        have HD4 := Lib.hid (show DecI w1 rb B s.data.toList many m q RES l last O ps lf ln t (.slice oa O.length oc) (.slice ra ps.length rc) W4 by rw [← hW4]; exact hd.out.drewN nq)
        have c0 : W4.cell? ⟨B, 0, none⟩ = some (.slice oa N oc) := by rw [← hW4]; exact c0
        have c1 : W4.cell? ⟨B, 1, none⟩ = some (.slice ra P rc) := by rw [← hW4]; exact c1
        have c2 : W4.cell? ⟨B, 2, none⟩ = some (.int .i64 (lf : Int)) := by rw [← hW4]; exact c2
        have c3 : W4.cell? ⟨B, 3, none⟩ = some (.int .i64 (ln : Int)) := by rw [← hW4]; exact c3
        have hBl4 : B < W4.heap.size := by rw [← hW4]; exact hBl
        clear hW4 hd
        have HROW := Lib.hid HD4.out.rd.rows
        rw [HPP.out] at HROW
        have HPL := Lib.hid (show ps.length ≤ 1099511627776 by rw [HPP.out]; omega)
        have HBB := Lib.hid HD4.out.base
        go_wp2_with fail
        go_region_law (refine step_span rfl (.tmp 57) (.tmp 70) rfl B 97 (.slice ra P rc) ps lf (ln + 1) _ (by simp) rfl (OwnS.drew HROW.out) W4.heap.size 1 rfl rfl HPL.out HBB.out ?_; intro v6 w6 ho6 hg6; obtain ⟨ra6, rc6, hv6⟩ := ho6.slice; rw [show (ps ++ [(lf, ln + 1)]).length = P + 1 by simp [HPP.out]] at hv6; subst hv6; obtain ⟨hrd6, hbl6, hgg6⟩ := HD4.out.rd.push ho6 (show (W4.alloc (.cells #[.int .i64 (lf : Int), .int .i64 ((ln : Int) + 1)] 97)).grownBy w6 _ from by have h := hg6; rw [HPP.out]; exact ⟨h.os, h.tape, h.output, h.size, h.block⟩); have d1 := cell_lit hgg6 1 _ rfl; have e1 := free_in hgg6 1; have HRD6 := Lib.hid hrd6; have HBL6 := Lib.hid (hbl6 HBB.out); clear ho6 hg6 hrd6 hbl6 hgg6)
        all_goals
          obtain ⟨W5, hW5⟩ : ∃ W5, w6.setCell ⟨B, 1, none⟩ (.slice ra6 (P + 1) rc6) = W5 := ⟨_, rfl⟩
          rw [hW5] at HRD6 HBL6 ⊢
          have hpn : psN O ps lf ln m = ps ++ [(lf, ln + 1)] := by
            unfold psN
            rw [if_pos ⟨by intro e; have := HNN.out; rw [e] at this; simp at this; omega, by rw [HPP.out, HQ.out]; exact hpd.2⟩]
          obtain ⟨ra5, hra5⟩ : ∃ ra5, ra6 = ra5 := ⟨_, rfl⟩
          obtain ⟨rc5, hrc5⟩ : ∃ rc5, rc6 = rc5 := ⟨_, rfl⟩
          obtain ⟨Pn, hPn⟩ : ∃ Pn, P + 1 = Pn := ⟨_, rfl⟩
          rw [hra5, hrc5, hPn] at HRD6
          have HJ := Lib.hid (show DecJ w1 rb B s.data.toList O (psN O ps lf ln m) lf ln t (.slice oa O.length oc) (.slice ra5 Pn rc5) W5 by
            rw [hpn]
            obtain ⟨h1, h2⟩ := reader_low HD4.out.bits HD4.out.far HBL6.out
            exact ⟨HRD6.out, h1, h2, HD4.out.below.trans (HBL6.out.mono hwB), Nat.le_trans HD4.out.base HBL6.out.size⟩)
          have HPn := Lib.hid (show (psN O ps lf ln m).length = Pn by rw [hpn, List.length_append, HPP.out]; exact hPn)
          have hPq : 256 + Pn ≤ q := by omega
          have HSP := Lib.hid HD4.out.spn
          have HOE := Lib.hid HD4.out.owes
          clear hW5 hpn hra5 hrc5 HRD6 HBL6 HD4 HROW HPL HBB d1 e1 c0 c1 c2 c3 hBl4 hwl hlnN hp1 hp2 hPn
          have k1 := cell_lit HJ.out.rd.block 1 (.slice ra5 Pn rc5) rfl
          obtain ⟨K, hK⟩ : ∃ K, widN (256 + Pn) = K := ⟨_, rfl⟩
          have hwf := widN_facts (rows := 256 + Pn) (by omega) (by omega)
          have HCW := Lib.hid (fun W => cWidth (256 + Pn) (by omega) (by omega) W)
          have hcast : ((256 + Pn : Nat) : Int) = 256 + (Pn : Int) := by omega
          rw [hK] at hwf HCW
          rw [hcast] at HCW
          have hK16 := hwf.2.1
          obtain ⟨t', X, E, hS⟩ : ∃ t' X E, takeS (spread s.data.toList) t (K : Nat) = (t', X, E) := ⟨_, _, _, rfl⟩
          have HTK := Lib.hid (fun W hW => rTakeF W rb t K s.data.toList (by omega) hW t' X E hS)
          have HROWS := Lib.hid (show rowsZ l last m = 256 + Pn by rw [hrows, HPn.out])
          have HSS := Lib.hid (show takeS (spread s.data.toList) t (widN (256 + Pn) : Nat) = (t', X, E) by rw [hK]; exact hS)
          obtain ⟨hXK, hE⟩ := take_bound (by omega) hS
          have hX16 : X < 65536 := Nat.lt_of_lt_of_le hXK (Nat.le_trans (Nat.pow_le_pow_right (by decide) hK16) (by decide))
          have hlO : O.length < many := by rw [HNN.out]; exact hlt
          have HLO := Lib.hid hlO
          have HOS := Lib.hid (show O.length ≤ 100000000 by rw [HNN.out]; omega)
          have hXi : IntKind.i64.wrap (X : Int) = (X : Int) := by rw [IntKind.wrap_i64]; omega
          clear hwf hK hcast hS hXK hlO hrows
          go_wp2_with fail
          refine (HCW.out _).mono ?_; rintro e w7 ⟨rfl, rfl⟩
          go_wp2_with fail
          refine (HTK.out w7 HJ.out.bits).mono ?_; rintro e w8 ⟨rfl, hr8, hk8, hF8⟩
          have HJ8 := Lib.hid (HJ.out.took hr8 hk8 hF8 hqB)
          clear hr8 hk8 hF8 k1
          rcases hE with rfl | rfl
          · by_cases hXr : 256 + Pn ≤ X
            · have hres := Lib.hid (HOE.out.form HLO.out HROWS.out HSS.out hXr)
              go_wp2_with fail
              refine (cNextNo w8 B B _ _ lf ln O _ X HJ8.out.rd (by omega) (by omega) (by rw [HPn.out]; omega) HOS.out).mono ?_; rintro e w9 ⟨rfl, rfl⟩
              go_wp2_with fail
              go_ret2
              exact ⟨by rw [hres.out]; rfl, HJ8.out.below⟩
            · have hnow := HSP.out.now m X (by rw [HPn.out]; omega)
              obtain ⟨now, hnw⟩ : ∃ now, nowZ l last X = now := ⟨_, rfl⟩
              have hown := HOE.out.next HLO.out HROWS.out HSS.out (by omega) hnow.1
              have hstp := HSP.out.step m (nowZ l last X) hnow.1
              rw [HROWS.out] at hstp
              rw [hnw] at hnow hown hstp
              have hnl : 0 < now.length := List.length_pos_iff.2 hnow.1
              have HFIN := Lib.hid (show ∀ w9, now.length ≤ O.length + 1 → RdPost w8 B B (.slice oa O.length oc) (.slice ra5 Pn rc5) (O ++ now) (psN O ps lf ln m) O.length now.length w9 → ∃ ov', DecI w1 rb B s.data.toList many m q RES (moreZ l last now (256 + Pn)) now (O ++ now) (psN O ps lf ln m) O.length now.length t' ov' (.slice ra5 Pn rc5) w9 from fun w9 hnn hp => by
                have hbl := RdPost.below HJ8.out.rd hp HJ8.out.base
                obtain ⟨ov', hrd, -, -⟩ := hp
                obtain ⟨g1, g2⟩ := reader_low HJ8.out.bits HJ8.out.far hbl
                exact ⟨ov', hrd, g1, g2, hstp, hown, HJ8.out.below.trans (hbl.mono hwB), by rw [HPn.out]; exact hPq, by rw [List.length_append]; have := HLO.out; omega, Nat.le_trans HJ8.out.base hbl.size⟩)
              have HMS := Lib.hid (show many - (O ++ now).length < gk by rw [hgk, List.length_append, HNN.out]; omega)
              clear hown hstp
              by_cases hx : X < 256
              · have hn1 := hnow.2.1 hx
                have HPO := Lib.hid (fun w9 (h : RdPost w8 B B (.slice oa O.length oc) (.slice ra5 Pn rc5) (O ++ [UInt8.ofNat X]) (psN O ps lf ln m) O.length 1 w9) => HFIN.out w9 (by rw [hn1]; simp) (by rw [hn1]; exact h))
                clear hnow hn1
                go_wp2_with fail
                refine (cNextByte w8 B B _ _ lf ln O _ X HJ8.out.rd hx HOS.out HJ8.out.base).mono ?_; rintro e w9 ⟨rfl, hp9⟩
                obtain ⟨ov9, hd9⟩ := HPO.out w9 hp9
                have HD9 := Lib.hid hd9
                clear hp9 hd9
                go_wp2_with fail
                go_roundg (many - (O ++ now).length)
                case rel => exact ⟨_, _, _, _, _, _, _, _, _, rfl, HD9⟩
                case measure => exact HMS.out
              · obtain ⟨⟨f, k⟩, hp⟩ : ∃ p, (psN O ps lf ln m)[X - 256]? = some p := ⟨_, List.getElem?_eq_getElem (by rw [HPn.out]; omega)⟩
                obtain ⟨g1, g2, g3, g4⟩ := hnow.2.2 f k hp (by omega)
                have HPO := Lib.hid (fun w9 (h : RdPost w8 B B (.slice oa O.length oc) (.slice ra5 Pn rc5) (copyZ f O k) (psN O ps lf ln m) O.length k w9) => HFIN.out w9 (by omega) (by rw [g4, ← g1]; exact h))
                have HPI := Lib.hid hp
                clear hnow hp g1 g4
                go_wp2_with fail
                refine (cNextRow w8 B B _ _ lf ln O _ X f k HJ8.out.rd (by omega) (by omega) HPI.out g2 g3 HOS.out HJ8.out.base).mono ?_; rintro e w9 ⟨rfl, hp9⟩
                obtain ⟨ov9, hd9⟩ := HPO.out w9 hp9
                have HD9 := Lib.hid hd9
                clear hp9 hd9
                go_wp2_with fail
                go_roundg (many - (O ++ now).length)
                case rel => exact ⟨_, _, _, _, _, _, _, _, _, rfl, HD9⟩
                case measure => exact HMS.out
          · have hres := Lib.hid (HOE.out.err HLO.out HROWS.out HSS.out (by decide))
            go_wp2_with fail
            go_ret2
            exact ⟨by rw [hres.out]; rfl, HJ8.out.below⟩
      · have hq6 : True := trivial
        have hpn : psN O ps lf ln m = ps := by
          unfold psN
          rw [if_neg (fun e => hpd ⟨by rw [← HNN.out]; exact List.length_pos_iff.2 e.1, by have := e.2; rw [HPP.out, HQ.out] at this; exact this⟩)]
        obtain ⟨Pn, hPn⟩ : ∃ Pn, P = Pn := ⟨_, rfl⟩
        have HPn := Lib.hid (show (psN O ps lf ln m).length = Pn by rw [hpn, HPP.out]; exact hPn)
        have hPq : 256 + Pn ≤ q := by omega
        have HSP := Lib.hid hd.out.spn
        have HOE := Lib.hid hd.out.owes
        have HDN := Lib.hid (fun nq => hd.out.drewN nq)
        have HPS := Lib.hid hpn
        clear hpn hd
        by_cases hN0 : 0 < N
        · have hp1 : (0 : Int) < (N : Int) := by omega
          have hqe : q = 256 + P := by omega
          subst hqe
          have hp2 : ¬ ((256 : Int) + (P : Int) < 256 + (P : Int)) := by omega
          go_wp2_with fail
          go_quiet (fail)
          rename_i nq
          obtain ⟨W5, hW5⟩ : ∃ W5, wr.drewN nq = W5 := ⟨_, rfl⟩
          rw [hW5]
          have HDQ := HDN.out nq
          rw [hW5] at HDQ
          obtain ⟨ra5, hra5⟩ : ∃ ra5, ra = ra5 := ⟨_, rfl⟩
          obtain ⟨rc5, hrc5⟩ : ∃ rc5, rc = rc5 := ⟨_, rfl⟩
          rw [HPP.out, hra5, hrc5, hPn] at HDQ
          have HJ := Lib.hid (show DecJ w1 rb B s.data.toList O (psN O ps lf ln m) lf ln t (.slice oa O.length oc) (.slice ra5 Pn rc5) W5 by
            rw [HPS.out]
            exact ⟨HDQ.rd, HDQ.bits, HDQ.far, HDQ.below, HDQ.base⟩)
          clear hW5 hra5 hrc5 HDQ c0 c1 c2 c3 f1 hBl hPn
          have k1 := cell_lit HJ.out.rd.block 1 (.slice ra5 Pn rc5) rfl
          obtain ⟨K, hK⟩ : ∃ K, widN (256 + Pn) = K := ⟨_, rfl⟩
          have hwf := widN_facts (rows := 256 + Pn) (by omega) (by omega)
          have HCW := Lib.hid (fun W => cWidth (256 + Pn) (by omega) (by omega) W)
          have hcast : ((256 + Pn : Nat) : Int) = 256 + (Pn : Int) := by omega
          rw [hK] at hwf HCW
          rw [hcast] at HCW
          have hK16 := hwf.2.1
          obtain ⟨t', X, E, hS⟩ : ∃ t' X E, takeS (spread s.data.toList) t (K : Nat) = (t', X, E) := ⟨_, _, _, rfl⟩
          have HTK := Lib.hid (fun W hW => rTakeF W rb t K s.data.toList (by omega) hW t' X E hS)
          have HROWS := Lib.hid (show rowsZ l last m = 256 + Pn by rw [hrows, HPn.out])
          have HSS := Lib.hid (show takeS (spread s.data.toList) t (widN (256 + Pn) : Nat) = (t', X, E) by rw [hK]; exact hS)
          obtain ⟨hXK, hE⟩ := take_bound (by omega) hS
          have hX16 : X < 65536 := Nat.lt_of_lt_of_le hXK (Nat.le_trans (Nat.pow_le_pow_right (by decide) hK16) (by decide))
          have hlO : O.length < many := by rw [HNN.out]; exact hlt
          have HLO := Lib.hid hlO
          have HOS := Lib.hid (show O.length ≤ 100000000 by rw [HNN.out]; omega)
          have hXi : IntKind.i64.wrap (X : Int) = (X : Int) := by rw [IntKind.wrap_i64]; omega
          clear hwf hK hcast hS hXK hlO hrows
          go_wp2_with fail
          refine (HCW.out _).mono ?_; rintro e w7 ⟨rfl, rfl⟩
          go_wp2_with fail
          refine (HTK.out w7 HJ.out.bits).mono ?_; rintro e w8 ⟨rfl, hr8, hk8, hF8⟩
          have HJ8 := Lib.hid (HJ.out.took hr8 hk8 hF8 hqB)
          clear hr8 hk8 hF8 k1
          rcases hE with rfl | rfl
          · by_cases hXr : 256 + Pn ≤ X
            · have hres := Lib.hid (HOE.out.form HLO.out HROWS.out HSS.out hXr)
              go_wp2_with fail
              refine (cNextNo w8 B B _ _ lf ln O _ X HJ8.out.rd (by omega) (by omega) (by rw [HPn.out]; omega) HOS.out).mono ?_; rintro e w9 ⟨rfl, rfl⟩
              go_wp2_with fail
              go_ret2
              exact ⟨by rw [hres.out]; rfl, HJ8.out.below⟩
            · have hnow := HSP.out.now m X (by rw [HPn.out]; omega)
              obtain ⟨now, hnw⟩ : ∃ now, nowZ l last X = now := ⟨_, rfl⟩
              have hown := HOE.out.next HLO.out HROWS.out HSS.out (by omega) hnow.1
              have hstp := HSP.out.step m (nowZ l last X) hnow.1
              rw [HROWS.out] at hstp
              rw [hnw] at hnow hown hstp
              have hnl : 0 < now.length := List.length_pos_iff.2 hnow.1
              have HFIN := Lib.hid (show ∀ w9, now.length ≤ O.length + 1 → RdPost w8 B B (.slice oa O.length oc) (.slice ra5 Pn rc5) (O ++ now) (psN O ps lf ln m) O.length now.length w9 → ∃ ov', DecI w1 rb B s.data.toList many m (256 + P) RES (moreZ l last now (256 + Pn)) now (O ++ now) (psN O ps lf ln m) O.length now.length t' ov' (.slice ra5 Pn rc5) w9 from fun w9 hnn hp => by
                have hbl := RdPost.below HJ8.out.rd hp HJ8.out.base
                obtain ⟨ov', hrd, -, -⟩ := hp
                obtain ⟨g1, g2⟩ := reader_low HJ8.out.bits HJ8.out.far hbl
                exact ⟨ov', hrd, g1, g2, hstp, hown, HJ8.out.below.trans (hbl.mono hwB), by rw [HPn.out]; exact hPq, by rw [List.length_append]; have := HLO.out; omega, Nat.le_trans HJ8.out.base hbl.size⟩)
              have HMS := Lib.hid (show many - (O ++ now).length < gk by rw [hgk, List.length_append, HNN.out]; omega)
              clear hown hstp
              by_cases hx : X < 256
              · have hn1 := hnow.2.1 hx
                have HPO := Lib.hid (fun w9 (h : RdPost w8 B B (.slice oa O.length oc) (.slice ra5 Pn rc5) (O ++ [UInt8.ofNat X]) (psN O ps lf ln m) O.length 1 w9) => HFIN.out w9 (by rw [hn1]; simp) (by rw [hn1]; exact h))
                clear hnow hn1
                go_wp2_with fail
                refine (cNextByte w8 B B _ _ lf ln O _ X HJ8.out.rd hx HOS.out HJ8.out.base).mono ?_; rintro e w9 ⟨rfl, hp9⟩
                obtain ⟨ov9, hd9⟩ := HPO.out w9 hp9
                have HD9 := Lib.hid hd9
                clear hp9 hd9
                go_wp2_with fail
                go_roundg (many - (O ++ now).length)
                case rel => exact ⟨_, _, _, _, _, _, _, _, _, rfl, HD9⟩
                case measure => exact HMS.out
              · obtain ⟨⟨f, k⟩, hp⟩ : ∃ p, (psN O ps lf ln m)[X - 256]? = some p := ⟨_, List.getElem?_eq_getElem (by rw [HPn.out]; omega)⟩
                obtain ⟨g1, g2, g3, g4⟩ := hnow.2.2 f k hp (by omega)
                have HPO := Lib.hid (fun w9 (h : RdPost w8 B B (.slice oa O.length oc) (.slice ra5 Pn rc5) (copyZ f O k) (psN O ps lf ln m) O.length k w9) => HFIN.out w9 (by omega) (by rw [g4, ← g1]; exact h))
                have HPI := Lib.hid hp
                clear hnow hp g1 g4
                go_wp2_with fail
                refine (cNextRow w8 B B _ _ lf ln O _ X f k HJ8.out.rd (by omega) (by omega) HPI.out g2 g3 HOS.out HJ8.out.base).mono ?_; rintro e w9 ⟨rfl, hp9⟩
                obtain ⟨ov9, hd9⟩ := HPO.out w9 hp9
                have HD9 := Lib.hid hd9
                clear hp9 hd9
                go_wp2_with fail
                go_roundg (many - (O ++ now).length)
                case rel => exact ⟨_, _, _, _, _, _, _, _, _, rfl, HD9⟩
                case measure => exact HMS.out
          · have hres := Lib.hid (HOE.out.err HLO.out HROWS.out HSS.out (by decide))
            go_wp2_with fail
            go_ret2
            exact ⟨by rw [hres.out]; rfl, HJ8.out.below⟩
        · have hp1 : ¬ (0 : Int) < (N : Int) := by omega
          go_wp2_with fail
          go_quiet (fail)
          rename_i nq
          obtain ⟨W5, hW5⟩ : ∃ W5, wr.drewN nq = W5 := ⟨_, rfl⟩
          rw [hW5]
          have HDQ := HDN.out nq
          rw [hW5] at HDQ
          obtain ⟨ra5, hra5⟩ : ∃ ra5, ra = ra5 := ⟨_, rfl⟩
          obtain ⟨rc5, hrc5⟩ : ∃ rc5, rc = rc5 := ⟨_, rfl⟩
          rw [HPP.out, hra5, hrc5, hPn] at HDQ
          have HJ := Lib.hid (show DecJ w1 rb B s.data.toList O (psN O ps lf ln m) lf ln t (.slice oa O.length oc) (.slice ra5 Pn rc5) W5 by
            rw [HPS.out]
            exact ⟨HDQ.rd, HDQ.bits, HDQ.far, HDQ.below, HDQ.base⟩)
          clear hW5 hra5 hrc5 HDQ c0 c1 c2 c3 f1 hBl hPn
          have k1 := cell_lit HJ.out.rd.block 1 (.slice ra5 Pn rc5) rfl
          obtain ⟨K, hK⟩ : ∃ K, widN (256 + Pn) = K := ⟨_, rfl⟩
          have hwf := widN_facts (rows := 256 + Pn) (by omega) (by omega)
          have HCW := Lib.hid (fun W => cWidth (256 + Pn) (by omega) (by omega) W)
          have hcast : ((256 + Pn : Nat) : Int) = 256 + (Pn : Int) := by omega
          rw [hK] at hwf HCW
          rw [hcast] at HCW
          have hK16 := hwf.2.1
          obtain ⟨t', X, E, hS⟩ : ∃ t' X E, takeS (spread s.data.toList) t (K : Nat) = (t', X, E) := ⟨_, _, _, rfl⟩
          have HTK := Lib.hid (fun W hW => rTakeF W rb t K s.data.toList (by omega) hW t' X E hS)
          have HROWS := Lib.hid (show rowsZ l last m = 256 + Pn by rw [hrows, HPn.out])
          have HSS := Lib.hid (show takeS (spread s.data.toList) t (widN (256 + Pn) : Nat) = (t', X, E) by rw [hK]; exact hS)
          obtain ⟨hXK, hE⟩ := take_bound (by omega) hS
          have hX16 : X < 65536 := Nat.lt_of_lt_of_le hXK (Nat.le_trans (Nat.pow_le_pow_right (by decide) hK16) (by decide))
          have hlO : O.length < many := by rw [HNN.out]; exact hlt
          have HLO := Lib.hid hlO
          have HOS := Lib.hid (show O.length ≤ 100000000 by rw [HNN.out]; omega)
          have hXi : IntKind.i64.wrap (X : Int) = (X : Int) := by rw [IntKind.wrap_i64]; omega
          clear hwf hK hcast hS hXK hlO hrows
          go_wp2_with fail
          refine (HCW.out _).mono ?_; rintro e w7 ⟨rfl, rfl⟩
          go_wp2_with fail
          refine (HTK.out w7 HJ.out.bits).mono ?_; rintro e w8 ⟨rfl, hr8, hk8, hF8⟩
          have HJ8 := Lib.hid (HJ.out.took hr8 hk8 hF8 hqB)
          clear hr8 hk8 hF8 k1
          rcases hE with rfl | rfl
          · by_cases hXr : 256 + Pn ≤ X
            · have hres := Lib.hid (HOE.out.form HLO.out HROWS.out HSS.out hXr)
              go_wp2_with fail
              refine (cNextNo w8 B B _ _ lf ln O _ X HJ8.out.rd (by omega) (by omega) (by rw [HPn.out]; omega) HOS.out).mono ?_; rintro e w9 ⟨rfl, rfl⟩
              go_wp2_with fail
              go_ret2
              exact ⟨by rw [hres.out]; rfl, HJ8.out.below⟩
            · have hnow := HSP.out.now m X (by rw [HPn.out]; omega)
              obtain ⟨now, hnw⟩ : ∃ now, nowZ l last X = now := ⟨_, rfl⟩
              have hown := HOE.out.next HLO.out HROWS.out HSS.out (by omega) hnow.1
              have hstp := HSP.out.step m (nowZ l last X) hnow.1
              rw [HROWS.out] at hstp
              rw [hnw] at hnow hown hstp
              have hnl : 0 < now.length := List.length_pos_iff.2 hnow.1
              have HFIN := Lib.hid (show ∀ w9, now.length ≤ O.length + 1 → RdPost w8 B B (.slice oa O.length oc) (.slice ra5 Pn rc5) (O ++ now) (psN O ps lf ln m) O.length now.length w9 → ∃ ov', DecI w1 rb B s.data.toList many m q RES (moreZ l last now (256 + Pn)) now (O ++ now) (psN O ps lf ln m) O.length now.length t' ov' (.slice ra5 Pn rc5) w9 from fun w9 hnn hp => by
                have hbl := RdPost.below HJ8.out.rd hp HJ8.out.base
                obtain ⟨ov', hrd, -, -⟩ := hp
                obtain ⟨g1, g2⟩ := reader_low HJ8.out.bits HJ8.out.far hbl
                exact ⟨ov', hrd, g1, g2, hstp, hown, HJ8.out.below.trans (hbl.mono hwB), by rw [HPn.out]; exact hPq, by rw [List.length_append]; have := HLO.out; omega, Nat.le_trans HJ8.out.base hbl.size⟩)
              have HMS := Lib.hid (show many - (O ++ now).length < gk by rw [hgk, List.length_append, HNN.out]; omega)
              clear hown hstp
              by_cases hx : X < 256
              · have hn1 := hnow.2.1 hx
                have HPO := Lib.hid (fun w9 (h : RdPost w8 B B (.slice oa O.length oc) (.slice ra5 Pn rc5) (O ++ [UInt8.ofNat X]) (psN O ps lf ln m) O.length 1 w9) => HFIN.out w9 (by rw [hn1]; simp) (by rw [hn1]; exact h))
                clear hnow hn1
                go_wp2_with fail
                refine (cNextByte w8 B B _ _ lf ln O _ X HJ8.out.rd hx HOS.out HJ8.out.base).mono ?_; rintro e w9 ⟨rfl, hp9⟩
                obtain ⟨ov9, hd9⟩ := HPO.out w9 hp9
                have HD9 := Lib.hid hd9
                clear hp9 hd9
                go_wp2_with fail
                go_roundg (many - (O ++ now).length)
                case rel => exact ⟨_, _, _, _, _, _, _, _, _, rfl, HD9⟩
                case measure => exact HMS.out
              · obtain ⟨⟨f, k⟩, hp⟩ : ∃ p, (psN O ps lf ln m)[X - 256]? = some p := ⟨_, List.getElem?_eq_getElem (by rw [HPn.out]; omega)⟩
                obtain ⟨g1, g2, g3, g4⟩ := hnow.2.2 f k hp (by omega)
                have HPO := Lib.hid (fun w9 (h : RdPost w8 B B (.slice oa O.length oc) (.slice ra5 Pn rc5) (copyZ f O k) (psN O ps lf ln m) O.length k w9) => HFIN.out w9 (by omega) (by rw [g4, ← g1]; exact h))
                have HPI := Lib.hid hp
                clear hnow hp g1 g4
                go_wp2_with fail
                refine (cNextRow w8 B B _ _ lf ln O _ X f k HJ8.out.rd (by omega) (by omega) HPI.out g2 g3 HOS.out HJ8.out.base).mono ?_; rintro e w9 ⟨rfl, hp9⟩
                obtain ⟨ov9, hd9⟩ := HPO.out w9 hp9
                have HD9 := Lib.hid hd9
                clear hp9 hd9
                go_wp2_with fail
                go_roundg (many - (O ++ now).length)
                case rel => exact ⟨_, _, _, _, _, _, _, _, _, rfl, HD9⟩
                case measure => exact HMS.out
          · have hres := Lib.hid (HOE.out.err HLO.out HROWS.out HSS.out (by decide))
            go_wp2_with fail
            go_ret2
            exact ⟨by rw [hres.out]; rfl, HJ8.out.below⟩
    · have hlti : ¬ (N : Int) < (many : Int) := by omega
      have CLF := Lib.hid (rLeft wr rb t s.data.toList hd.out.bits)
      obtain ⟨left, hleft⟩ : ∃ left, 8 * s.data.toList.length - t = left := ⟨_, rfl⟩
      rw [hleft] at CLF
      by_cases hov : many < N
      · have hovi : (many : Int) < (N : Int) := by omega
        have hres := Lib.hid (hd.out.owes.over (by rw [HNN.out]; exact hov))
        have HB := Lib.hid hd.out.below
        clear hd hleft
        go_wp2_with fail
        refine CLF.out.mono ?_; rintro e w8 ⟨rfl, nq, rfl⟩
        have HB8 := Lib.hid (below_dn HB.out nq)
        go_wp2_with fail
        go_ret2
        exact ⟨by rw [hres.out]; rfl, HB8.out⟩
      · obtain rfl : many = N := by omega
        have hovi : ¬ (many : Int) < (many : Int) := by omega
        have hres := hd.out.owes.done HNN.out
        have hlen : ((spread s.data.toList).drop t).length = left := by rw [List.length_drop, spread_length]; exact hleft
        have hok := okZ_peek ((spread s.data.toList).drop t)
        rw [hlen] at hok
        obtain ⟨Z, hZ⟩ : ∃ Z, peek ((spread s.data.toList).drop t) left = Z := ⟨_, rfl⟩
        rw [hZ] at hok
        have HOK := Lib.hid hok
        have CPK := Lib.hid (fun W hW => rPeekU W rb t s.data.toList (left : Int) hW (if left ≤ 56 then Z else 0) (by
          unfold peekS
          by_cases h56 : left ≤ 56
          · rw [if_neg (by omega), if_pos h56, Int.toNat_natCast]; exact hZ
          · rw [if_pos (by omega), if_neg h56]))
        have HRE := Lib.hid hres
        have HDN := Lib.hid (fun nq => hd.out.drewN nq)
        clear hlen hok hZ hleft hd hres
        by_cases hl8 : left < 8
        · have h56 : left ≤ 56 := by omega
          rw [if_pos h56] at CPK
          have hl8' : decide ((8 : Int) ≤ (left : Int)) = false := by simp; omega
          by_cases hz : Z = 0
          · have hr2 := HRE.out
            rw [if_pos (HOK.out.2 ⟨hl8, hz⟩)] at hr2
            have HRES := Lib.hid hr2
            subst hz
            clear hl8 h56 hr2
            go_wp2_with fail
            refine CLF.out.mono ?_; rintro e w8 ⟨rfl, nq, hw8⟩
            have HD8 := Lib.hid (HDN.out nq)
            rw [← hw8] at HD8
            clear hw8
            have c8 := cell_lit HD8.out.rd.block 0 (.slice oa O.length oc) rfl
            rw [HNN.out] at c8
            go_wp2_with fail
            refine (CPK.out _ HD8.out.bits).mono ?_; rintro e w9 ⟨rfl, hb9⟩
            have hrd9 := HD8.out.rd.below hb9
            have hc9 := cell_lit hrd9.block 0 (.slice oa O.length oc) rfl
            rw [HNN.out] at hc9
            have hcv := conv_outU hrd9.out
            rw [HNN.out] at hcv
            have HB9 := Lib.hid (HD8.out.below.trans (hb9.mono HD8.out.below.size))
            clear hb9 hrd9 c0 c1 c2 c3 f1
            go_wp2_with fail
            go_ret2
            exact ⟨by rw [HRES.out]; rfl, HB9.out⟩
          · have hr2 := HRE.out
            rw [if_neg (fun h => hz (HOK.out.1 h).2)] at hr2
            have HRES := Lib.hid hr2
            have hzb : ((Z : Int) != 0) = true := by rw [bne_iff_ne]; omega
            clear hl8 h56 hr2 hz
            go_wp2_with fail
            refine CLF.out.mono ?_; rintro e w8 ⟨rfl, nq, hw8⟩
            have HD8 := Lib.hid (HDN.out nq)
            rw [← hw8] at HD8
            clear hw8
            have c8 := cell_lit HD8.out.rd.block 0 (.slice oa O.length oc) rfl
            rw [HNN.out] at c8
            go_wp2_with fail
            refine (CPK.out _ HD8.out.bits).mono ?_; rintro e w9 ⟨rfl, hb9⟩
            have HB9 := Lib.hid (HD8.out.below.trans (hb9.mono HD8.out.below.size))
            clear hb9
            go_wp2_with fail
            go_ret2
            exact ⟨by rw [HRES.out]; rfl, HB9.out⟩
        · have hr2 := HRE.out
          rw [if_neg (fun h => hl8 (HOK.out.1 h).1)] at hr2
          have HRES := Lib.hid hr2
          have hl8' : decide ((8 : Int) ≤ (left : Int)) = true := by simp; omega
          clear CPK hr2
          go_wp2_with fail
          refine CLF.out.mono ?_; rintro e w8 ⟨rfl, nq, hw8⟩
          have HD8 := Lib.hid (HDN.out nq)
          rw [← hw8] at HD8
          clear hw8
          have c8 := cell_lit HD8.out.rd.block 0 (.slice oa O.length oc) rfl
          rw [HNN.out] at c8
          go_wp2_with fail
          go_ret2
          exact ⟨by rw [HRES.out]; rfl, HD8.out.below⟩
end Go.Proofs.Ytplopddlpoffoaa
