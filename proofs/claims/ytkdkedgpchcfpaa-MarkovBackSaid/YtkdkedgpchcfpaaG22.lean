/- Layer 46: the document's numbers out of bytes. -/
import Derived.Test.YtkdkedgpchcfpaaG18
import Derived.Deep.RegionWith
import Derived.Deep.CutRange
import Derived.RegionCalls
namespace Go.Proofs.Ytkdkedgpchcfpaa
open Go.ChangeShapes Go.WideShapes Go.ChangeAt Go.RowKit
set_option linter.unusedVariables false
set_option maxRecDepth 100000
open Range
theorem stepsT_dlen (s : TS) : ∀ j, (stepsT s j).d.s.length ≤ s.d.s.length
  | 0 => Nat.le_refl _
  | j + 1 => Nat.le_trans (stepD_len _ _) (stepsT_dlen s j)
theorem stD_dlen (n : Nat) (s : TS) : ∀ k, (stD n s k).d.s.length ≤ s.d.s.length
  | 0 => Nat.le_refl _
  | k + 1 => by
    show (numD 0 n (stD n s k)).d.s.length ≤ _
    rw [numD_eq]
    exact Nat.le_trans (stepsT_dlen _ _) (stD_dlen n s k)
theorem row_same {w w' : World} {B gc n c : Nat} {l : List Int} (h : OwnI B w (.slice (some ⟨gc, 0, none⟩) n c) l) (e : w'.heap[gc]? = w.heap[gc]?) : OwnI B w' (.slice (some ⟨gc, 0, none⟩) n c) l := by
  refine ⟨h.1, ?_⟩
  rcases h.2 with hn | ⟨g, cap, cur, e1, hbb, hgg, rest⟩
  · exact .inl hn
  · have : gc = g := by injection e1 with e1 _ _; injection e1 with e1; injection e1
    subst this
    exact .inr ⟨gc, cap, cur, e1, hbb, e.trans hgg, rest⟩
theorem wrap_row (r j : Nat) (hj : j ≤ 9) (h : r < 2 ^ (j + 1)) : wrap64 ((r : Int) - wrap64 ((2 : Int) ^ j)) = (r : Int) - ((2 ^ j : Nat) : Int) := by
  have e1 : (2 : Int) ^ j = ((2 ^ j : Nat) : Int) := by simp
  have hp : 2 ^ j ≤ 2 ^ 9 := Nat.pow_le_pow_right (by decide) hj
  have e2 : 2 ^ (j + 1) = 2 ^ j * 2 := Nat.pow_succ ..
  rw [e1]
  rw [e2] at h
  generalize 2 ^ j = p at *
  have e3 : wrap64 (p : Int) = p := by unfold wrap64; omega
  rw [e3]
  unfold wrap64
  omega
set_option maxHeartbeats 1600000 in
theorem bDecodeD (s : List UInt8) (hs : s.length ≤ 1000000) (many n : Nat) (hn1 : 1 ≤ n) (hn : n ≤ 9) (hm : many ≤ 1048576) (w : World) :
    Calls Try.prog 28 #[.string (sB s), .int .i64 many, .int .i64 n] w fun e w' => ∃ v, e = .returned (.tuple #[v, .int .i64 0]) ∧ OwnI w.heap.size w' v (outD n (t0 s (2 ^ n)) many) ∧ Below w.heap.size w w' := by
  have hN9 : 2 ^ n ≤ 512 := Nat.pow_le_pow_right (n := 2) (by decide) hn
  have hN0 : 0 < 2 ^ n := Nat.pow_pos (by decide)
  have C1 := Lib.hid (fun W => dFresh n (by omega) W)
  have C2 := Lib.hid (fun W => dNew s hs W)
  have hfl := fresh_len s
  have HM := Lib.hid (midT_st (midT0 s n))
  have HDL := Lib.hid (stD_dlen n (t0 s (2 ^ n)))
  have HT0d := Lib.hid (show (t0 s (2 ^ n)).d = fresh s from rfl)
  have HT0c := Lib.hid (show (t0 s (2 ^ n)).ch = List.replicate (2 ^ n) 1024 from rfl)
  have HPW := Lib.hid (show wrap64 ((2 : Int) ^ n) = ((2 ^ n : Nat) : Int) by
    have e1 : (2 : Int) ^ n = ((2 ^ n : Nat) : Int) := by simp
    rw [e1]; unfold wrap64; generalize 2 ^ n = q at *; omega)
  obtain ⟨T0, hT0⟩ : ∃ T0, t0 s (2 ^ n) = T0 := ⟨_, rfl⟩
  rw [hT0] at HM HT0d HT0c HDL ⊢
  clear hT0
  have hq1 : decide ((n : Int) < 1) = false := by simp; omega
  have hq2 : decide ((9 : Int) < (n : Int)) = false := by simp; omega
  have hq3 : decide ((many : Int) < 0) = false := by simp
  have hq4 : decide ((1048576 : Int) < (many : Int)) = false := by simp; omega
  go_enter Try.func28, Try.ntmps28
  go_wp2_with fail
  clear hq1 hq2 hq3 hq4
  refine (C1.out _).mono ?_; rintro e w1 ⟨v1, rfl, hown1, hb1⟩
  obtain ⟨gc, cap, rfl, hgc, hgc2⟩ := hown1.form (by simp; omega) (by decide)
  rw [List.length_replicate] at hown1 ⊢
  have HO1 := Lib.hid hown1
  have HB1 := Lib.hid hb1
  clear hown1 hb1 C1
  go_wp2_with fail
  refine (C2.out _).mono ?_; rintro e w2 ⟨rfl, hb2⟩
  have hz2 := hb2.size
  have HO2 := Lib.hid (HO1.out.kept hb2)
  have HB2 := Lib.hid (HB1.out.trans (hb2.mono HB1.out.size))
  have hzz := HB1.out.size
  clear hb2 C2 HO1 HB1
  go_wp2_with fail
  obtain ⟨g, hg⟩ : ∃ g, w2.heap.size = g := ⟨_, rfl⟩
  obtain ⟨W, hW⟩ : ∃ W, w2.alloc (.cells #[.int .u64 (fresh s).a, .int .u64 (fresh s).b, .int .u64 (fresh s).x, .string (sB (fresh s).s)] 40) = W := ⟨_, rfl⟩
  have HR := Lib.hid (show IsR W g T0.d by rw [HT0d.out, ← hW, ← hg]; exact heap_alloc_new _ _)
  have HB := Lib.hid (show Below w.heap.size w W by rw [← hW]; exact HB2.out.alloc (by omega) _)
  have HO := Lib.hid (show OwnI w.heap.size W (.slice (some ⟨gc, 0, none⟩) (2 ^ n) cap) T0.ch by rw [HT0c.out, ← hW]; exact HO2.out.alloc _)
  have hgl : w.heap.size ≤ g := by omega
  have hgcg : gc < g := by omega
  have hgW : g + 1 ≤ W.heap.size := by rw [← hW]; simp; omega
  rw [hg, hW]
  obtain ⟨N, hN⟩ : ∃ N, 2 ^ n = N := ⟨_, rfl⟩
  rw [hN] at HO HPW hN9 ⊢
  have HN := Lib.hid hN
  clear hW hg HB2 HO2 hz2 hzz hN hN0 hgc2
  go_loopw [10, 11] (fun u i wr => ∃ k : Nat, k ≤ many ∧ i = .int .i64 k ∧ IsR wr g (stD n T0 k).d ∧ OwnI w.heap.size wr (.slice (some ⟨gc, 0, none⟩) N cap) (stD n T0 k).ch ∧ OwnI (g + 1) wr u (outD n T0 k) ∧ Below w.heap.size w wr ∧ g + 1 ≤ wr.heap.size) (fun _ i _ => many - (intOf i).toNat)
  case atStart => exact ⟨0, Nat.zero_le _, rfl, HR.out, HO.out, OwnS.nil, HB.out, hgW⟩
  case round =>
    obtain ⟨k, hk, rfl, hr, hch, hown, hb, hgs⟩ := hrel
    obtain ⟨wo, hwo⟩ : ∃ wo : World, wo = wr := ⟨_, rfl⟩
    subst hwo
    by_cases hlt : k < many
    · have HS := Lib.hid (outD_succ n T0 k)
      have HE := Lib.hid (show stD n T0 (k + 1) = stepsT ⟨(stD n T0 k).d, (stD n T0 k).ch, 1⟩ n from numD_eq n _)
      have hfi := fineT_steps (HM.out k).fine
      have hol : (outD n T0 k).length = k := outD_len n T0 k
      have hdl := HDL.out k
      rw [HT0d.out] at hdl
      have hdj := stepsT_dlen ⟨(stD n T0 k).d, (stD n T0 k).ch, 1⟩
      obtain ⟨OL, hOL⟩ : ∃ OL, outD n T0 k = OL := ⟨_, rfl⟩
      rw [hOL] at hown HS hol
      obtain ⟨S0, hS0⟩ : ∃ S0 : TS, S0 = ⟨(stD n T0 k).d, (stD n T0 k).ch, 1⟩ := ⟨_, rfl⟩
      rw [← hS0] at HE hfi hdj
      have HR1 := Lib.hid (show IsR wo g S0.d by rw [hS0]; exact hr)
      have HC1 := Lib.hid (show OwnI w.heap.size wo (.slice (some ⟨gc, 0, none⟩) N cap) S0.ch by rw [hS0]; exact hch)
      have hd0 : S0.d.s.length ≤ 1000000 := by rw [hS0]; show (stD n T0 k).d.s.length ≤ _; omega
      have hr0 : S0.r = 1 := by rw [hS0]
      have HF := Lib.hid hfi
      have HDJ := Lib.hid hdj
      have HO1 := Lib.hid hown
      have HB1 := Lib.hid hb
      have HOL := Lib.hid (show OL.length ≤ 1099511627776 by omega)
      have HR0 := Lib.hid hr0
      have HD0 := Lib.hid hd0
      clear hr hch hown hb hfi hdl hdj hOL hS0 hd0 hr0 hol
      have hdec : decide ((k : Int) < (many : Int)) = true := by simp; omega
      go_wp2_with fail
      go_loopw [12, 13] (fun a i wr => ∃ j : Nat, j ≤ n ∧ i = .int .i64 j ∧ a = .int .i64 ((stepsT S0 j).r : Nat) ∧ IsR wr g (stepsT S0 j).d ∧ OwnI w.heap.size wr (.slice (some ⟨gc, 0, none⟩) N cap) (stepsT S0 j).ch ∧ OwnI (g + 1) wr u10 OL ∧ Below w.heap.size w wr ∧ g + 1 ≤ wr.heap.size) (fun _ i _ => n - (intOf i).toNat)
      case atStart => exact ⟨0, Nat.zero_le _, rfl, by show _ = Value.int .i64 ((S0.r : Nat) : Int); rw [HR0.out]; rfl, HR1.out, HC1.out, HO1.out, HB1.out, hgs⟩
      case round =>
        obtain ⟨j, hj, rfl, rfl, hr, hch, hown, hb, hgs⟩ := hrel
        clear hdec
        by_cases hlt2 : j < n
        · obtain ⟨hrr, Z, hZ, hz1, hz2⟩ := fineT_at (HF.out j hj) hlt2
          have hfd := (HF.out j hj).1
          have hTl : (stepsT S0 j).ch.length = N := (HF.out j hj).2.1.trans HN.out
          have hdl := Nat.le_trans (HDJ.out j) HD0.out
          have HST := Lib.hid (show stepsT S0 (j + 1) = stepT (stepsT S0 j) from rfl)
          obtain ⟨T, hT⟩ : ∃ T, stepsT S0 j = T := ⟨_, rfl⟩
          rw [hT] at hr hch hrr hZ hfd hTl hdl HST ⊢
          have hrN : T.r < N := by omega
          have hrN5 : T.r ≤ 512 := by omega
          have cr := OwnS.int_cell hch T.r hrr
          rw [hZ] at cr
          have CB := Lib.hid (fun W => dBitT T.d (Z : Int) hfd hdl W)
          rw [show errD (Z : Int) = 0 by unfold errD; rw [okB_of (z := (Z : Int)) ⟨by omega, by omega⟩]; rfl] at CB
          obtain ⟨BT, hBT⟩ : ∃ BT, bitD T.d (Z : Int) = BT := ⟨_, rfl⟩
          obtain ⟨DN, hDN⟩ : ∃ DN, stepD T.d (Z : Int) = DN := ⟨_, rfl⟩
          rw [hBT, hDN] at CB
          have HST2 := Lib.hid (show stepT T = ⟨DN, T.ch.set T.r (updB Z BT : Nat), 2 * T.r + if BT then 1 else 0⟩ by unfold stepT; rw [hZ, hBT, hDN]; rfl)
          have CU := Lib.hid (fun W => dUpdate Z ⟨hz1, hz2⟩ BT W)
          obtain ⟨lg, c0, c1, c2, c3, f0, f1, f2, f3⟩ := hr.cells
          have hgcw : gc < wr.heap.size := by omega
          have HR1 := Lib.hid hr
          have HC1 := Lib.hid hch
          have HW1 := Lib.hid hown
          have HB1 := Lib.hid hb
          have HRR := Lib.hid hrr
          clear hr hch hown hb hZ hT hBT hDN hfd hTl hdl hrr
          go_wp2_with fail
          obtain ⟨SZ, hSZ⟩ : ∃ SZ, wr.heap.size = SZ := ⟨_, rfl⟩
          have HSZ := Lib.hid hSZ
          clear hSZ
          go_cut [14, 15, 16] from 47 to 75 (fun s14 s15 s16 wc => ∃ gb, s14 = .pointer (some ⟨gb, 0, none⟩) ∧ s15 = .bool BT ∧ s16 = .int .i64 0 ∧ Below SZ wr wc ∧ SZ ≤ gb ∧ IsR wc gb DN)
          case first =>
            go_region_with (go_at_call 23; refine (CB.out _).mono ?_; rintro e w2 ⟨rfl, hb2⟩; (first | (have ha2 := any_new hb2; obtain ⟨lga, ⟨a0, a1, a2, a3, b0, b1, b2, b3⟩, h0, h1, h2, h3⟩ := ha2.free; have HHB := Lib.hid (below_new hb2); clear hb2) | (have HHC := Lib.hid hb2; have hszc := hb2.size; clear hb2)))
            all_goals
              go_wp2_with fail
              go_meet
              case rel => first
                | exact ⟨_, rfl, rfl, rfl, by rw [← HSZ.out]; exact below_setR HHB.out (Nat.le_refl _) DN, Nat.le_of_eq HSZ.out.symm, ha2.set DN⟩
                | exact ⟨_, rfl, rfl, rfl, by rw [← HSZ.out]; exact (undrewB HHC.out).alloc (show wr.heap.size ≤ _ from hszc) _, by rw [← HSZ.out]; exact hszc, heap_alloc_new _ _⟩
          case rest =>
            obtain ⟨gb, rfl, rfl, rfl, hb3, hgb, hI⟩ := hcut
            have hsz3 : SZ ≤ wc.heap.size := by have := hb3.size; have := HSZ.out; omega
            have hgs2 : g + 1 ≤ SZ := by have := HSZ.out; omega
            have hrg : IsR wc g T.d := (hb3.block g (by omega)).trans HR1.out
            obtain ⟨la, a0, a1, a2, a3, b0, b1, b2, b3⟩ := hI.cells
            obtain ⟨lg', d0, d1, d2, d3, e0, e1, e2, e3⟩ := hrg.cells
            have hb3' : Below wr.heap.size wr wc := by have := HSZ.out; subst this; exact hb3
            have hc3 := HC1.out.kept hb3'
            have cr3 := OwnS.int_cell hc3 T.r HRR.out
            rw [show T.ch.getD T.r 0 = (Z : Int) by
              have := OwnS.int_cell HC1.out T.r HRR.out
              rw [cr] at this
              simpa using this.symm] at cr3
            have fr3 := hc3.free T.r
            have hne1 : gc ≠ g := by omega
            have hne2 : g ≠ gc := by omega
            have hRR := hrg.any.set DN
            have HR4 := Lib.hid (show IsR ((setR wc g DN).setCell ⟨gc, T.r, none⟩ (.int .i64 (updB Z BT : Nat))) g DN from (Below.heap_setCell _ _ _ _ hne2).trans hRR)
            have HC4 := Lib.hid (OwnS.set_int (row_same (w' := setR wc g DN) hc3 (by unfold setR; rw [Below.heap_setCell _ _ _ _ hne1, Below.heap_setCell _ _ _ _ hne1, Below.heap_setCell _ _ _ _ hne1, Below.heap_setCell _ _ _ _ hne1])) T.r (updB Z BT : Nat) HRR.out)
            have HB4 := Lib.hid ((below_setR (g := g) (HB1.out.trans (hb3'.mono HB1.out.size)) hgl DN).setCell (p := ⟨gc, T.r, none⟩) hgc (.int .i64 (updB Z BT : Nat)))
            have HW4 := Lib.hid ((((((HW1.out.kept hb3').setLow (p := ⟨g, 0, none⟩) (by simp) (.int .u64 DN.a)).setLow (p := ⟨g, 1, none⟩) (by simp) (.int .u64 DN.b)).setLow (p := ⟨g, 2, none⟩) (by simp) (.int .u64 DN.x)).setLow (p := ⟨g, 3, none⟩) (by simp) (.string (sB DN.s))).setLow (p := ⟨gc, T.r, none⟩) (by show gc < g + 1; omega) (.int .i64 (updB Z BT : Nat)))
            have HG4 := Lib.hid (show g + 1 ≤ ((setR wc g DN).setCell ⟨gc, T.r, none⟩ (.int .i64 (updB Z BT : Nat))).heap.size by rw [show ((setR wc g DN).setCell ⟨gc, T.r, none⟩ (.int .i64 (updB Z BT : Nat))).heap.size = (setR wc g DN).heap.size by simp, setR_size]; omega)
            have HSS := Lib.hid (HST.out.trans HST2.out)
            clear hb3 hb3' hI hrg c0 c1 c2 c3 f0 f1 f2 f3 cr hc3 hRR hgcw lg
            go_wp2_with fail
            refine (CU.out _).mono ?_; rintro e w6 ⟨rfl, rfl⟩
            cases BT with
            | true =>
              go_wp2_with fail
              go_roundw
              case rel => exact ⟨j + 1, by omega, by go_num, by rw [HSS.out]; go_num, by rw [HSS.out]; exact HR4.out, by rw [HSS.out]; exact HC4.out, HW4.out, HB4.out, HG4.out⟩
              case measure => simp [intOf]; omega
            | false =>
              go_wp2_with fail
              go_roundw
              case rel => exact ⟨j + 1, by omega, by go_num, by rw [HSS.out]; go_num, by rw [HSS.out]; exact HR4.out, by rw [HSS.out]; exact HC4.out, HW4.out, HB4.out, HG4.out⟩
              case measure => simp [intOf]; omega
        · obtain rfl : j = n := by omega
          have hf5 := (HF.out j hj).2.2.2
          have HX := Lib.hid (wrap_row (stepsT S0 j).r j (by omega) hf5.2)
          have HR2 := Lib.hid hr; have HC2 := Lib.hid hch; have HW2 := Lib.hid hown; have HB2 := Lib.hid hb; have HG2 := Lib.hid hgs
          clear hr hch hown hb hf5 hgs HPW
          go_wp2_with (at_builtin; refine app_int rfl _ _ rfl _ _ _ _ _ rfl HW2.out _ 1 rfl rfl HOL.out HG2.out ?_; intro v2 w2 hown2 hb2 hg2)
          rw [HX.out, ← HE.out, ← HS.out] at hown2
          have hr3 : IsR w2 g (stD j T0 (k + 1)).d := by rw [HE.out]; exact (hb2.block g (by omega)).trans HR2.out
          have hc3 : OwnI w.heap.size w2 (.slice (some ⟨gc, 0, none⟩) N cap) (stD j T0 (k + 1)).ch := by rw [HE.out]; exact row_same HC2.out (hb2.block gc (by omega))
          have hb3 := HB2.out.trans (hb2.mono (by omega))
          have hg3 : g + 1 ≤ w2.heap.size := Nat.le_trans HG2.out hb2.size
          have HO3 := Lib.hid hown2; have HR3 := Lib.hid hr3; have HC3 := Lib.hid hc3; have HB3 := Lib.hid hb3
          clear hown2 hr3 hc3 hb2 hg2 hb3 HX
          go_wp2_with fail
          go_roundw
          case rel => exact ⟨k + 1, by omega, by go_num, HR3.out, HC3.out, HO3.out, HB3.out, hg3⟩
          case measure => simp [intOf]; omega
    · obtain rfl : k = many := by omega
      have HO1 := Lib.hid hown
      have HB1 := Lib.hid hb
      clear hr hch hown hb
      go_wp2_with fail
      go_ret2
      exact ⟨_, rfl, HO1.out.base (by omega), HB1.out⟩
end Go.Proofs.Ytkdkedgpchcfpaa
