/- Layer 61: the document's fresh rows; the document's bytes out of bytes. -/
import Derived.Test.YtkdkedgpchcfpaaV5
import Derived.Test.YtkdkedgpchcfpaaG22
import Derived.Deep.DrawnRows
namespace Go.Proofs.Ytkdkedgpchcfpaa
open Go.ChangeShapes Go.WideShapes Go.ChangeAt Go.RowKit
set_option linter.unusedVariables false
set_option linter.unusedSimpArgs false
set_option maxRecDepth 100000
attribute [local go_sem ↓] Go.wp_at_zero Go.wp_at_succ
open Range
set_option maxHeartbeats 1600000 in
theorem dFresh61 (N : Nat) (hN : N = 65536) (w : World) : Calls Try.prog 82 #[] w fun e w' => ∃ v, e = .returned v ∧ OwnI w.heap.size w' v (List.replicate N 1024) ∧ Below w.heap.size w w' := by
  have HW := Lib.hid (show (65536 : Int) = (N : Int) by omega)
  have hNb : N ≤ 65536 := by omega
  have HNN := Lib.hid hN
  clear hN
  go_enter Try.func82, Try.ntmps82
  go_wp2_with (refine make_int rfl _ _ rfl .i64 .i64 _ _ N rfl rfl HW.out HW.out (by omega) ?_; intro w3 hown3 hb3 hz3)
  have HO := Lib.hid hown3; have HB := Lib.hid hb3
  clear hown3 hb3 HW
  go_wp2_with fail
  go_loopw [2] (fun i wr => ∃ k : Nat, k ≤ N ∧ i = .int .i64 k ∧ OwnI w.heap.size wr (.slice (some ⟨w.heap.size, 0, none⟩) N N) (List.replicate k 1024 ++ List.replicate (N - k) 0) ∧ Below w.heap.size w wr) (fun i _ => N - (intOf i).toNat)
  case atStart => exact ⟨0, Nat.zero_le _, rfl, by simpa using HO.out, HB.out⟩
  case round =>
    obtain ⟨k, hk, rfl, hown, hb⟩ := hrel
    by_cases hlt : k < N
    · have cx := OwnS.int_cell hown k (by rw [fill_len N k (by omega)]; exact hlt)
      have fx := hown.free k
      have hown2 := OwnS.set_int hown k 1024 (by rw [fill_len N k (by omega)]; exact hlt)
      rw [fill_set N k hlt] at hown2
      have hb2 := hb.setCell (p := ⟨w.heap.size, k, none⟩) (Nat.le_refl _) (.int .i64 1024)
      have hown2_ := Lib.hid hown2
      have hb2_ := Lib.hid hb2
      clear hown2 hb2
      clear hown hb
      go_wp2_with fail
      go_roundw
      case rel => exact ⟨k + 1, by omega, by go_num, hown2_.out, hb2_.out⟩
      case measure => simp [intOf]; omega
    · obtain rfl : k = N := by omega
      rw [Nat.sub_self, List.replicate_zero, List.append_nil] at hown
      have hown_ := Lib.hid hown
      have hb_ := Lib.hid hb
      clear hown hb
      go_wp2_with fail
      go_ret
      exact ⟨_, rfl, hown_.out, hb_.out⟩
theorem stepsTo_dlen (o : Nat) (s : TS) : ∀ j, (stepsTo o s j).d.s.length ≤ s.d.s.length
  | 0 => Nat.le_refl _
  | j + 1 => Nat.le_trans (stepD_len _ _) (stepsTo_dlen o s j)
theorem mDs_dlen (p : TS × Nat) : ∀ k, (mDs p k).1.d.s.length ≤ p.1.d.s.length
  | 0 => Nat.le_refl _
  | k + 1 => by
    show (numD (256 * (mDs p k).2) 8 (mDs p k).1).d.s.length ≤ _
    unfold numD
    exact Nat.le_trans (stepsTo_dlen _ _ _) (mDs_dlen p k)
def lenV : Value → Nat
  | .slice _ n _ => n
  | _ => 0
theorem app_u8 {X : World} {ops : Array Oper} {rest : List Oper} {o : Oper} {a : Act} {Q : Exit → Act → World → Prop} (hgd : o.guard = none) (s xo : Operand)
    (ho : o.op = .call { callee := .builtin .append, args := #[s, xo], argTypes := #[75, 75] })
    (B T : Nat) (v : Value) (l : List UInt8) (x : UInt8) (y : Int) (hy : y = x.toNat) (hs : a.eval s = v) (hown : OwnY B X v l) (g c1 : Nat) (hg : X.heap.size = g) (hx : a.eval xo = .slice (some ⟨g, 0, none⟩) 1 c1) (hl : l.length ≤ 1099511627776) (hB : B ≤ X.heap.size)
    (h : ∀ v' w', OwnY B w' v' (l ++ [x]) → Below B X w' → X.grownBy w' v.ownBlock → wpList Try.prog ops Q rest (a.put o.dst v') w') : wpList Try.prog ops Q (o :: rest) a (X.alloc (.cells #[.int .u8 y] T)) := by
  subst hy
  exact app_one (f := fY) info_u8 rfl (by decide) (by decide) Try.underlying75 flatY hgd s xo ho B T v l x hs hown g c1 hg hx hl hB h
set_option maxHeartbeats 6400000 in
theorem bDecodeM (N : Nat) (hN : N = 65536) (s : List UInt8) (hs : s.length ≤ 1000000) (many : Nat) (hm : many ≤ 1000000) (w : World) :
    Calls Try.prog 39 #[.string (sB s), .int .i64 many] w fun e w' => e = .returned (.tuple #[.string (sB (decM N s many)), .int .i64 0]) ∧ Below w.heap.size w w' := by
  show Calls Try.prog 39 #[.string (sB s), .int .i64 many] w fun e w' => e = .returned (.tuple #[.string (sB (outM (t0M s N) many)), .int .i64 0]) ∧ Below w.heap.size w w'
  have C1 := Lib.hid (fun W => dFresh61 N hN W)
  have C2 := Lib.hid (fun W => dNew s hs W)
  have hfl := fresh_len s
  have HM := Lib.hid (midD_s hN (midD0 s N))
  have HDL := Lib.hid (mDs_dlen (t0M s N))
  have HT0d := Lib.hid (show (t0M s N).1.d = fresh s from rfl)
  have HT0c := Lib.hid (show (t0M s N).1.ch = List.replicate N 1024 from rfl)
  have HT0l := Lib.hid (show (t0M s N).2 = 0 from rfl)
  obtain ⟨T0, hT0⟩ : ∃ T0, t0M s N = T0 := ⟨_, rfl⟩
  rw [hT0] at HM HT0d HT0c HT0l HDL ⊢
  have HNN := Lib.hid hN
  have hN0 : 256 ≤ N := by omega
  clear hT0 hN
  go_enter Try.func39, Try.ntmps39
  go_wp2_with fail
  refine (C1.out _).mono ?_; rintro e w1 ⟨v1, rfl, hown1, hb1⟩
  obtain ⟨gc, cap, rfl, hgc, hgc2⟩ := hown1.form (by simp; omega) (by decide)
  rw [List.length_replicate] at hown1 ⊢
  have HO1 := Lib.hid hown1
  have HB1 := Lib.hid hb1
  clear hown1 hb1 C1
  go_wp2_with fail
  refine (C2.out _).mono ?_; rintro e w2 ⟨rfl, hb2⟩
  have hz2 := hb2.size
  have HO2 := Lib.hid (HO1.out.kept hb2)
  have HB2 := Lib.hid (HB1.out.trans (hb2.mono HB1.out.size))
  have hzz := HB1.out.size
  clear hb2 C2 HO1 HB1
  go_wp2_with fail
  obtain ⟨g, hg⟩ : ∃ g, w2.heap.size = g := ⟨_, rfl⟩
  obtain ⟨W, hW⟩ : ∃ W, w2.alloc (.cells #[.int .u64 (fresh s).a, .int .u64 (fresh s).b, .int .u64 (fresh s).x, .string (sB (fresh s).s)] 40) = W := ⟨_, rfl⟩
  have HR := Lib.hid (show IsR W g T0.1.d by rw [HT0d.out, ← hW, ← hg]; exact heap_alloc_new _ _)
  have HB := Lib.hid (show Below w.heap.size w W by rw [← hW]; exact HB2.out.alloc (by omega) _)
  have HO := Lib.hid (show OwnI w.heap.size W (.slice (some ⟨gc, 0, none⟩) N cap) T0.1.ch by rw [HT0c.out, ← hW]; exact HO2.out.alloc _)
  have hgl : w.heap.size ≤ g := by omega
  have hgcg : gc < g := by omega
  have hgW : g + 1 ≤ W.heap.size := by rw [← hW]; simp; omega
  rw [hg, hW]
  clear hW hg HB2 HO2 hz2 hzz hgc2
  go_loopw [8, 9] (fun u la wr => ∃ (k : Nat) (ua : Option Addr) (ud : Nat), k ≤ many ∧ u = .slice ua k ud ∧ la = .int .i64 (mDs T0 k).2 ∧ IsR wr g (mDs T0 k).1.d ∧ OwnI w.heap.size wr (.slice (some ⟨gc, 0, none⟩) N cap) (mDs T0 k).1.ch ∧ OwnY (g + 1) wr u (outM T0 k) ∧ Below w.heap.size w wr ∧ g + 1 ≤ wr.heap.size) (fun u _ _ => many - lenV u)
  case atStart => exact ⟨0, none, 0, Nat.zero_le _, rfl, by show _ = Value.int .i64 ((T0.2 : Nat) : Int); rw [HT0l.out]; rfl, HR.out, HO.out, OwnS.nil, HB.out, hgW⟩
  case round =>
    obtain ⟨k, ua, ud, hk, rfl, rfl, hr, hch, hown, hb, hgs⟩ := hrel
    obtain ⟨wo, hwo⟩ : ∃ wo : World, wo = wr := ⟨_, rfl⟩
    subst hwo
    by_cases hlt : k < many
    · have HS := Lib.hid (outM_succ T0 k)
      have HE := Lib.hid (show mDs T0 (k + 1) = mD (mDs T0 k) from rfl)
      have hmid := HM.out k
      have hol : (outM T0 k).length = k := outM_len T0 k
      have hdl := HDL.out k
      rw [HT0d.out] at hdl
      obtain ⟨OL, hOL⟩ : ∃ OL, outM T0 k = OL := ⟨_, rfl⟩
      obtain ⟨P, hP⟩ : ∃ P, mDs T0 k = P := ⟨_, rfl⟩
      rw [hOL] at hown HS hol
      rw [hP] at hr hch HE hmid hdl ⊢
      have HE2 := Lib.hid (show mD P = (stepsTo (P.2 * 256) ⟨P.1.d, P.1.ch, 1⟩ 8, (stepsTo (P.2 * 256) ⟨P.1.d, P.1.ch, 1⟩ 8).r - 256) by rw [Nat.mul_comm]; rfl)
      have hLA := hmid.2.2.2
      have hfi := fineO_steps (o := P.2 * 256) (n := 8) hmid.fine (by have := HNN.out; omega)
      have hdj := stepsTo_dlen (P.2 * 256) ⟨P.1.d, P.1.ch, 1⟩
      obtain ⟨LA, hLAe⟩ : ∃ LA, P.2 = LA := ⟨_, rfl⟩
      rw [hLAe] at hfi hdj HE2 hLA ⊢
      obtain ⟨S0, hS0⟩ : ∃ S0 : TS, S0 = ⟨P.1.d, P.1.ch, 1⟩ := ⟨_, rfl⟩
      rw [← hS0] at HE2 hfi hdj
      have HR1 := Lib.hid (show IsR wo g S0.d by rw [hS0]; exact hr)
      have HC1 := Lib.hid (show OwnI w.heap.size wo (.slice (some ⟨gc, 0, none⟩) N cap) S0.ch by rw [hS0]; exact hch)
      have hd0 : S0.d.s.length ≤ 1000000 := by rw [hS0]; show P.1.d.s.length ≤ _; omega
      have hr0 : S0.r = 1 := by rw [hS0]
      have HF := Lib.hid hfi
      have HDJ := Lib.hid hdj
      have HO1 := Lib.hid hown
      have HB1 := Lib.hid hb
      have HOL := Lib.hid (show OL.length ≤ 1099511627776 by omega)
      have HOK := Lib.hid hol
      have HR0 := Lib.hid hr0
      have HD0 := Lib.hid hd0
      clear hr hch hown hb hfi hdl hdj hOL hS0 hd0 hr0 hol hP hLAe hmid
      go_wp2_with fail
      go_loopw [10] (fun a wr => ∃ j : Nat, j ≤ 8 ∧ a = .int .i64 ((stepsTo (LA * 256) S0 j).r : Nat) ∧ IsR wr g (stepsTo (LA * 256) S0 j).d ∧ OwnI w.heap.size wr (.slice (some ⟨gc, 0, none⟩) N cap) (stepsTo (LA * 256) S0 j).ch ∧ OwnY (g + 1) wr (.slice ua k ud) OL ∧ Below w.heap.size w wr ∧ g + 1 ≤ wr.heap.size) (fun a _ => 512 - (intOf a).toNat)
      case atStart => exact ⟨0, Nat.zero_le _, by show _ = Value.int .i64 ((S0.r : Nat) : Int); rw [HR0.out]; rfl, HR1.out, HC1.out, HO1.out, HB1.out, hgs⟩
      case round =>
        obtain ⟨j, hj, rfl, hr, hch, hown, hb, hgs⟩ := hrel
        by_cases hlt2 : j < 8
        · obtain ⟨hrr, Z, hZ, hz1, hz2⟩ := fineO_at (n := 8) (o := LA * 256) (HF.out j hj) hlt2 (by have := HNN.out; omega)
          have hfd := (HF.out j hj).1
          have hTl : (stepsTo (LA * 256) S0 j).ch.length = N := (HF.out j hj).2.1
          have hT1 : 1 ≤ (stepsTo (LA * 256) S0 j).r := Nat.le_trans (Nat.pow_pos (by decide)) (HF.out j hj).2.2.2.1
          have hT2 : (stepsTo (LA * 256) S0 j).r < 256 := by
            have h5 := (HF.out j hj).2.2.2.2
            have : 2 ^ (j + 1) ≤ 2 ^ 8 := Nat.pow_le_pow_right (by decide) (by omega)
            omega
          have hdl := Nat.le_trans (HDJ.out j) HD0.out
          have HST := Lib.hid (show stepsTo (LA * 256) S0 (j + 1) = stepTo (LA * 256) (stepsTo (LA * 256) S0 j) from rfl)
          obtain ⟨T, hT⟩ : ∃ T, stepsTo (LA * 256) S0 j = T := ⟨_, rfl⟩
          rw [hT] at hr hch hrr hZ hfd hTl hdl HST hT1 hT2 ⊢
          have hrN : LA * 256 + T.r < N := by omega
          have cr := OwnS.int_cell hch (LA * 256 + T.r) hrr
          rw [hZ] at cr
          have CB := Lib.hid (fun W => dBitT T.d (Z : Int) hfd hdl W)
          rw [show errD (Z : Int) = 0 by unfold errD; rw [okB_of (z := (Z : Int)) ⟨by omega, by omega⟩]; rfl] at CB
          obtain ⟨BT, hBT⟩ : ∃ BT, bitD T.d (Z : Int) = BT := ⟨_, rfl⟩
          obtain ⟨DN, hDN⟩ : ∃ DN, stepD T.d (Z : Int) = DN := ⟨_, rfl⟩
          rw [hBT, hDN] at CB
          have HST2 := Lib.hid (show stepTo (LA * 256) T = ⟨DN, T.ch.set (LA * 256 + T.r) (updB Z BT : Nat), 2 * T.r + if BT then 1 else 0⟩ by unfold stepTo; rw [hZ, hBT, hDN]; rfl)
          have CU := Lib.hid (fun W => dUpdate Z ⟨hz1, hz2⟩ BT W)
          obtain ⟨lg, c0, c1, c2, c3, f0, f1, f2, f3⟩ := hr.cells
          have hgcw : gc < wr.heap.size := by omega
          have HR1 := Lib.hid hr
          have HC1 := Lib.hid hch
          have HW1 := Lib.hid hown
          have HB1 := Lib.hid hb
          have HRR := Lib.hid hrr
          clear hr hch hown hb hZ hT hBT hDN hfd hTl hdl hrr
          go_wp2_with fail
          obtain ⟨SZ, hSZ⟩ : ∃ SZ, wr.heap.size = SZ := ⟨_, rfl⟩
          have HSZ := Lib.hid hSZ
          clear hSZ
          go_cut [11, 12, 13] from 30 to 68 (fun s14 s15 s16 wc => ∃ gb, s14 = .pointer (some ⟨gb, 0, none⟩) ∧ s15 = .bool BT ∧ s16 = .int .i64 0 ∧ Below SZ wr wc ∧ SZ ≤ gb ∧ IsR wc gb DN)
          case first =>
            have hi0 : (0 : Int) ≤ (LA : Int) * 256 + (T.r : Int) := by omega
            have hi1 : (LA : Int) * 256 + (T.r : Int) < (N : Int) := by omega
            have hw1 : IntKind.i64.wrap ((LA : Int) * 256) = (LA : Int) * 256 := by rw [IntKind.wrap_i64]; omega
            have hw2 : IntKind.i64.wrap ((LA : Int) * 256 + (T.r : Int)) = (LA : Int) * 256 + (T.r : Int) := by rw [IntKind.wrap_i64]; omega
            have ht : ((LA : Int) * 256 + (T.r : Int)).toNat = LA * 256 + T.r := by omega
            go_region_with (go_at_call 23; refine (CB.out _).mono ?_; rintro e w2 ⟨rfl, hb2⟩; (first | (have ha2 := any_new hb2; obtain ⟨lga, ⟨a0, a1, a2, a3, b0, b1, b2, b3⟩, h0, h1, h2, h3⟩ := ha2.free; have HHB := Lib.hid (below_new hb2); clear hb2) | (have HHC := Lib.hid hb2; have hszc := hb2.size; clear hb2)))
            all_goals
              go_wp2_with fail
              go_meet
              case rel => first
                | exact ⟨_, rfl, rfl, rfl, by rw [← HSZ.out]; exact below_setR HHB.out (Nat.le_refl _) DN, Nat.le_of_eq HSZ.out.symm, ha2.set DN⟩
                | exact ⟨_, rfl, rfl, rfl, by rw [← HSZ.out]; exact (undrewB HHC.out).alloc (show wr.heap.size ≤ _ from hszc) _, by rw [← HSZ.out]; exact hszc, heap_alloc_new _ _⟩
          case rest =>
            obtain ⟨gb, rfl, rfl, rfl, hb3, hgb, hI⟩ := hcut
            have hsz3 : SZ ≤ wc.heap.size := by have := hb3.size; have := HSZ.out; omega
            have hgs2 : g + 1 ≤ SZ := by have := HSZ.out; omega
            have hrg : IsR wc g T.d := (hb3.block g (by omega)).trans HR1.out
            obtain ⟨la, a0, a1, a2, a3, b0, b1, b2, b3⟩ := hI.cells
            obtain ⟨lg', d0, d1, d2, d3, e0, e1, e2, e3⟩ := hrg.cells
            have hb3' : Below wr.heap.size wr wc := by have := HSZ.out; subst this; exact hb3
            have hc3 := HC1.out.kept hb3'
            have cr3 := OwnS.int_cell hc3 (LA * 256 + T.r) HRR.out
            rw [show T.ch.getD (LA * 256 + T.r) 0 = (Z : Int) by
              have := OwnS.int_cell HC1.out (LA * 256 + T.r) HRR.out
              rw [cr] at this
              simpa using this.symm] at cr3
            have fr3 := hc3.free (LA * 256 + T.r)
            have hne1 : gc ≠ g := by omega
            have hne2 : g ≠ gc := by omega
            have hRR := hrg.any.set DN
            have HR4 := Lib.hid (show IsR ((setR wc g DN).setCell ⟨gc, LA * 256 + T.r, none⟩ (.int .i64 (updB Z BT : Nat))) g DN from (Below.heap_setCell _ _ _ _ hne2).trans hRR)
            have HC4 := Lib.hid (OwnS.set_int (row_same (w' := setR wc g DN) hc3 (by unfold setR; rw [Below.heap_setCell _ _ _ _ hne1, Below.heap_setCell _ _ _ _ hne1, Below.heap_setCell _ _ _ _ hne1, Below.heap_setCell _ _ _ _ hne1])) (LA * 256 + T.r) (updB Z BT : Nat) HRR.out)
            have HB4 := Lib.hid ((below_setR (g := g) (HB1.out.trans (hb3'.mono HB1.out.size)) hgl DN).setCell (p := ⟨gc, LA * 256 + T.r, none⟩) hgc (.int .i64 (updB Z BT : Nat)))
            have HW4 := Lib.hid ((((((HW1.out.kept hb3').setLow (p := ⟨g, 0, none⟩) (by simp) (.int .u64 DN.a)).setLow (p := ⟨g, 1, none⟩) (by simp) (.int .u64 DN.b)).setLow (p := ⟨g, 2, none⟩) (by simp) (.int .u64 DN.x)).setLow (p := ⟨g, 3, none⟩) (by simp) (.string (sB DN.s))).setLow (p := ⟨gc, LA * 256 + T.r, none⟩) (by show gc < g + 1; omega) (.int .i64 (updB Z BT : Nat)))
            have HG4 := Lib.hid (show g + 1 ≤ ((setR wc g DN).setCell ⟨gc, LA * 256 + T.r, none⟩ (.int .i64 (updB Z BT : Nat))).heap.size by rw [show ((setR wc g DN).setCell ⟨gc, LA * 256 + T.r, none⟩ (.int .i64 (updB Z BT : Nat))).heap.size = (setR wc g DN).heap.size by simp, setR_size]; omega)
            have HSS := Lib.hid (HST.out.trans HST2.out)
            clear hb3 hb3' hI hrg c0 c1 c2 c3 f0 f1 f2 f3 cr hc3 hRR hgcw lg
            go_wp2_with fail
            refine (CU.out _).mono ?_; rintro e w6 ⟨rfl, rfl⟩
            cases BT with
            | true =>
              go_wp2_with fail
              go_roundw
              case rel => exact ⟨j + 1, by omega, by rw [HSS.out]; go_num, by rw [HSS.out]; exact HR4.out, by rw [HSS.out]; exact HC4.out, HW4.out, HB4.out, HG4.out⟩
              case measure => simp [intOf]; omega
            | false =>
              go_wp2_with fail
              go_roundw
              case rel => exact ⟨j + 1, by omega, by rw [HSS.out]; go_num, by rw [HSS.out]; exact HR4.out, by rw [HSS.out]; exact HC4.out, HW4.out, HB4.out, HG4.out⟩
              case measure => simp [intOf]; omega
        · obtain rfl : j = 8 := by omega
          obtain ⟨x1, x2⟩ := (HF.out 8 (Nat.le_refl _)).2.2.2
          obtain ⟨T, hT⟩ : ∃ T, stepsTo (LA * 256) S0 8 = T := ⟨_, rfl⟩
          rw [hT] at hr hch x1 x2 HE2 ⊢
          have hE3 := HE.out.trans HE2.out
          have HLAST := Lib.hid (show (T.r : Int) - 256 = ((mDs T0 (k + 1)).2 : Nat) by rw [hE3]; show _ = ((T.r - 256 : Nat) : Int); omega)
          have HR2 := Lib.hid (show IsR wr g (mDs T0 (k + 1)).1.d by rw [hE3]; exact hr)
          have HC2 := Lib.hid (show OwnI w.heap.size wr (.slice (some ⟨gc, 0, none⟩) N cap) (mDs T0 (k + 1)).1.ch by rw [hE3]; exact hch)
          have hL2 : (mDs T0 (k + 1)).2 < 256 := by rw [hE3]; show T.r - 256 < 256; omega
          have HW2 := Lib.hid hown; have HB2 := Lib.hid hb; have HG2 := Lib.hid hgs
          have x3 : T.r < 512 := by omega
          have x4 : 256 ≤ T.r := by omega
          have HY := Lib.hid (show (T.r : Int) - 256 = ((UInt8.ofNat (mDs T0 (k + 1)).2).toNat : Int) by
            rw [HLAST.out, show (UInt8.ofNat (mDs T0 (k + 1)).2).toNat = (mDs T0 (k + 1)).2 by simp; omega])
          clear hr hch hown hb hgs x1 x2 hE3 hL2
          go_wp2_with (at_builtin; refine app_u8 rfl _ _ rfl _ _ _ _ _ _ HY.out rfl HW2.out _ 1 rfl rfl HOL.out HG2.out ?_; intro v2 w2 hown2 hb2 hg2)
          rw [← HS.out] at hown2
          obtain ⟨va, vd, rfl⟩ := own_slice hown2
          rw [outM_len] at hown2 ⊢
          have hr3 := (hb2.block g (by omega)).trans HR2.out
          have hc3 := row_same HC2.out (hb2.block gc (by omega))
          have hb3 := HB2.out.trans (hb2.mono (by omega))
          have hg3 : g + 1 ≤ w2.heap.size := Nat.le_trans HG2.out hb2.size
          have HO3 := Lib.hid hown2; have HR3 := Lib.hid hr3; have HC3 := Lib.hid hc3; have HB3 := Lib.hid hb3
          clear hown2 hr3 hc3 hb2 hg2 hb3
          go_wp2_with fail
          go_roundw
          case rel => exact ⟨k + 1, va, vd, by omega, rfl, congrArg (Value.int .i64) HLAST.out, HR3.out, HC3.out, HO3.out, HB3.out, hg3⟩
          case measure => simp [lenV]; omega
    · obtain rfl : k = many := by omega
      have hcv := hown.conv
      have HB1 := Lib.hid hb
      clear hr hch hown hb
      go_wp2_with fail
      go_ret2
      exact ⟨rfl, HB1.out⟩
end Go.Proofs.Ytkdkedgpchcfpaa
