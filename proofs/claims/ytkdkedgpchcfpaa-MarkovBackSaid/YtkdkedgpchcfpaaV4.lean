/- Layer 61: a byte out of a decoder. -/
import Derived.Test.YtkdkedgpchcfpaaV2
import Derived.Test.YtkdkedgpchcfpaaV3
namespace Go.Proofs.Ytkdkedgpchcfpaa
open Go.ChangeShapes Go.WideShapes Go.ChangeAt Go.RowKit
set_option linter.unusedVariables false
set_option linter.unusedSimpArgs false
set_option maxRecDepth 100000
open Range
theorem mAskD (w : World) (bx g : Nat) (d : Dec) (Z : Int) (hbx : w.heap[bx]? = some (.cells #[.pointer (some ⟨g, 0, none⟩)] 36 (0, 0))) (h : IsDec w g d) (hf : Fine d) :
    Calls Try.prog 83 #[.int .i64 Z, .pointer (some ⟨bx, 0, none⟩)] w fun e w' => e = .returned (.bool (bitD d Z)) ∧ IsDec w' g (stepD d Z) ∧ Keeps (fun k => k = g) w w' := by
  have C := Lib.hid (gBitT w g d Z h hf)
  have cb := cell_lit hbx 0 _ rfl
  go_enter Try.func83, Try.ntmps83
  go_wp2_with fail
  refine C.out.mono ?_; rintro e w1 ⟨rfl, hd, hk⟩
  have HD := Lib.hid hd; have HK := Lib.hid hk
  clear hd hk
  go_wp2_with fail
  go_ret
  exact ⟨rfl, HD.out, HK.out⟩
abbrev askM (bx : Nat) : Value := .func (Fn.func 83) #[] #[.pointer (some ⟨bx, 0, none⟩)]
structure MDec (w : World) (B gm gc gd bx last : Nat) (s : TS) : Prop where
  mod : w.heap[gm]? = some (.cells (mV gc last) 146 (0, 0))
  ch : IsCh w gc s.ch
  dec : IsDec w gd s.d
  box : w.heap[bx]? = some (.cells #[.pointer (some ⟨gd, 0, none⟩)] 36 (0, 0))
  dB : gd < B
  xB : bx < B
  dx : gd ≠ bx
  Bm : B ≤ gm
  Bc : B ≤ gc
  mc : gm ≠ gc
theorem MDec.asked {w w' : World} {B gm gc gd bx last : Nat} {s : TS} {d : Dec} (h : MDec w B gm gc gd bx last s) (hd : IsDec w' gd d) (hk : Keeps (fun k => k = gd) w w') : MDec w' B gm gc gd bx last ⟨d, s.ch, s.r⟩ := by
  obtain ⟨C, h1, h2⟩ := h.ch
  have := h.dB; have := h.Bm; have := h.Bc
  exact ⟨hk.heap h.mod (by show ¬ gm = gd; omega), ⟨C, hk.heap h1 (by show ¬ gc = gd; omega), h2⟩, hd, hk.heap h.box (fun e => h.dx (show bx = gd from e).symm), h.dB, h.xB, h.dx, h.Bm, h.Bc, h.mc⟩
theorem MDec.stored {w : World} {B gm gc gd bx last : Nat} {s : TS} (h : MDec w B gm gc gd bx last s) (i : Nat) (hi : i < s.ch.length) (z : Int) : MDec (w.setCell ⟨gc, i, none⟩ (.int .i64 z)) B gm gc gd bx last ⟨s.d, s.ch.set i z, s.r⟩ := by
  have := h.xB; have := h.Bc
  exact ⟨(Below.heap_setCell _ _ _ _ h.mc).trans h.mod, h.ch.set i hi z, h.dec.kept (B := B) ((Below.refl _ _).setCell (p := ⟨gc, i, none⟩) h.Bc _) h.dB, (Below.heap_setCell _ _ _ _ (by show bx ≠ gc; omega)).trans h.box, h.dB, h.xB, h.dx, h.Bm, h.Bc, h.mc⟩
theorem MDec.turned {w : World} {B gm gc gd bx last : Nat} {s : TS} (h : MDec w B gm gc gd bx last s) (x : Nat) : MDec (w.setCell ⟨gm, 1, none⟩ (.int .u8 x)) B gm gc gd bx x s := by
  have := h.xB; have := h.Bm
  refine ⟨block_set h.mod 1 _, h.ch.block (Below.heap_setCell _ _ _ _ h.mc.symm), h.dec.kept (B := B) ((Below.refl _ _).setCell (p := ⟨gm, 1, none⟩) h.Bm _) h.dB, (Below.heap_setCell _ _ _ _ (by show bx ≠ gm; omega)).trans h.box, h.dB, h.xB, h.dx, h.Bm, h.Bc, h.mc⟩
theorem MDec.row {w : World} {B gm gc gd bx last : Nat} {s : TS} (h : MDec w B gm gc gd bx last s) (r : Nat) : MDec w B gm gc gd bx last ⟨s.d, s.ch, r⟩ := ⟨h.mod, h.ch, h.dec, h.box, h.dB, h.xB, h.dx, h.Bm, h.Bc, h.mc⟩
theorem MDec.drew {w : World} {B gm gc gd bx last : Nat} {s : TS} (h : MDec w B gm gc gd bx last s) : MDec w.drew B gm gc gd bx last s := ⟨h.mod, h.ch, h.dec, h.box, h.dB, h.xB, h.dx, h.Bm, h.Bc, h.mc⟩
set_option maxHeartbeats 3200000 in
theorem mNextD (w : World) (N : Nat) (hN : N = 65536) (B gm gc gd bx last : Nat) (s : TS) (hl : last < 256) (h : MDec w B gm gc gd bx last s) (hf : FineO s N 0) (h1 : s.r = 1) :
    Calls Try.prog 80 #[.pointer (some ⟨gm, 0, none⟩), askM bx] w fun e w' => e = .returned (.int .u8 (((stepsTo (256 * last) s 8).r - 256 : Nat) : Int)) ∧ MDec w' B gm gc gd bx ((stepsTo (256 * last) s 8).r - 256) (stepsTo (256 * last) s 8) ∧ Keeps (fun k => k = gd ∨ k = gc ∨ k = gm) w w' := by
  rw [Nat.mul_comm 256 last]
  have HF := Lib.hid (fineO_steps (o := last * 256) (n := 8) hf (by omega))
  have HT0 := Lib.hid h
  have g0 : w.cell? ⟨gm, 0, none⟩ = some (.slice (some ⟨gc, 0, none⟩) 256 256) := cell_lit h.mod 0 _ rfl
  have g1 : w.cell? ⟨gm, 1, none⟩ = some (.int .u8 last) := cell_lit h.mod 1 _ rfl
  have HR := Lib.hid h1
  have hl0 : (0 : Int) ≤ (last : Int) := by omega
  have hl1 : (last : Int) < 256 := by omega
  clear h hf h1
  go_enter Try.func80, Try.ntmps80
  go_wp2_with fail
  go_region_held3 (fun w1 => w1.cell? ⟨gm, 0, none⟩ = some (.slice (some ⟨gc, 0, none⟩) 256 256) ∧ w1.cell? ⟨gm, 1, none⟩ = some (.int .u8 last)) (first | exact ⟨g0, g1⟩) (fail)
  go_wp2_with fail
  obtain ⟨O, hO⟩ : ∃ O, last * 256 = O := ⟨_, rfl⟩
  have hON : O + 256 ≤ N := by omega
  rw [hO] at HF
  rw [hO]
  have HT1 := Lib.hid HT0.out.drew
  have hwd : Keeps (fun k => k = gd ∨ k = gc ∨ k = gm) w w.drew := (Keeps.refl _ w).drew
  have HWD := Lib.hid hwd
  clear HT0 hwd g0 g1
  go_loopw [6, 17] (fun r i wr => ∃ j : Nat, j ≤ 8 ∧ i = .int .i64 j ∧ r = .int .i64 ((stepsTo O s j).r : Nat) ∧ MDec wr B gm gc gd bx last (stepsTo O s j) ∧ Keeps (fun k => k = gd ∨ k = gc ∨ k = gm) w wr) (fun _ i _ => 8 - (intOf i).toNat)
  case atStart => exact ⟨0, Nat.zero_le _, rfl, by show _ = Value.int .i64 ((s.r : Nat) : Int); rw [HR.out]; rfl, HT1.out, HWD.out⟩
  case round =>
    obtain ⟨j, hj, rfl, rfl, ht, hkk⟩ := hrel
    have HKK := Lib.hid hkk
    clear hkk
    by_cases hlt : j < 8
    · obtain ⟨hr, Z, hZ, hz1, hz2⟩ := fineO_at (n := 8) (o := O) (HF.out j hj) hlt (by omega)
      have hfd := (HF.out j hj).1
      have hlen := (HF.out j hj).2.1
      have HST := Lib.hid (show stepsTo O s (j + 1) = stepTo O (stepsTo O s j) from rfl)
      have HR0 : (stepsTo O s j).r < 256 := by
        have h5 := (HF.out j hj).2.2.2.2
        have : 2 ^ (j + 1) ≤ 2 ^ 8 := Nat.pow_le_pow_right (by decide) (by omega)
        omega
      obtain ⟨T, hT⟩ : ∃ T, stepsTo O s j = T := ⟨_, rfl⟩
      rw [hT] at ht hr hZ hfd HST HR0 hlen ⊢
      have cr := ht.ch.cell (O + T.r) hr
      rw [hZ] at cr
      have CA := Lib.hid (mAskD wr bx gd T.d Z ht.box ht.dec hfd)
      have HT1 := Lib.hid ht
      obtain ⟨BT, hBT⟩ : ∃ BT, bitD T.d (Z : Int) = BT := ⟨_, rfl⟩
      rw [hBT] at CA
      have HST2 := Lib.hid (show stepTo O T = ⟨stepD T.d Z, T.ch.set (O + T.r) (updB Z BT : Nat), 2 * T.r + if BT then 1 else 0⟩ by unfold stepTo; rw [hZ, hBT]; rfl)
      have hZ' := Lib.hid hZ
      have hr0 : (0 : Int) ≤ (T.r : Int) := by omega
      have hr1 : (T.r : Int) < 256 := by omega
      clear hBT hT ht hZ
      go_wp2_with fail
      refine CA.out.mono ?_; rintro e w5 ⟨rfl, hd5, hk5⟩
      have ht5 := HT1.out.asked hd5 hk5
      have HK5 := Lib.hid (HKK.out.trans' hk5 (fun k _ e => .inl e))
      have cr := ht5.ch.cell (O + T.r) hr
      simp only at cr
      rw [hZ'.out] at cr
      have fr := ht5.ch.free (O + T.r)
      have CU := Lib.hid (fun W => pUpdate Z ⟨hz1, hz2⟩ BT W)
      have HT6 := Lib.hid (ht5.stored (O + T.r) hr (updB Z BT : Nat))
      clear ht5 hd5 hk5 CA HT1
      go_wp2_with fail
      go_cut [] from 18 to 45 (fun wx => MDec wx B gm gc gd bx last ⟨stepD T.d Z, T.ch.set (O + T.r) (updB Z BT : Nat), T.r⟩ ∧ Keeps (fun k => k = gd ∨ k = gc ∨ k = gm) w wx)
      case first =>
        go_region_with (go_at_call 85; (with_reducible refine (CU.out _).mono ?_); rintro e w6 ⟨rfl, rfl⟩)
        all_goals
          go_wp2_with fail
          go_meet
          case rel => exact ⟨HT6.out.drew, (HK5.out.setCell (p := ⟨gc, O + T.r, none⟩) (.inr (.inr (.inl rfl))) _).drew⟩
      case rest =>
        obtain ⟨hcut, hkx⟩ := hcut
        have HTX := Lib.hid hcut
        have HKX := Lib.hid hkx
        have HSS := Lib.hid (HST.out.trans HST2.out)
        clear hkx hcut cr fr HT6 CU
        cases BT with
        | true =>
          go_wp2_with fail
          go_roundw
          case rel => exact ⟨j + 1, by omega, by go_num, by rw [HSS.out]; go_num, by rw [HSS.out]; exact HTX.out.row _, HKX.out⟩
          case measure => simp [intOf]; omega
        | false =>
          go_wp2_with fail
          go_roundw
          case rel => exact ⟨j + 1, by omega, by go_num, by rw [HSS.out]; go_num, by rw [HSS.out]; exact HTX.out.row _, HKX.out⟩
          case measure => simp [intOf]; omega
    · obtain rfl : j = 8 := by omega
      obtain ⟨x1, x2⟩ := (HF.out 8 (Nat.le_refl _)).2.2.2
      obtain ⟨T, hT⟩ : ∃ T, stepsTo O s 8 = T := ⟨_, rfl⟩
      rw [hT] at ht x1 x2 ⊢
      have f1 := free_in ht.mod 1
      have c1 : wr.cell? ⟨gm, 1, none⟩ = some (.int .u8 last) := cell_lit ht.mod 1 _ rfl
      have hw : (T.r : Int) % 256 = ((T.r - 256 : Nat) : Int) := by omega
      have HTX := Lib.hid (ht.turned (T.r - 256))
      have HKX := Lib.hid (HKK.out.setCell (p := ⟨gm, 1, none⟩) (.inr (.inr (.inr rfl))) (.int .u8 (T.r - 256 : Nat)))
      clear ht
      go_wp2_with fail
      go_ret
      exact ⟨by rw [hO, hT]; rfl, by rw [hO, hT]; exact HTX.out, HKX.out⟩
end Go.Proofs.Ytkdkedgpchcfpaa
