/- Layer 61: a byte into bits and chances. -/
import Derived.Test.YtkdkedgpchcfpaaV6
namespace Go.Proofs.Ytkdkedgpchcfpaa
open Go.ChangeShapes Go.WideShapes Go.ChangeAt Go.RowKit
set_option linter.unusedVariables false
set_option linter.unusedSimpArgs false
set_option maxRecDepth 100000
open Range
theorem top_all : ∀ x : Fin 256, ∀ j : Fin 8, decide (128 ≤ x.1 * 2 ^ j.1 % 256) = bitAt x.1 8 j.1 ∧ x.1 * 2 ^ j.1 % 256 * 2 % 256 = x.1 * 2 ^ (j.1 + 1) % 256 := by decide +kernel
theorem top_bit {x j : Nat} (hx : x < 256) (hj : j < 8) : decide ((128 : Int) ≤ ((x * 2 ^ j % 256 : Nat) : Int)) = bitAt x 8 j ∧ x * 2 ^ j % 256 * 2 % 256 = x * 2 ^ (j + 1) % 256 := by
  obtain ⟨h1, h2⟩ := top_all ⟨x, hx⟩ ⟨j, hj⟩
  refine ⟨?_, h2⟩
  rw [← h1]
  simp only [decide_eq_decide]
  omega
abbrev askW (gx gb gp : Nat) : Value := .func (Fn.func 81) #[] #[.pointer (some ⟨gx, 0, none⟩), .pointer (some ⟨gb, 0, none⟩), .pointer (some ⟨gp, 0, none⟩)]
structure MEnc (w : World) (B gm gc gx gb gp last x : Nat) (vb vp : Value) (s : ES) : Prop where
  mod : w.heap[gm]? = some (.cells (mV gc last) 146 (0, 0))
  ch : IsCh w gc s.ch
  em : EM w B gx gb gp x vb vp s.bl s.pl
  Bm : B ≤ gm
  Bc : B ≤ gc
  mc : gm ≠ gc
theorem MEnc.asked {w w' : World} {B gm gc gx gb gp last x x' : Nat} {vb vp vb' vp' : Value} {s : ES} {bl : List Bool} {pl : List Int} (h : MEnc w B gm gc gx gb gp last x vb vp s) (he : EM w' B gx gb gp x' vb' vp' bl pl) (hk : Keeps (emFeet gx gb gp vb vp) w w') : MEnc w' B gm gc gx gb gp last x' vb' vp' ⟨bl, pl, s.ch, s.r⟩ := by
  obtain ⟨C, hC, hc2⟩ := h.ch
  refine ⟨hk.heap h.mod ?_, ⟨C, hk.heap hC ?_, hc2⟩, he, h.Bm, h.Bc, h.mc⟩
  · rintro (e | e | e | e | e)
    · exact block_ne h.mod h.em.bx (by decide) e
    · exact block_ne h.mod h.em.bb (by decide) e
    · exact block_ne h.mod h.em.bp (by decide) e
    · exact own_ne h.em.rb h.mod (by decide) e
    · exact own_ne h.em.rp h.mod (by decide) e
  · rintro (e | e | e | e | e)
    · exact block_ne hC h.em.bx (by decide) e
    · exact block_ne hC h.em.bb (by decide) e
    · exact block_ne hC h.em.bp (by decide) e
    · exact own_ne h.em.rb hC (by decide) e
    · exact own_ne h.em.rp hC (by decide) e
theorem MEnc.stored {w : World} {B gm gc gx gb gp last x : Nat} {vb vp : Value} {s : ES} (h : MEnc w B gm gc gx gb gp last x vb vp s) (i : Nat) (hi : i < s.ch.length) (z : Int) : MEnc (w.setCell ⟨gc, i, none⟩ (.int .i64 z)) B gm gc gx gb gp last x vb vp ⟨s.bl, s.pl, s.ch.set i z, s.r⟩ := by
  obtain ⟨C, hC, hc2⟩ := id h.ch
  have hk : Keeps (fun j => j = gc) w (w.setCell ⟨gc, i, none⟩ (.int .i64 z)) := (Keeps.refl (fun j => j = gc) w).setCell (p := ⟨gc, i, none⟩) (.inr rfl) _
  have e := h.em
  exact ⟨hk.heap h.mod h.mc, h.ch.set i hi z, ⟨hk.heap e.bx (fun q => block_ne e.bx hC (by decide) q), hk.heap e.bb (fun q => block_ne e.bb hC (by decide) q), hk.heap e.bp (fun q => block_ne e.bp hC (by decide) q), hk.ownsRow e.rb (fun j hj q => own_ne e.rb hC (by decide) (by rw [hj, q])), hk.ownsRow e.rp (fun j hj q => own_ne e.rp hC (by decide) (by rw [hj, q])), e.Bx, e.Bb, e.Bp⟩, h.Bm, h.Bc, h.mc⟩
theorem MEnc.turned {w : World} {B gm gc gx gb gp last x : Nat} {vb vp : Value} {s : ES} (h : MEnc w B gm gc gx gb gp last x vb vp s) (y : Nat) : MEnc (w.setCell ⟨gm, 1, none⟩ (.int .u8 y)) B gm gc gx gb gp y x vb vp s := by
  have hk : Keeps (fun j => j = gm) w (w.setCell ⟨gm, 1, none⟩ (.int .u8 y)) := (Keeps.refl (fun j => j = gm) w).setCell (p := ⟨gm, 1, none⟩) (.inr rfl) _
  have e := h.em
  exact ⟨block_set h.mod 1 _, h.ch.block (Below.heap_setCell _ _ _ _ h.mc.symm), ⟨hk.heap e.bx (fun q => block_ne e.bx h.mod (by decide) q), hk.heap e.bb (fun q => block_ne e.bb h.mod (by decide) q), hk.heap e.bp (fun q => block_ne e.bp h.mod (by decide) q), hk.ownsRow e.rb (fun j hj q => own_ne e.rb h.mod (by decide) (by rw [hj, q])), hk.ownsRow e.rp (fun j hj q => own_ne e.rp h.mod (by decide) (by rw [hj, q])), e.Bx, e.Bb, e.Bp⟩, h.Bm, h.Bc, h.mc⟩
theorem MEnc.row {w : World} {B gm gc gx gb gp last x : Nat} {vb vp : Value} {s : ES} (h : MEnc w B gm gc gx gb gp last x vb vp s) (r : Nat) : MEnc w B gm gc gx gb gp last x vb vp ⟨s.bl, s.pl, s.ch, r⟩ := ⟨h.mod, h.ch, h.em, h.Bm, h.Bc, h.mc⟩
theorem MEnc.drew {w : World} {B gm gc gx gb gp last x : Nat} {vb vp : Value} {s : ES} (h : MEnc w B gm gc gx gb gp last x vb vp s) : MEnc w.drew B gm gc gx gb gp last x vb vp s := ⟨h.mod, h.ch, ⟨h.em.bx, h.em.bb, h.em.bp, h.em.rb, h.em.rp, h.em.Bx, h.em.Bb, h.em.Bp⟩, h.Bm, h.Bc, h.mc⟩
set_option maxHeartbeats 3200000 in
theorem mNextE (w : World) (N : Nat) (hN : N = 65536) (B gm gc gx gb gp last x : Nat) (vb vp : Value) (s : ES) (hl : last < 256) (hx : x < 256) (hB : B ≤ w.heap.size) (hbl : s.bl.length ≤ 500000) (h : MEnc w B gm gc gx gb gp last x vb vp s) (hf : FineE s N 0) (h1 : s.r = 1) :
    Calls Try.prog 80 #[.pointer (some ⟨gm, 0, none⟩), askW gx gb gp] w fun e w' => ∃ y vb' vp', e = .returned (.int .u8 x) ∧ MEnc w' B gm gc gx gb gp x y vb' vp' (stepsE (256 * last) x 8 s 8) ∧ Below B w w' := by
  rw [Nat.mul_comm 256 last]
  have HF := Lib.hid (fineE_steps (o := last * 256) (n := 8) hf (by omega) x)
  have HLN := Lib.hid (stepsE_len (last * 256) x 8 s)
  have HROW := Lib.hid (stepsE_row (last * 256) x 8 s h1 (by show x < 256; exact hx) 8 (Nat.le_refl _))
  have HT0 := Lib.hid h
  have g0 : w.cell? ⟨gm, 0, none⟩ = some (.slice (some ⟨gc, 0, none⟩) 256 256) := cell_lit h.mod 0 _ rfl
  have g1 : w.cell? ⟨gm, 1, none⟩ = some (.int .u8 last) := cell_lit h.mod 1 _ rfl
  have HR := Lib.hid h1
  have hl0 : (0 : Int) ≤ (last : Int) := by omega
  have hl1 : (last : Int) < 256 := by omega
  clear h hf h1
  go_enter Try.func80, Try.ntmps80
  go_wp2_with fail
  go_region_held3 (fun w1 => w1.cell? ⟨gm, 0, none⟩ = some (.slice (some ⟨gc, 0, none⟩) 256 256) ∧ w1.cell? ⟨gm, 1, none⟩ = some (.int .u8 last)) (first | exact ⟨g0, g1⟩) (fail)
  go_wp2_with fail
  obtain ⟨O, hO⟩ : ∃ O, last * 256 = O := ⟨_, rfl⟩
  have hON : O + 256 ≤ N := by omega
  rw [hO] at HF HLN HROW
  rw [hO]
  have HT1 := Lib.hid HT0.out.drew
  have hx0 : x * 2 ^ 0 % 256 = x := by omega
  have HX0 := Lib.hid hx0
  have HBs := Lib.hid hB
  clear HT0 g0 g1 hx0 hB
  go_loopw [6, 17] (fun r i wr => ∃ j : Nat, j ≤ 8 ∧ i = .int .i64 j ∧ r = .int .i64 ((stepsE O x 8 s j).r : Nat) ∧ ∃ ub up, MEnc wr B gm gc gx gb gp last (x * 2 ^ j % 256) ub up (stepsE O x 8 s j) ∧ Below B w wr) (fun _ i _ => 8 - (intOf i).toNat)
  case atStart => exact ⟨0, Nat.zero_le _, rfl, by show _ = Value.int .i64 ((s.r : Nat) : Int); rw [HR.out]; rfl, vb, vp, by rw [HX0.out]; exact HT1.out, (Below.refl B w).drew⟩
  case round =>
    obtain ⟨j, hj, rfl, rfl, ub, up, ht, hb⟩ := hrel
    have hbsz := hb.size
    have HBB := Lib.hid hb
    clear hb
    by_cases hlt : j < 8
    · obtain ⟨hr, Z, hZ, hz1, hz2⟩ := fineE_at (n := 8) (o := O) (HF.out j hj) hlt (by omega)
      have hlen := HLN.out j
      have hlen2 := (HF.out j hj).2.2.2.2.1
      have HST := Lib.hid (show stepsE O x 8 s (j + 1) = stepE O (bitAt x 8 j) (stepsE O x 8 s j) from rfl)
      have HR0 : (stepsE O x 8 s j).r < 256 := by
        have h5 := (HF.out j hj).2.2.2.1
        have : 2 ^ (j + 1) ≤ 2 ^ 8 := Nat.pow_le_pow_right (by decide) (by omega)
        omega
      obtain ⟨hbt, hnx⟩ := top_bit hx hlt
      obtain ⟨T, hT⟩ : ∃ T, stepsE O x 8 s j = T := ⟨_, rfl⟩
      rw [hT] at ht hr hZ HST HR0 hlen hlen2 ⊢
      obtain ⟨BT, hBT⟩ : ∃ BT, bitAt x 8 j = BT := ⟨_, rfl⟩
      rw [hBT] at HST hbt
      have hy : x * 2 ^ j % 256 < 256 := Nat.mod_lt _ (by decide)
      have HNX := Lib.hid hnx
      obtain ⟨y, hyy⟩ : ∃ y, x * 2 ^ j % 256 = y := ⟨_, rfl⟩
      rw [hyy] at ht hbt hy HNX
      have cr := ht.ch.cell (O + T.r) hr
      rw [hZ] at cr
      have hwB : B ≤ wr.heap.size := by have := HBs.out; omega
      have CA := Lib.hid (mAskE wr B gx gb gp y ub up T.bl T.pl (Z : Int) ht.em hwB hy (by omega) (by omega) BT hbt)
      have HT1 := Lib.hid ht
      have HST2 := Lib.hid (show stepE O BT T = ⟨T.bl ++ [BT], T.pl ++ [(Z : Int)], T.ch.set (O + T.r) (updB Z BT : Nat), 2 * T.r + if BT then 1 else 0⟩ by unfold stepE; rw [hZ]; rfl)
      have hr0 : (0 : Int) ≤ (T.r : Int) := by omega
      have hr1 : (T.r : Int) < 256 := by omega
      have hZ' := Lib.hid hZ
      clear hBT hT ht hZ hbt hnx hyy hlen hlen2
      go_wp2_with fail
      refine CA.out.mono ?_; rintro e w5 ⟨ub', up', rfl, he5, hk5, hp5⟩
      have ht5 := HT1.out.asked he5 hk5
      have HB5 := Lib.hid (HBB.out.trans (hk5.below (fun q hq => ⟨by omega, by
            have e := HT1.out.em
            rintro (r | r | r | r | r)
            · have := e.Bx; omega
            · have := e.Bb; omega
            · have := e.Bp; omega
            · have := (World.ownsRow.lt e.rb q r).1; omega
            · have := (World.ownsRow.lt e.rp q r).1; omega⟩)))
      have cr := ht5.ch.cell (O + T.r) hr
      simp only at cr
      rw [hZ'.out] at cr
      have fr := ht5.ch.free (O + T.r)
      have CU := Lib.hid (fun W => pUpdate Z ⟨hz1, hz2⟩ BT W)
      have HT6 := Lib.hid (ht5.stored (O + T.r) hr (updB Z BT : Nat))
      have hBc := ht5.Bc
      clear ht5 he5 hk5 hp5 CA HT1
      go_wp2_with fail
      go_cut [] from 18 to 45 (fun wx => MEnc wx B gm gc gx gb gp last (x * 2 ^ (j + 1) % 256) ub' up' ⟨T.bl ++ [BT], T.pl ++ [(Z : Int)], T.ch.set (O + T.r) (updB Z BT : Nat), T.r⟩ ∧ Below B w wx)
      case first =>
        go_region_with (go_at_call 85; (with_reducible refine (CU.out _).mono ?_); rintro e w6 ⟨rfl, rfl⟩)
        all_goals
          go_wp2_with fail
          go_meet
          case rel => exact ⟨by rw [← HNX.out]; exact HT6.out.drew, (HB5.out.setCell (p := ⟨gc, O + T.r, none⟩) hBc _).drew⟩
      case rest =>
        obtain ⟨hcut, hkx⟩ := hcut
        have HTX := Lib.hid hcut
        have HKX := Lib.hid hkx
        have HSS := Lib.hid (HST.out.trans HST2.out)
        clear hkx hcut cr fr HT6 CU
        cases BT with
        | true =>
          go_wp2_with fail
          go_roundw
          case rel => exact ⟨j + 1, by omega, by go_num, by rw [HSS.out]; go_num, ub', up', by rw [HSS.out]; exact HTX.out.row _, HKX.out⟩
          case measure => simp [intOf]; omega
        | false =>
          go_wp2_with fail
          go_roundw
          case rel => exact ⟨j + 1, by omega, by go_num, by rw [HSS.out]; go_num, ub', up', by rw [HSS.out]; exact HTX.out.row _, HKX.out⟩
          case measure => simp [intOf]; omega
    · obtain rfl : j = 8 := by omega
      have hrow := HROW.out
      rw [Nat.sub_self, Nat.pow_zero, Nat.div_one] at hrow
      obtain ⟨T, hT⟩ : ∃ T, stepsE O x 8 s 8 = T := ⟨_, rfl⟩
      rw [hT] at ht hrow ⊢
      obtain ⟨y, hyy⟩ : ∃ y, x * 2 ^ 8 % 256 = y := ⟨_, rfl⟩
      rw [hyy] at ht
      have f1 := free_in ht.mod 1
      have c1 : wr.cell? ⟨gm, 1, none⟩ = some (.int .u8 last) := cell_lit ht.mod 1 _ rfl
      have hw : (T.r : Int) % 256 = (x : Int) := by omega
      have hw2 : (x : Int) % 256 = (x : Int) := by omega
      have HTX := Lib.hid (ht.turned x)
      have HKX := Lib.hid (HBB.out.setCell (p := ⟨gm, 1, none⟩) ht.Bm (.int .u8 x))
      clear ht
      go_wp2_with fail
      go_ret
      exact ⟨y, ub, up, rfl, by rw [hO, hT]; exact HTX.out, HKX.out⟩
end Go.Proofs.Ytkdkedgpchcfpaa
