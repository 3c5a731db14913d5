/- Layer 46: a number into bits and chances. -/
import Derived.Test.YtkdkedgpchcfpaaG19
import Derived.Test.YtkdkedgpchcfpaaG17
import Derived.Test.YtkdkedgpchcfpaaG18
import Derived.Deep.RegionWith
import Derived.Deep.CutRange
import Derived.RegionCalls
namespace Go.Proofs.Ytkdkedgpchcfpaa
open Go.ChangeShapes Go.WideShapes Go.ChangeAt Go.RowKit
set_option linter.unusedVariables false
set_option maxRecDepth 100000
open Range
abbrev askE (gk gb gx gp : Nat) : Value := .func (Fn.func 56) #[] #[.pointer (some ⟨gk, 0, none⟩), .pointer (some ⟨gb, 0, none⟩), .pointer (some ⟨gx, 0, none⟩), .pointer (some ⟨gp, 0, none⟩)]
/-- A tree that asks an encoder's closure. -/
structure TEnc (w : World) (B gt gc gk gb gx gp n k x : Nat) (vb vp : Value) (s : ES) : Prop where
  tree : w.heap[gt]? = some (.cells #[.slice (some ⟨gc, 0, none⟩) s.ch.length s.ch.length, .int .i64 n, askE gk gb gx gp] 90 (0, 0))
  row : OwnI B w (.slice (some ⟨gc, 0, none⟩) s.ch.length s.ch.length) s.ch
  eb : EB w B gk gb gx gp k x vb vp s.bl s.pl
  ck : gc ≠ gk
  cx : gc ≠ gx
  cp : vp.ownBlock ≠ some gc
  Bt : B ≤ gt
theorem EB.drew {w : World} {B gk gb gx gp k x : Nat} {vb vp : Value} {bl : List Bool} {pl : List Int} (h : EB w B gk gb gx gp k x vb vp bl pl) : EB w.drew B gk gb gx gp k x vb vp bl pl := ⟨h.bk, h.bb, h.bx, h.bp, h.rb, h.rp, h.kx, h.pk, h.px, h.Bk, h.Bb, h.Bx, h.Bp⟩
theorem TEnc.drew {w : World} {B gt gc gk gb gx gp n k x : Nat} {vb vp : Value} {s : ES} (h : TEnc w B gt gc gk gb gx gp n k x vb vp s) : TEnc w.drew B gt gc gk gb gx gp n k x vb vp s := ⟨h.tree, h.row, h.eb.drew, h.ck, h.cx, h.cp, h.Bt⟩
theorem TEnc.Bc {w : World} {B gt gc gk gb gx gp n k x : Nat} {vb vp : Value} {s : ES} (h : TEnc w B gt gc gk gb gx gp n k x vb vp s) : B ≤ gc := (World.ownsRow.lt h.row gc rfl).1
theorem row_block {w : World} {B g n c : Nat} {l : List Int} (h : OwnI B w (.slice (some ⟨g, 0, none⟩) n c) l) : ∃ C, w.heap[g]? = some (.cells C 3 (0, 0)) := by
  rcases h.2 with ⟨h0, -⟩ | ⟨g', cap', cur, h0, _, hg, _⟩
  · simp at h0
  · simp only [Value.slice.injEq, Option.some.injEq, Addr.mk.injEq, and_true, true_and] at h0
    obtain ⟨rfl, -, -⟩ := h0
    exact ⟨_, hg⟩
theorem TEnc.asked {w w' : World} {B gt gc gk gb gx gp n k k' x : Nat} {vb vp vb' vp' : Value} {s : ES} {bl : List Bool} {pl : List Int} (h : TEnc w B gt gc gk gb gx gp n k x vb vp s) (he : EB w' B gk gb gx gp k' x vb' vp' bl pl) (hk : Keeps (ebFeet gk gb gp vb vp) w w')
    (hp : vp'.ownBlock = vp.ownBlock ∨ ∃ j, vp'.ownBlock = some j ∧ w.heap.size ≤ j) : TEnc w' B gt gc gk gb gx gp n k' x vb' vp' ⟨bl, pl, s.ch, s.r⟩ := by
  obtain ⟨CC, hCC⟩ := row_block h.row
  have hgc := block_lt hCC
  have n1 : ¬ ebFeet gk gb gp vb vp gt := by
    rintro (e | e | e | e | e)
    · exact block_ne h.tree h.eb.bk (by decide) e
    · exact block_ne h.tree h.eb.bb (by decide) e
    · exact block_ne h.tree h.eb.bp (by decide) e
    · exact own_ne h.eb.rb h.tree (by decide) e
    · exact own_ne h.eb.rp h.tree (by decide) e
  have n2 : ¬ ebFeet gk gb gp vb vp gc := by
    rintro (e | e | e | e | e)
    · exact h.ck e
    · exact block_ne hCC h.eb.bb (by decide) e
    · exact block_ne hCC h.eb.bp (by decide) e
    · exact own_ne h.eb.rb hCC (by decide) e
    · exact h.cp e
  refine ⟨hk.heap h.tree n1, hk.ownsRow h.row (fun j hj => ?_), he, h.ck, h.cx, ?_, h.Bt⟩
  · have : gc = j := by simpa [Value.ownBlock] using hj
    subst this; exact n2
  · rcases hp with e | ⟨j, e, hj⟩
    · rw [e]; exact h.cp
    · rw [e]; intro e2; injection e2 with e2; omega
theorem TEnc.stored {w : World} {B gt gc gk gb gx gp n k x : Nat} {vb vp : Value} {s : ES} (h : TEnc w B gt gc gk gb gx gp n k x vb vp s) (i : Nat) (hi : i < s.ch.length) (z : Int) :
    TEnc (w.setCell ⟨gc, i, none⟩ (.int .i64 z)) B gt gc gk gb gx gp n k x vb vp ⟨s.bl, s.pl, s.ch.set i z, s.r⟩ := by
  obtain ⟨CC, hCC⟩ := row_block h.row
  have hk : Keeps (fun j => j = gc) w (w.setCell ⟨gc, i, none⟩ (.int .i64 z)) := (Keeps.refl (fun j => j = gc) w).setCell (p := ⟨gc, i, none⟩) (.inr rfl) _
  have e := h.eb
  refine ⟨?_, ?_, ⟨hk.heap e.bk (fun q => h.ck q.symm), hk.heap e.bb (fun q => block_ne e.bb hCC (by decide) q), hk.heap e.bx (fun q => h.cx q.symm), hk.heap e.bp (fun q => block_ne e.bp hCC (by decide) q), ?_, ?_, e.kx, e.pk, e.px, e.Bk, e.Bb, e.Bx, e.Bp⟩, h.ck, h.cx, h.cp, h.Bt⟩
  · simp only [List.length_set]
    exact hk.heap h.tree (fun q => block_ne h.tree hCC (by decide) q)
  · have := OwnS.set_int h.row i z hi
    simp only [List.length_set]
    exact this
  · exact hk.ownsRow e.rb (fun j hj q => own_ne e.rb hCC (by decide) (by rw [hj, q]))
  · exact hk.ownsRow e.rp (fun j hj q => h.cp (by rw [hj, q]))
theorem TEnc.rowed {w : World} {B gt gc gk gb gx gp n k x : Nat} {vb vp : Value} {s : ES} (h : TEnc w B gt gc gk gb gx gp n k x vb vp s) (r : Nat) : TEnc w B gt gc gk gb gx gp n k x vb vp ⟨s.bl, s.pl, s.ch, r⟩ := ⟨h.tree, h.row, h.eb, h.ck, h.cx, h.cp, h.Bt⟩
set_option maxHeartbeats 3200000 in
theorem tNumE (w : World) (B gt gc gk gb gx gp n x : Nat) (vb vp : Value) (s : ES) (hn : n ≤ 9) (hx : x < 2 ^ n) (hB : B ≤ w.heap.size) (hbl : s.bl.length ≤ 500000) (h : TEnc w B gt gc gk gb gx gp n n x vb vp s) (hf : FineE s (2 ^ n) 0) (h1 : s.r = 1) :
    Calls Try.prog 57 #[.pointer (some ⟨gt, 0, none⟩)] w fun e w' => ∃ z vb' vp', e = .returned (.int .i64 z) ∧ TEnc w' B gt gc gk gb gx gp n 0 x vb' vp' (stepsE 0 x n s n) ∧ Below B w w' := by
  have hp9 : 2 ^ n ≤ 512 := Nat.pow_le_pow_right (n := 2) (by decide) hn
  have HF := Lib.hid (fineE_steps (o := 0) (n := n) hf (by omega) x)
  have HL := Lib.hid (stepsE_len 0 x n s)
  have HT0 := Lib.hid h
  have c1 : w.cell? ⟨gt, 1, none⟩ = some (.int .i64 n) := cell_lit h.tree 1 _ rfl
  have HR := Lib.hid h1
  have HX := Lib.hid hx
  clear h hf h1 hx hp9
  go_enter Try.func57, Try.ntmps57
  go_wp2_with fail
  go_loopw [3, 9] (fun r i wr => ∃ j : Nat, j ≤ n ∧ i = .int .i64 j ∧ r = .int .i64 ((stepsE 0 x n s j).r : Nat) ∧ ∃ ub up, TEnc wr B gt gc gk gb gx gp n (n - j) x ub up (stepsE 0 x n s j) ∧ Below B w wr) (fun _ i _ => n - (intOf i).toNat)
  case atStart => exact ⟨0, Nat.zero_le _, rfl, by show _ = Value.int .i64 ((s.r : Nat) : Int); rw [HR.out]; rfl, vb, vp, HT0.out, Below.refl _ _⟩
  case round =>
    obtain ⟨j, hj, rfl, rfl, ub, up, ht, hb⟩ := hrel
    by_cases hlt : j < n
    · obtain ⟨hr, Z, hZ, hz1, hz2⟩ := fineE_at (o := 0) (n := n) (HF.out j hj) hlt (by omega)
      rw [Nat.zero_add] at hr hZ
      have hlen := HL.out j
      have hlen2 := (HF.out j hj).2.2.2.2.1
      have HST := Lib.hid (show stepsE 0 x n s (j + 1) = stepE 0 (bitAt x n j) (stepsE 0 x n s j) from rfl)
      have hx5 : x ≤ 1000000 := by have := HX.out; have : 2 ^ n ≤ 2 ^ 9 := Nat.pow_le_pow_right (by decide) hn; omega
      have HR0 : (stepsE 0 x n s j).r ≤ 512 := by
        have h5 := (HF.out j hj).2.2.2.1
        have : 2 ^ (j + 1) ≤ 2 ^ 9 := Nat.pow_le_pow_right (by decide) (by omega)
        omega
      obtain ⟨kk, hkk⟩ : ∃ kk, n - j = kk + 1 := ⟨n - j - 1, by omega⟩
      obtain ⟨T, hT⟩ : ∃ T, stepsE 0 x n s j = T := ⟨_, rfl⟩
      rw [hT] at ht hr hZ HST HR0 hlen hlen2 ⊢
      rw [hkk] at ht
      have g0 := cell_lit ht.tree 0 _ rfl
      have g2 := cell_lit ht.tree 2 _ rfl
      have cr := OwnS.int_cell ht.row T.r hr
      rw [hZ] at cr
      obtain ⟨BT, hBT⟩ : ∃ BT, bitK x kk = BT := ⟨_, rfl⟩
      have hBA : bitAt x n j = BT := by rw [← hBT]; unfold bitAt bitK; rw [show n - 1 - j = kk by omega]
      have CA := Lib.hid (fun W (h : EB W B gk gb gx gp (kk + 1) x ub up T.bl T.pl) (hW : B ≤ W.heap.size) => tAskE W B gk gb gx gp kk x ub up T.bl T.pl (Z : Int) h hW (by omega) hx5 (by omega) (by omega))
      rw [hBT] at CA
      rw [hBA] at HST
      have HST2 := Lib.hid (show stepE 0 BT T = ⟨T.bl ++ [BT], T.pl ++ [(Z : Int)], T.ch.set T.r (updB Z BT : Nat), 2 * T.r + if BT then 1 else 0⟩ by unfold stepE; rw [Nat.zero_add, hZ]; rfl)
      have hZ' := Lib.hid hZ
      have HR5 := Lib.hid (show T.r ≤ 512 from HR0)
      have HT1 := Lib.hid ht
      have HB1 := Lib.hid hb
      have hkn : n - (j + 1) = kk := by omega
      have HKN := Lib.hid hkn
      have HBs := Lib.hid hB
      have HBW := Lib.hid (show B ≤ wr.drew.heap.size from Nat.le_trans hB hb.size)
      clear hBT hBA hZ HR0 hT ht hb hkn hlen hlen2 hkk hB
      go_wp2_with fail
      go_cut [4] from 11 to 46 (fun s4 wc => s4 = .bool BT ∧ ∃ ub' up', TEnc wc B gt gc gk gb gx gp n kk x ub' up' ⟨T.bl ++ [BT], T.pl ++ [(Z : Int)], T.ch, T.r⟩ ∧ Below B w wc)
      case first =>
        go_region_with (go_at_call 56; refine (CA.out wr.drew HT1.out.eb.drew HBW.out).mono ?_; rintro e w5 ⟨ub', up', rfl, he5, hk5, hp5⟩)
        all_goals
          go_wp2_with fail
          go_meet
          case rel => exact ⟨rfl, ub', up', TEnc.asked (w := wr) HT1.out he5 ((Keeps.refl _ wr).drew.trans hk5) hp5, HB1.out.drew.trans (hk5.below (fun q hq => ⟨by have := HB1.out.size; have := HBs.out; show q < wr.heap.size; omega, by
            have e := HT1.out.eb
            rintro (r | r | r | r | r)
            · have := e.Bk; omega
            · have := e.Bb; omega
            · have := e.Bp; omega
            · have := (World.ownsRow.lt e.rb q r).1; omega
            · have := (World.ownsRow.lt e.rp q r).1; omega⟩))⟩
      case rest =>
        obtain ⟨rfl, ub', up', ht5, hb5⟩ := hcut
        clear cr g0 g2 CA HT1
        have g0 := cell_lit ht5.tree 0 _ rfl
        have cr := OwnS.int_cell ht5.row T.r hr
        simp only at g0 cr
        rw [hZ'.out] at cr
        have fr := ht5.row.free T.r
        have HB5 := Lib.hid (hb5.setCell (p := ⟨gc, T.r, none⟩) ht5.Bc (.int .i64 (updB Z BT : Nat)))
        have CU := Lib.hid (fun W => pUpdate Z ⟨hz1, hz2⟩ BT W)
        have HT6 := Lib.hid (ht5.stored T.r hr (updB Z BT : Nat))
        clear ht5 hb5
        have hr512 : T.r ≤ 512 := HR5.out
        go_wp2_with fail
        go_cut [] from 11 to 46 (fun wx => TEnc wx B gt gc gk gb gx gp n kk x ub' up' ⟨T.bl ++ [BT], T.pl ++ [(Z : Int)], T.ch.set T.r (updB Z BT : Nat), T.r⟩ ∧ Below B w wx)
        case first =>
          go_region_with (go_at_call 85; (with_reducible refine (CU.out _).mono ?_); rintro e w6 ⟨rfl, rfl⟩)
          all_goals
            go_wp2_with fail
            go_meet
            case rel => exact ⟨HT6.out.drew, HB5.out.drew⟩
        case rest =>
          obtain ⟨ht7, hb7⟩ := hcut
          have HTX := Lib.hid ht7
          have HBX := Lib.hid hb7
          have HSS := Lib.hid (HST.out.trans HST2.out)
          clear ht7 hb7 g0 cr fr HB5 HT6 CU
          cases BT with
          | true =>
            go_wp2_with fail
            go_roundw
            case rel => exact ⟨j + 1, by omega, by go_num, by rw [HSS.out]; go_num, ub', up', by rw [HSS.out, HKN.out]; exact HTX.out.rowed _, HBX.out⟩
            case measure => simp [intOf]; omega
          | false =>
            go_wp2_with fail
            go_roundw
            case rel => exact ⟨j + 1, by omega, by go_num, by rw [HSS.out]; go_num, ub', up', by rw [HSS.out, HKN.out]; exact HTX.out.rowed _, HBX.out⟩
            case measure => simp [intOf]; omega
    · obtain rfl : j = n := by omega
      have HTT := Lib.hid ht
      have HBB := Lib.hid hb
      have c1' : wr.cell? ⟨gt, 1, none⟩ = some (.int .i64 j) := cell_lit ht.tree 1 _ rfl
      clear ht hb c1
      go_wp2_with fail
      go_ret
      exact ⟨_, ub, up, rfl, by rw [Nat.sub_self] at HTT; exact HTT.out, HBB.out⟩
end Go.Proofs.Ytkdkedgpchcfpaa
