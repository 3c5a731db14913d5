import Derived.Test.YtedmnlfbmmlcbaaJ09
import Derived.Test.YtedmnlfbmmlcbaaJ10
import Derived.Deep.RegionWith
import Derived.Deep.CutRange
import Derived.RegionCalls
import Derived.Laws.EntriesVeiled
/- Layer 46: a number into bits and chances. -/
namespace Go.Proofs.Ytedmnlfbmmlcbaa
open Go.ChangeShapes Go.WideShapes Go.ChangeAt Go.RowKit
set_option linter.unusedVariables false
set_option maxRecDepth 100000
open Range
abbrev askE (gk gb gx gp : Nat) : Value := .func (Fn.func 31) #[] #[.pointer (some ⟨gk, 0, none⟩), .pointer (some ⟨gb, 0, none⟩), .pointer (some ⟨gx, 0, none⟩), .pointer (some ⟨gp, 0, none⟩)]
/-- A tree that asks an encoder's closure. -/
structure TEnc (w : World) (B gt gc gk gb gx gp n k x : Nat) (vb vp : Value) (s : ES) : Prop where
  tree : w.heap[gt]? = some (.cells #[.slice (some ⟨gc, 0, none⟩) s.ch.length s.ch.length, .int .i64 n, askE gk gb gx gp] 59 (0, 0))
  row : OwnI B w (.slice (some ⟨gc, 0, none⟩) s.ch.length s.ch.length) s.ch
  eb : EB w B gk gb gx gp k x vb vp s.bl s.pl
  ck : gc ≠ gk
  cx : gc ≠ gx
  cp : vp.ownBlock ≠ some gc
  Bt : B ≤ gt
theorem EB.drew {w : World} {B gk gb gx gp k x : Nat} {vb vp : Value} {bl : List Bool} {pl : List Int} (h : EB w B gk gb gx gp k x vb vp bl pl) : EB w.drew B gk gb gx gp k x vb vp bl pl := ⟨h.bk, h.bb, h.bx, h.bp, h.rb, h.rp, h.kx, h.pk, h.px, h.Bk, h.Bb, h.Bx, h.Bp⟩
theorem TEnc.drew {w : World} {B gt gc gk gb gx gp n k x : Nat} {vb vp : Value} {s : ES} (h : TEnc w B gt gc gk gb gx gp n k x vb vp s) : TEnc w.drew B gt gc gk gb gx gp n k x vb vp s := ⟨h.tree, h.row, h.eb.drew, h.ck, h.cx, h.cp, h.Bt⟩
theorem TEnc.Bc {w : World} {B gt gc gk gb gx gp n k x : Nat} {vb vp : Value} {s : ES} (h : TEnc w B gt gc gk gb gx gp n k x vb vp s) : B ≤ gc := (World.ownsRow.lt h.row gc rfl).1
theorem row_block {w : World} {B g n c : Nat} {l : List Int} (h : OwnI B w (.slice (some ⟨g, 0, none⟩) n c) l) : ∃ C, w.heap[g]? = some (.cells C 3 (0, 0)) := by
  rcases h.2 with ⟨h0, -⟩ | ⟨g', cap', cur, h0, _, hg, _⟩
  · simp at h0
  · simp only [Value.slice.injEq, Option.some.injEq, Addr.mk.injEq, and_true, true_and] at h0
    obtain ⟨rfl, -, -⟩ := h0
    exact ⟨_, hg⟩
theorem TEnc.asked {w w' : World} {B gt gc gk gb gx gp n k k' x : Nat} {vb vp vb' vp' : Value} {s : ES} {bl : List Bool} {pl : List Int} (h : TEnc w B gt gc gk gb gx gp n k x vb vp s) (he : EB w' B gk gb gx gp k' x vb' vp' bl pl) (hk : Keeps (ebFeet gk gb gp vb vp) w w')
    (hp : vp'.ownBlock = vp.ownBlock ∨ ∃ j, vp'.ownBlock = some j ∧ w.heap.size ≤ j) : TEnc w' B gt gc gk gb gx gp n k' x vb' vp' ⟨bl, pl, s.ch, s.r⟩ := by
  obtain ⟨CC, hCC⟩ := row_block h.row
  have hgc := block_lt hCC
  have n1 : ¬ ebFeet gk gb gp vb vp gt := by
    rintro (e | e | e | e | e)
    · exact block_ne h.tree h.eb.bk (by decide) e
    · exact block_ne h.tree h.eb.bb (by decide) e
    · exact block_ne h.tree h.eb.bp (by decide) e
    · exact own_ne h.eb.rb h.tree (by decide) e
    · exact own_ne h.eb.rp h.tree (by decide) e
  have n2 : ¬ ebFeet gk gb gp vb vp gc := by
    rintro (e | e | e | e | e)
    · exact h.ck e
    · exact block_ne hCC h.eb.bb (by decide) e
    · exact block_ne hCC h.eb.bp (by decide) e
    · exact own_ne h.eb.rb hCC (by decide) e
    · exact h.cp e
  refine ⟨hk.heap h.tree n1, hk.ownsRow h.row (fun j hj => ?_), he, h.ck, h.cx, ?_, h.Bt⟩
  · have : gc = j := by simpa [Value.ownBlock] using hj
    subst this; exact n2
  · rcases hp with e | ⟨j, e, hj⟩
    · rw [e]; exact h.cp
    · rw [e]; intro e2; injection e2 with e2; omega
theorem TEnc.stored {w : World} {B gt gc gk gb gx gp n k x : Nat} {vb vp : Value} {s : ES} (h : TEnc w B gt gc gk gb gx gp n k x vb vp s) (i : Nat) (hi : i < s.ch.length) (z : Int) :
    TEnc (w.setCell ⟨gc, i, none⟩ (.int .i64 z)) B gt gc gk gb gx gp n k x vb vp ⟨s.bl, s.pl, s.ch.set i z, s.r⟩ := by
  obtain ⟨CC, hCC⟩ := row_block h.row
  have hk : Keeps (fun j => j = gc) w (w.setCell ⟨gc, i, none⟩ (.int .i64 z)) := (Keeps.refl (fun j => j = gc) w).setCell (p := ⟨gc, i, none⟩) (.inr rfl) _
  have e := h.eb
  refine ⟨?_, ?_, ⟨hk.heap e.bk (fun q => h.ck q.symm), hk.heap e.bb (fun q => block_ne e.bb hCC (by decide) q), hk.heap e.bx (fun q => h.cx q.symm), hk.heap e.bp (fun q => block_ne e.bp hCC (by decide) q), ?_, ?_, e.kx, e.pk, e.px, e.Bk, e.Bb, e.Bx, e.Bp⟩, h.ck, h.cx, h.cp, h.Bt⟩
  · simp only [List.length_set]
    exact hk.heap h.tree (fun q => block_ne h.tree hCC (by decide) q)
  · have := OwnS.set_int h.row i z hi
    simp only [List.length_set]
    exact this
  · exact hk.ownsRow e.rb (fun j hj q => own_ne e.rb hCC (by decide) (by rw [hj, q]))
  · exact hk.ownsRow e.rp (fun j hj q => h.cp (by rw [hj, q]))
theorem TEnc.rowed {w : World} {B gt gc gk gb gx gp n k x : Nat} {vb vp : Value} {s : ES} (h : TEnc w B gt gc gk gb gx gp n k x vb vp s) (r : Nat) : TEnc w B gt gc gk gb gx gp n k x vb vp ⟨s.bl, s.pl, s.ch, r⟩ := ⟨h.tree, h.row, h.eb, h.ck, h.cx, h.cp, h.Bt⟩
set_option maxHeartbeats 3200000 in
theorem tNumE (w : World) (B gt gc gk gb gx gp n x : Nat) (vb vp : Value) (s : ES) (hn : n ≤ 9) (hx : x < 2 ^ n) (hB : B ≤ w.heap.size) (hbl : s.bl.length ≤ 500000) (h : TEnc w B gt gc gk gb gx gp n n x vb vp s) (hf : FineE s (2 ^ n) 0) (h1 : s.r = 1) :
    Calls Try.prog 32 #[.pointer (some ⟨gt, 0, none⟩)] w fun e w' => ∃ z vb' vp', e = .returned (.int .i64 z) ∧ TEnc w' B gt gc gk gb gx gp n 0 x vb' vp' (stepsE 0 x n s n) ∧ Below B w w' := by
  have hp9 : 2 ^ n ≤ 512 := Nat.pow_le_pow_right (n := 2) (by decide) hn
  have HF := Lib.hid (fineE_steps (o := 0) (n := n) hf (by omega) x)
  have HL := Lib.hid (stepsE_len 0 x n s)
  have HT0 := Lib.hid h
  have c1 : w.cell? ⟨gt, 1, none⟩ = some (.int .i64 n) := cell_lit h.tree 1 _ rfl
  have HR := Lib.hid h1
  have HX := Lib.hid hx
  clear h hf h1 hx hp9
  go_enter Try.func32, Try.ntmps32
  go_wp2_with fail
  go_loopw [3, 9] (fun r i wr => ∃ j : Nat, j ≤ n ∧ i = .int .i64 j ∧ r = .int .i64 ((stepsE 0 x n s j).r : Nat) ∧ ∃ ub up, TEnc wr B gt gc gk gb gx gp n (n - j) x ub up (stepsE 0 x n s j) ∧ Below B w wr) (fun _ i _ => n - (intOf i).toNat)
  case atStart => exact ⟨0, Nat.zero_le _, rfl, by show _ = Value.int .i64 ((s.r : Nat) : Int); rw [HR.out]; rfl, vb, vp, HT0.out, Below.refl _ _⟩
  case round =>
    obtain ⟨j, hj, rfl, rfl, ub, up, ht, hb⟩ := hrel
    by_cases hlt : j < n
    · obtain ⟨hr, Z, hZ, hz1, hz2⟩ := fineE_at (o := 0) (n := n) (HF.out j hj) hlt (by omega)
      rw [Nat.zero_add] at hr hZ
      have hlen := HL.out j
      have hlen2 := (HF.out j hj).2.2.2.2.1
      have HST := Lib.hid (show stepsE 0 x n s (j + 1) = stepE 0 (bitAt x n j) (stepsE 0 x n s j) from rfl)
      have hx5 : x ≤ 1000000 := by have := HX.out; have : 2 ^ n ≤ 2 ^ 9 := Nat.pow_le_pow_right (by decide) hn; omega
      have HR0 : (stepsE 0 x n s j).r ≤ 512 := by
        have h5 := (HF.out j hj).2.2.2.1
        have : 2 ^ (j + 1) ≤ 2 ^ 9 := Nat.pow_le_pow_right (by decide) (by omega)
        omega
      obtain ⟨kk, hkk⟩ : ∃ kk, n - j = kk + 1 := ⟨n - j - 1, by omega⟩
      obtain ⟨T, hT⟩ : ∃ T, stepsE 0 x n s j = T := ⟨_, rfl⟩
      rw [hT] at ht hr hZ HST HR0 hlen hlen2 ⊢
      rw [hkk] at ht
      have g0 := cell_lit ht.tree 0 _ rfl
      have g2 := cell_lit ht.tree 2 _ rfl
      have cr := OwnS.int_cell ht.row T.r hr
      rw [hZ] at cr
      obtain ⟨BT, hBT⟩ : ∃ BT, bitK x kk = BT := ⟨_, rfl⟩
      have hBA : bitAt x n j = BT := by rw [← hBT]; unfold bitAt bitK; rw [show n - 1 - j = kk by omega]
      have CA := Lib.hid (fun W (h : EB W B gk gb gx gp (kk + 1) x ub up T.bl T.pl) (hW : B ≤ W.heap.size) => tAskE W B gk gb gx gp kk x ub up T.bl T.pl (Z : Int) h hW (by omega) hx5 (by omega) (by omega))
      rw [hBT] at CA
      rw [hBA] at HST
      have HST2 := Lib.hid (show stepE 0 BT T = ⟨T.bl ++ [BT], T.pl ++ [(Z : Int)], T.ch.set T.r (updB Z BT : Nat), 2 * T.r + if BT then 1 else 0⟩ by unfold stepE; rw [Nat.zero_add, hZ]; rfl)
      have hZ' := Lib.hid hZ
      have HR5 := Lib.hid (show T.r ≤ 512 from HR0)
      have HT1 := Lib.hid ht
      have HB1 := Lib.hid hb
      have hkn : n - (j + 1) = kk := by omega
      have HKN := Lib.hid hkn
      have HBs := Lib.hid hB
      have HBW := Lib.hid (show B ≤ wr.drew.heap.size from Nat.le_trans hB hb.size)
      clear hBT hBA hZ HR0 hT ht hb hkn hlen hlen2 hkk hB
      go_wp2_with fail
      go_cut [4] from 11 to 46 (fun s4 wc => s4 = .bool BT ∧ ∃ ub' up', TEnc wc B gt gc gk gb gx gp n kk x ub' up' ⟨T.bl ++ [BT], T.pl ++ [(Z : Int)], T.ch, T.r⟩ ∧ Below B w wc)
      case first =>
        go_region_with (go_at_call 31; refine (CA.out wr.drew HT1.out.eb.drew HBW.out).mono ?_; rintro e w5 ⟨ub', up', rfl, he5, hk5, hp5⟩)
        all_goals
          go_wp2_with fail
          go_meet
          case rel => exact ⟨rfl, ub', up', TEnc.asked (w := wr) HT1.out he5 ((Keeps.refl _ wr).drew.trans hk5) hp5, HB1.out.drew.trans (hk5.below (fun q hq => ⟨by have := HB1.out.size; have := HBs.out; show q < wr.heap.size; omega, by
            have e := HT1.out.eb
            rintro (r | r | r | r | r)
            · have := e.Bk; omega
            · have := e.Bb; omega
            · have := e.Bp; omega
            · have := (World.ownsRow.lt e.rb q r).1; omega
            · have := (World.ownsRow.lt e.rp q r).1; omega⟩))⟩
      case rest =>
        obtain ⟨rfl, ub', up', ht5, hb5⟩ := hcut
        clear cr g0 g2 CA HT1
        have g0 := cell_lit ht5.tree 0 _ rfl
        have cr := OwnS.int_cell ht5.row T.r hr
        simp only at g0 cr
        rw [hZ'.out] at cr
        have fr := ht5.row.free T.r
        have HB5 := Lib.hid (hb5.setCell (p := ⟨gc, T.r, none⟩) ht5.Bc (.int .i64 (updB Z BT : Nat)))
        have CU := Lib.hid (fun W => pUpdate Z ⟨hz1, hz2⟩ BT W)
        have HT6 := Lib.hid (ht5.stored T.r hr (updB Z BT : Nat))
        clear ht5 hb5
        have hr512 : T.r ≤ 512 := HR5.out
        go_wp2_with fail
        go_cut [] from 11 to 46 (fun wx => TEnc wx B gt gc gk gb gx gp n kk x ub' up' ⟨T.bl ++ [BT], T.pl ++ [(Z : Int)], T.ch.set T.r (updB Z BT : Nat), T.r⟩ ∧ Below B w wx)
        case first =>
          go_region_with (go_at_call 51; (with_reducible refine (CU.out _).mono ?_); rintro e w6 ⟨rfl, rfl⟩)
          all_goals
            go_wp2_with fail
            go_meet
            case rel => exact ⟨HT6.out.drew, HB5.out.drew⟩
        case rest =>
          obtain ⟨ht7, hb7⟩ := hcut
          have HTX := Lib.hid ht7
          have HBX := Lib.hid hb7
          have HSS := Lib.hid (HST.out.trans HST2.out)
          clear ht7 hb7 g0 cr fr HB5 HT6 CU
          cases BT with
          | true =>
            go_wp2_with fail
            go_roundw
            case rel => exact ⟨j + 1, by omega, by go_num, by rw [HSS.out]; go_num, ub', up', by rw [HSS.out, HKN.out]; exact HTX.out.rowed _, HBX.out⟩
            case measure => simp [intOf]; omega
          | false =>
            go_wp2_with fail
            go_roundw
            case rel => exact ⟨j + 1, by omega, by go_num, by rw [HSS.out]; go_num, ub', up', by rw [HSS.out, HKN.out]; exact HTX.out.rowed _, HBX.out⟩
            case measure => simp [intOf]; omega
    · obtain rfl : j = n := by omega
      have HTT := Lib.hid ht
      have HBB := Lib.hid hb
      have c1' : wr.cell? ⟨gt, 1, none⟩ = some (.int .i64 j) := cell_lit ht.tree 1 _ rfl
      clear ht hb c1
      go_wp2_with fail
      go_ret
      exact ⟨_, ub, up, rfl, by rw [Nat.sub_self] at HTT; exact HTT.out, HBB.out⟩
end Go.Proofs.Ytedmnlfbmmlcbaa

/- Layer 46: numbers as bytes. -/
namespace Go.Proofs.Ytedmnlfbmmlcbaa
open Go.ChangeShapes Go.WideShapes Go.ChangeAt Go.RowKit
set_option linter.unusedVariables false
set_option maxRecDepth 100000
open Range
theorem tEncodeArg (v : Value) (n : Int) (hn : n < 1 ∨ 9 < n) (w : World) : Calls Try.prog 13 #[v, .int .i64 n] w fun e w' => e = .returned (.tuple #[.string ⟨#[]⟩, .int .i64 1]) ∧ w' = w := by
  rcases hn with h | h
  · have hd : decide (n < 1) = true := by simpa using h
    go_enter Try.func13, Try.ntmps13
    go_wp2_with fail
    go_ret2
    exact ⟨rfl, rfl⟩
  · have hd : decide (n < 1) = false := by simp; omega
    have hd2 : decide (9 < n) = true := by simpa using h
    go_enter Try.func13, Try.ntmps13
    go_wp2_with fail
    go_ret2
    exact ⟨rfl, rfl⟩
/-- Between numbers. -/
structure TMid (w : World) (B gt gc gb gp n : Nat) (vb vp : Value) (s : ES) : Prop where
  tree : ∃ ask, w.heap[gt]? = some (.cells #[.slice (some ⟨gc, 0, none⟩) s.ch.length s.ch.length, .int .i64 n, ask] 59 (0, 0))
  row : OwnI B w (.slice (some ⟨gc, 0, none⟩) s.ch.length s.ch.length) s.ch
  bb : w.heap[gb]? = some (.cells #[vb] 54 (0, 0))
  bp : w.heap[gp]? = some (.cells #[vp] 29 (0, 0))
  rb : OwnB B w vb s.bl
  rp : OwnI B w vp s.pl
  cp : vp.ownBlock ≠ some gc
  Bt : B ≤ gt
  Bb : B ≤ gb
  Bp : B ≤ gp
theorem TMid.start {w : World} {B gt gc gb gp n : Nat} {vb vp : Value} {s : ES} (h : TMid w B gt gc gb gp n vb vp s) (Z : Nat) (hB : B ≤ w.heap.size) :
    TEnc (((w.alloc (.cells #[.int .i64 Z] 3)).alloc (.cells #[.int .i64 n] 3)).setCell ⟨gt, 2, none⟩ (askE (w.heap.size + 1) gb w.heap.size gp)) B gt gc (w.heap.size + 1) gb w.heap.size gp n n Z vb vp ⟨s.bl, s.pl, s.ch, 1⟩ ∧
    Below B w (((w.alloc (.cells #[.int .i64 Z] 3)).alloc (.cells #[.int .i64 n] 3)).setCell ⟨gt, 2, none⟩ (askE (w.heap.size + 1) gb w.heap.size gp)) := by
  obtain ⟨ask, ht⟩ := h.tree
  obtain ⟨CC, hCC⟩ := row_block h.row
  have lt := block_lt ht
  have lc := block_lt hCC
  obtain ⟨W, hW⟩ : ∃ W, (w.alloc (.cells #[.int .i64 Z] 3)).alloc (.cells #[.int .i64 n] 3) = W := ⟨_, rfl⟩
  have hb : Below w.heap.size w W := by rw [← hW]; go_grown
  have h1 : W.heap[w.heap.size]? = some (.cells #[.int .i64 Z] 3 (0, 0)) := by rw [← hW]; exact heap_two_first _ _ _
  have h2 : W.heap[w.heap.size + 1]? = some (.cells #[.int .i64 n] 3 (0, 0)) := by rw [← hW]; exact heap_two_last _ _ _
  rw [hW]
  have ht' := (hb.block gt lt).trans ht
  have hk : Keeps (fun j => j = gt) W (W.setCell ⟨gt, 2, none⟩ (askE (w.heap.size + 1) gb w.heap.size gp)) := (Keeps.refl (fun j => j = gt) W).setCell (p := ⟨gt, 2, none⟩) (.inr rfl) _
  have lp : ∀ j, vp.ownBlock = some j → j < w.heap.size := fun j hj => (World.ownsRow.lt h.rp j hj).2
  have hbb := (hb.block _ (block_lt h.bb)).trans h.bb
  have hbp := (hb.block _ (block_lt h.bp)).trans h.bp
  have hrb := OwnS.kept h.rb hb
  have hrp := OwnS.kept h.rp hb
  have hrc := OwnS.kept h.row hb
  refine ⟨⟨block_set ht' 2 _, hk.ownsRow hrc (fun j hj q => ?_), ⟨hk.heap h2 (by show ¬ w.heap.size + 1 = gt; omega), hk.heap hbb (fun q => block_ne hbb ht' (by decide) q), hk.heap h1 (by show ¬ w.heap.size = gt; omega), hk.heap hbp (fun q => block_ne hbp ht' (by decide) q),
    hk.ownsRow hrb (fun j hj q => own_ne hrb ht' (by decide) (by rw [hj, q])), hk.ownsRow hrp (fun j hj q => own_ne hrp ht' (by decide) (by rw [hj, q])), by omega, fun q => ?_, fun q => ?_, by omega, h.Bb, by omega, h.Bp⟩, by omega, by omega, h.cp, h.Bt⟩, (hb.mono hB).setCell (p := ⟨gt, 2, none⟩) h.Bt _⟩
  · have e : gc = j := by simpa [Value.ownBlock] using hj
    have q' : j = gt := q
    exact block_ne hCC ht (by decide) (by omega)
  · have := lp _ q; omega
  · have := lp _ q; omega
theorem TEnc.mid {w : World} {B gt gc gk gb gx gp n k x : Nat} {vb vp : Value} {s : ES} (h : TEnc w B gt gc gk gb gx gp n k x vb vp s) : TMid w B gt gc gb gp n vb vp s :=
  ⟨⟨_, h.tree⟩, h.row, h.eb.bb, h.eb.bp, h.eb.rb, h.eb.rp, h.cp, h.Bt, h.eb.Bb, h.eb.Bp⟩
theorem inB_take {n k : Nat} {l : List Int} (h : inB n (l.take k) = true) (hk : k < l.length) (h1 : 0 ≤ l.getD k 0) (h2 : l.getD k 0 < ((2 ^ n : Nat) : Int)) : inB n (l.take (k + 1)) = true := by
  rw [take_getD l k hk]
  unfold inB at *
  rw [List.all_append, h]
  simp only [List.all_cons, List.all_nil, Bool.and_true, Bool.true_and, Bool.and_eq_true, decide_eq_true_eq]
  exact ⟨h1, h2⟩
theorem inB_no {n k : Nat} {l : List Int} (hk : k < l.length) (h : l.getD k 0 < 0 ∨ ((2 ^ n : Nat) : Int) ≤ l.getD k 0) : inB n l = false := by
  rw [← Bool.not_eq_true]
  intro h2
  have := inB_at h2 (l.getD k 0) (by simp [List.getD_eq_getElem?_getD, hk])
  omega
set_option maxHeartbeats 1600000 in
theorem tEncode (a : Option Addr) (c : Nat) (l : List Int) (n : Nat) (hn1 : 1 ≤ n) (hn : n ≤ 9) (hl : l.length ≤ 10000) (w : World) (h : IsInts w a l) (S : List UInt8) (E : Int) (hr : encB l n = (S, E)) :
    Calls Try.prog 13 #[.slice a l.length c, .int .i64 n] w fun e w' => e = .returned (.tuple #[.string (sB S), .int .i64 E]) ∧ Below w.heap.size w w' := by
  have hN9 : 2 ^ n ≤ 512 := Nat.pow_le_pow_right (n := 2) (by decide) hn
  have hW : wrap64 ((2 : Int) ^ n) = ((2 ^ n : Nat) : Int) := by
    have e1 : (2 : Int) ^ n = ((2 ^ n : Nat) : Int) := by simp
    rw [e1]; unfold wrap64; generalize 2 ^ n = q at *; omega
  have HE := Lib.hid hr
  have HI := Lib.hid h
  have hq1 : decide ((n : Int) < 1) = false := by simp; omega
  have hq2 : decide ((9 : Int) < (n : Int)) = false := by simp; omega
  have C2 := Lib.hid (fun W => tNew n hn W)
  have HWN := Lib.hid hW
  obtain ⟨N, hN⟩ : ∃ N, 2 ^ n = N := ⟨_, rfl⟩
  rw [hN] at hW hN9
  have HN := Lib.hid hN
  clear hr h hN
  go_enter Try.func13, Try.ntmps13
  go_wp2_with fail
  clear hq1 hq2
  go_loopw [22] (fun i wr => ∃ k : Nat, k ≤ l.length ∧ i = .int .i64 k ∧ Hid (inB n (l.take k) = true) ∧ wr = w) (fun i _ => l.length - (intOf i).toNat)
  case atStart => exact ⟨0, Nat.zero_le _, rfl, Lib.hid (by simp [inB]), rfl⟩
  case round =>
    obtain ⟨k, hk, rfl, HT, rfl⟩ := hrel
    by_cases hlt : k < l.length
    · obtain ⟨x, rfl, -, hx⟩ := HI.out.at k hlt
      have cx := hx k hlt
      have HTN := Lib.hid (fun h1 h2 => inB_take HT.out hlt h1 h2)
      have HNO := Lib.hid (fun h => inB_no (n := n) hlt h)
      obtain ⟨Z, hZ⟩ : ∃ Z, l.getD k 0 = Z := ⟨_, rfl⟩
      rw [hZ] at cx HTN HNO
      rw [HN.out] at HTN HNO
      clear hx hZ
      by_cases h1 : Z < 0
      · have HB := Lib.hid (HNO.out (.inl h1))
        have hEE : S = [] ∧ E = 2 := by
          have := HE.out
          unfold encB at this
          rw [if_neg (by omega), Int.toNat_natCast, HB.out, if_pos rfl] at this
          simpa using this.symm
        obtain ⟨rfl, rfl⟩ := hEE
        go_wp2_with fail
        go_ret2
        exact ⟨rfl, Below.refl _ _⟩
      · by_cases h2 : (N : Int) ≤ Z
        · have HB := Lib.hid (HNO.out (.inr h2))
          have hEE : S = [] ∧ E = 2 := by
            have := HE.out
            unfold encB at this
            rw [if_neg (by omega), Int.toNat_natCast, HB.out, if_pos rfl] at this
            simpa using this.symm
          obtain ⟨rfl, rfl⟩ := hEE
          go_wp2_with fail
          go_ret2
          exact ⟨rfl, Below.refl _ _⟩
        · have HT2 := Lib.hid (HTN.out (by omega) (by omega))
          go_wp2_with fail
          go_roundw
          case rel => exact ⟨k + 1, by omega, by go_num, HT2, by first | trivial | rfl⟩
          case measure => simp [intOf]; omega
    · obtain rfl : k = l.length := by omega
      have HA := Lib.hid (show inB n l = true by have := HT.out; rwa [List.take_length] at this)
      have HES := Lib.hid (show S = told (pr (numsE n (e0 (2 ^ n)) (nats l))) ∧ E = 0 by
        have := HE.out
        unfold encB at this
        rw [if_neg (by omega), Int.toNat_natCast, HA.out, if_neg (by decide)] at this
        simpa [eq_comm] using this)
      clear hW HE
      go_wp2_with fail
      refine (C2.out _).mono ?_; rintro e w2 ⟨gt, rfl, ht2, hb2, hg3, hg4⟩
      obtain ⟨gc, t1, t2, t3⟩ := ht2
      obtain ⟨B, hB⟩ : ∃ B, wr.heap.size = B := ⟨_, rfl⟩
      have hs2 : ((wr.alloc (.cells #[.slice none 0 0] 54)).alloc (.cells #[.slice none 0 0] 29)).heap.size = wr.heap.size + 2 := by simp
      rw [hs2] at hb2 t2 hg3
      have hb2' : Below B wr w2 := by rw [← hB]; exact ((((Below.refl _ _).alloc (Nat.le_refl _) _).alloc (by simp) _).trans (hb2.mono (by omega)))
      have htm : TMid w2 B gt gc B (B + 1) n (.slice none 0 0) (.slice none 0 0) (numsE n (e0 (2 ^ n)) []) := by
        refine ⟨⟨.nilFunc, t1⟩, t2.base (by omega), ?_, ?_, OwnS.nil, OwnS.nil, by simp [Value.ownBlock], by omega, by omega, by omega⟩
        · rw [← hB]; exact (hb2.block _ (by omega)).trans (heap_two_first _ _ _)
        · rw [← hB]; exact (hb2.block _ (by omega)).trans (heap_two_last _ _ _)
      have HTM := Lib.hid htm
      have HB2 := Lib.hid hb2'
      have HMID := Lib.hid (fun xs => (numsE_mid (n := n) (mid0 (2 ^ n)) (Nat.le_refl _) xs).1)
      have HLEN := Lib.hid (fun xs => numsE_len n (e0 (2 ^ n)) xs)
      have HSN := Lib.hid (fun xs x => numsE_snoc n (e0 (2 ^ n)) xs x)
      have HIB := Lib.hid (inB_at HA.out)
      obtain ⟨ES0, hES0⟩ : ∃ ES0, e0 (2 ^ n) = ES0 := ⟨_, rfl⟩
      have hES0b : ES0.bl.length = 0 := by rw [← hES0]; rfl
      rw [hES0] at HTM HMID HLEN HSN HES
      have HBe := Lib.hid (Nat.le_of_eq hB)
      have hmf : ∀ (fn : Fn) (first cap : Array Value) (w : World), (Instr.makeFunc fn first cap).run Try.prog w = .ok (.func fn first cap) w := fun _ _ _ _ => rfl
      clear t1 t2 t3 hb2 hb2' htm hs2 hES0 hg3 hg4 C2 hlt HT
      rw [hB]
      go_wp2_with fail
      go_loopw [39] (fun i wx => ∃ k : Nat, k ≤ l.length ∧ i = .int .i64 k ∧ ∃ vb vp, TMid wx B gt gc B (B + 1) n vb vp (numsE n ES0 ((nats l).take k)) ∧ Below B wr wx) (fun i _ => l.length - (intOf i).toNat)
      case atStart => exact ⟨0, Nat.zero_le _, rfl, _, _, HTM.out, HB2.out⟩
      case round =>
        obtain ⟨k, hk, rfl, vb, vp, htm, hb⟩ := hrel
        obtain ⟨w5, hw5⟩ : ∃ w5 : World, w5 = wr := ⟨_, rfl⟩
        subst hw5
        by_cases hlt : k < l.length
        · obtain ⟨x, rfl, hxb, hx⟩ := HI.out.at k hlt
          have hxk : (x.add k).block < B := by rw [add_block]; exact Nat.lt_of_lt_of_le hxb HBe.out
          have cx := (hb.cell (p := x.add k) hxk).trans (hx k hlt)
          have hmem : l.getD k 0 ∈ l := by simp [List.getD_eq_getElem?_getD, hlt]
          have hzb := HIB.out _ hmem
          have HNT := Lib.hid (nats_take l k hlt)
          obtain ⟨Z, hZ⟩ : ∃ Z, l.getD k 0 = Z := ⟨_, rfl⟩
          rw [hZ] at cx hzb HNT
          obtain ⟨xn, rfl⟩ : ∃ xn : Nat, Z = xn := ⟨Z.toNat, by omega⟩
          rw [Int.toNat_natCast] at HNT
          have hxn : xn < 2 ^ n := by omega
          have HSX := Lib.hid (HSN.out ((nats l).take k) xn)
          rw [← HNT.out] at HSX
          have hmid := HMID.out ((nats l).take k)
          have hlen := HLEN.out ((nats l).take k)
          rw [hES0b] at hlen
          have hlen2 : (numsE n ES0 ((nats l).take k)).bl.length ≤ 90000 := by
            have e1 : ((nats l).take k).length ≤ 10000 := by rw [List.length_take, nats_len]; omega
            have e2 : n * ((nats l).take k).length ≤ 9 * 10000 := Nat.mul_le_mul hn e1
            omega
          obtain ⟨SK, hSK⟩ : ∃ SK, numsE n ES0 ((nats l).take k) = SK := ⟨_, rfl⟩
          rw [hSK] at htm HSX hmid hlen2
          have HSX2 := Lib.hid (show numE 0 n SK xn = stepsE 0 xn n ⟨SK.bl, SK.pl, SK.ch, 1⟩ n from rfl)
          have hBw : B ≤ w5.heap.size := by have := hb.size; have := HBe.out; omega
          obtain ⟨hst1, hst2⟩ := htm.start xn hBw
          obtain ⟨ask, ht⟩ := htm.tree
          have c2 := cell_lit ht 2 _ rfl
          have f2 := free_in ht 2
          have hgt := block_lt ht
          have hcom : (((w5.alloc (.cells #[.int .i64 xn] 3)).alloc (.cells #[.int .i64 n] 3)).setCell ⟨gt, 2, none⟩ (askE (w5.heap.size + 1) B w5.heap.size (B + 1))) = (((w5.setCell ⟨gt, 2, none⟩ (askE (w5.heap.size + 1) B w5.heap.size (B + 1))).alloc (.cells #[.int .i64 xn] 3)).alloc (.cells #[.int .i64 n] 3)) := by
            rw [World.setCell_alloc_past _ _ _ _ (by simp; omega), World.setCell_alloc_past _ _ _ _ hgt]
          rw [hcom] at hst1 hst2
          have HNUM := Lib.hid (tNumE _ B gt gc (w5.heap.size + 1) B w5.heap.size (B + 1) n xn vb vp ⟨SK.bl, SK.pl, SK.ch, 1⟩ hn hxn (Nat.le_trans hBw hst2.size) (by show SK.bl.length ≤ 500000; omega) hst1 hmid.fine rfl)
          have HBX := Lib.hid (hb.trans hst2)
          clear hx hZ hmem hzb hlen hlen2 hSK hst1 hst2 htm hb ht hmid HNT
          go_wp2_with fail
          (with_reducible refine (HNUM.out).mono ?_); rintro e w6 ⟨z, vb', vp', rfl, hte, hb6⟩
          have HTM2 := Lib.hid hte.mid
          have HB6 := Lib.hid (HBX.out.trans hb6)
          clear hte hb6 c2 f2
          go_wp2_with fail
          go_roundw
          case rel => exact ⟨k + 1, by omega, by go_num, vb', vp', by rw [HSX.out, HSX2.out]; exact HTM2.out, HB6.out⟩
          case measure => simp [intOf]; omega
        · obtain rfl : k = l.length := by omega
          have hlen := HLEN.out (nats l)
          have hmid := HMID.out (nats l)
          rw [List.take_of_length_le (show (nats l).length ≤ l.length by rw [nats_len]; exact Nat.le_refl _)] at htm
          have hBL : (numsE n ES0 (nats l)).bl.length ≤ 100000 := by
            have e2 : n * (nats l).length ≤ 9 * 10000 := Nat.mul_le_mul hn (by rw [nats_len]; omega)
            rw [hES0b] at hlen
            omega
          obtain ⟨SL, hSL⟩ : ∃ SL, numsE n ES0 (nats l) = SL := ⟨_, rfl⟩
          rw [hSL] at htm hmid hBL HES
          have hpl : SL.pl.length ≤ 100000 := by have := hmid.2.2.1; omega
          have GB := Lib.hid (OwnB.isB htm.rb)
          have GP := Lib.hid (htm.rp.isL (by omega))
          have cb := cell_lit htm.bb 0 _ rfl
          have cp := cell_lit htm.bp 0 _ rfl
          have HES2 := Lib.hid (show encS SL.bl SL.pl = (S, E) by
            unfold encS
            rw [if_neg (by have := hmid.2.2.1; omega), hmid.2.2.2, if_neg (by decide), HES.out.1, HES.out.2]; rfl)
          have hsz : B ≤ w5.heap.size := by have := hb.size; have := HBe.out; omega
          have HBB := Lib.hid hb
          clear hb hmid hlen hSL HES hBL htm
          go_wp2_with fail
          refine (gEncodeT GB.out GP.out hpl S E HES2.out).mono ?_; rintro e w7 ⟨rfl, hb7⟩
          have HB7 := Lib.hid (HBB.out.trans (hb7.mono hsz))
          clear hb7
          go_wp2_with fail
          go_ret2
          exact ⟨rfl, HB7.out.mono HBe.out⟩
end Go.Proofs.Ytedmnlfbmmlcbaa

/- Layer 46: the document's numbers out of bytes. -/
namespace Go.Proofs.Ytedmnlfbmmlcbaa
open Go.ChangeShapes Go.WideShapes Go.ChangeAt Go.RowKit
set_option linter.unusedVariables false
set_option maxRecDepth 100000
open Range
theorem stepsT_dlen (s : TS) : ∀ j, (stepsT s j).d.s.length ≤ s.d.s.length
  | 0 => Nat.le_refl _
  | j + 1 => Nat.le_trans (stepD_len _ _) (stepsT_dlen s j)
theorem stD_dlen (n : Nat) (s : TS) : ∀ k, (stD n s k).d.s.length ≤ s.d.s.length
  | 0 => Nat.le_refl _
  | k + 1 => by
    show (numD 0 n (stD n s k)).d.s.length ≤ _
    rw [numD_eq]
    exact Nat.le_trans (stepsT_dlen _ _) (stD_dlen n s k)
theorem row_same {w w' : World} {B gc n c : Nat} {l : List Int} (h : OwnI B w (.slice (some ⟨gc, 0, none⟩) n c) l) (e : w'.heap[gc]? = w.heap[gc]?) : OwnI B w' (.slice (some ⟨gc, 0, none⟩) n c) l := by
  refine ⟨h.1, ?_⟩
  rcases h.2 with hn | ⟨g, cap, cur, e1, hbb, hgg, rest⟩
  · exact .inl hn
  · have : gc = g := by injection e1 with e1 _ _; injection e1 with e1; injection e1
    subst this
    exact .inr ⟨gc, cap, cur, e1, hbb, e.trans hgg, rest⟩
theorem wrap_row (r j : Nat) (hj : j ≤ 9) (h : r < 2 ^ (j + 1)) : wrap64 ((r : Int) - wrap64 ((2 : Int) ^ j)) = (r : Int) - ((2 ^ j : Nat) : Int) := by
  have e1 : (2 : Int) ^ j = ((2 ^ j : Nat) : Int) := by simp
  have hp : 2 ^ j ≤ 2 ^ 9 := Nat.pow_le_pow_right (by decide) hj
  have e2 : 2 ^ (j + 1) = 2 ^ j * 2 := Nat.pow_succ ..
  rw [e1]
  rw [e2] at h
  generalize 2 ^ j = p at *
  have e3 : wrap64 (p : Int) = p := by unfold wrap64; omega
  rw [e3]
  unfold wrap64
  omega
end Go.Proofs.Ytedmnlfbmmlcbaa
