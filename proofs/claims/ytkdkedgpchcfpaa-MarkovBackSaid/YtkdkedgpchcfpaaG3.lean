/- Layer 45: the decoder: Bit. -/
import Derived.Test.YtkdkedgpchcfpaaG2
import Derived.Deep.LoopGhost
namespace Go.Proofs.Ytkdkedgpchcfpaa
open Go.ChangeShapes Go.WideShapes Go.ChangeAt Go.RowKit Go.Deep
set_option linter.unusedVariables false
set_option maxRecDepth 100000
open Range

theorem gBitNone (p : Int) (w : World) : Calls Try.prog 22 #[.pointer none, .int .i64 p] w fun e w' => e = .returned (.tuple #[.bool false, .int .i64 1]) ∧ w' = w := by
  go_enter Try.func22, Try.ntmps22
  go_wp2
  go_ret2
  exact ⟨rfl, rfl⟩
theorem gBitOut (a : Addr) (p : Int) (w : World) (h : okB p = false) : Calls Try.prog 22 #[.pointer (some a), .int .i64 p] w fun e w' => e = .returned (.tuple #[.bool false, .int .i64 2]) ∧ w' = w := by
  have C := Lib.hid (gChance p w)
  rw [h] at C
  clear h
  go_enter Try.func22, Try.ntmps22
  go_wp2_with fail
  refine C.out.mono ?_; rintro e w1 ⟨rfl, rfl⟩
  go_wp2_with fail
  go_ret2
  exact ⟨rfl, rfl⟩
/-- On the way to T. -/
def Going (T : Dec) (f : Nat) (d : Dec) : Prop :=
  Wide f d.a d.b ∧ d.x < 4294967296 ∧ (sttl f d.a d.b).2.1 = T.a ∧ (sttl f d.a d.b).2.2 = T.b ∧ moves (sttl f d.a d.b).1.length d.x d.s = (T.x, T.s)
theorem going_next {T d : Dec} {f : Nat} (h : Going T f d) (hs : sett d.a d.b = true) : ∃ f', f = f' + 1 ∧ Going T f' ⟨d.a % 16777216 * 256, d.b % 16777216 * 256 + 255, (moveB d.x d.s).1, (moveB d.x d.s).2⟩ := by
  obtain ⟨h1, h2, h3, h4, h5⟩ := h
  have he : d.a / 16777216 = d.b / 16777216 := by simpa [sett] using hs
  cases f with
  | zero => exact absurd he (wide0 h1)
  | succ f =>
    rw [settle_yes he] at h3 h4 h5
    exact ⟨f, rfl, wide_next h1 he, move_lt _ _, h3, h4, h5⟩
theorem going_done {T d : Dec} {f : Nat} (h : Going T f d) (hs : sett d.a d.b = false) : d = T := by
  obtain ⟨h1, h2, h3, h4, h5⟩ := h
  have he : d.a / 16777216 ≠ d.b / 16777216 := by simpa [sett] using hs
  rw [settle_no he] at h3 h4 h5
  obtain ⟨a, b, x, s⟩ := d
  obtain ⟨a', b', x', s'⟩ := T
  simp only [List.length_nil, moves, Prod.mk.injEq] at *
  obtain ⟨h5, h6⟩ := h5
  subst h3 h4 h5 h6
  rfl
theorem IsDec.set2 {w : World} {g : Nat} {d : Dec} (h : IsDec w g d) (a b : Nat) : IsDec ((w.setCell ⟨g, 0, none⟩ (.int .u32 a)).setCell ⟨g, 1, none⟩ (.int .u32 b)) g ⟨a, b, d.x, d.s⟩ := by
  obtain ⟨p, C, hg, h1, h2, h3⟩ := h
  refine ⟨p, C, block_set (block_set hg 0 _) 1 _, h1, h2, h3.keeps (((Keeps.refl (fun k => k = g) w).setCell (p := ⟨g, 0, none⟩) (.inr rfl) _).setCell (p := ⟨g, 1, none⟩) (.inr rfl) _)⟩
theorem IsDec.cells {w : World} {g : Nat} {d : Dec} (h : IsDec w g d) : g < w.heap.size ∧ w.cell? ⟨g, 0, none⟩ = some (.int .u32 d.a) ∧ w.cell? ⟨g, 1, none⟩ = some (.int .u32 d.b) ∧ w.cell? ⟨g, 2, none⟩ = some (.int .u32 d.x) ∧
    w.frozen? ⟨g, 0, none⟩ = false ∧ w.frozen? ⟨g, 1, none⟩ = false := by
  obtain ⟨p, C, hg, h1, h2, h3⟩ := h
  exact ⟨block_lt hg, by rw [cell_in hg]; rfl, by rw [cell_in hg]; rfl, by rw [cell_in hg]; rfl, free_in hg 0, free_in hg 1⟩
set_option maxHeartbeats 3200000 in
theorem gBit (w : World) (g : Nat) (d : Dec) (P : Nat) (h : IsDec w g d) (hf : Fine d) (hp : okB P = true) : Calls Try.prog 22 #[.pointer (some ⟨g, 0, none⟩), .int .i64 P] w fun e w' =>
    e = .returned (.tuple #[.bool (bitOf d P), .int .i64 0]) ∧ IsDec w' g (behind d P) ∧ Keeps (fun k => k = g) w w' := by
  have hpp : 1 ≤ P ∧ P ≤ 2047 := by have := okB_yes hp; omega
  have hm := mid_le d.a d.b P hf.1.1 (by omega)
  have hab := apart_lt hf.1
  have hb32 := hf.1.2.1
  have hx := hf.2
  have C1 := Lib.hid (gChance P w)
  rw [hp] at C1
  have C2 := Lib.hid (gMiddle d.a d.b P hf.1.1 hb32 hpp.2 w)
  have hmid := hm.2.2.1 hab
  have hamid := hm.1
  have HT : Hid (∀ a b, (if bitOf d P then mid d.a d.b P + 1 else d.a : Nat) = a → (if bitOf d P then d.b else mid d.a d.b P : Nat) = b → Going (behind d P) 4 ⟨a, b, d.x, d.s⟩) := by
    intro a b ha hb
    have hbh : behind d P = ⟨(sttl 4 a b).2.1, (sttl 4 a b).2.2, (moves (sttl 4 a b).1.length d.x d.s).1, (moves (sttl 4 a b).1.length d.x d.s).2⟩ := by
      subst ha hb
      unfold behind Range.part
      cases bitOf d P <;> rfl
    rw [hbh]
    refine ⟨?_, hx, rfl, rfl, rfl⟩
    subst ha hb
    cases bitOf d P
    · exact wide4 _ _ hamid (by simp only; simp; omega)
    · exact wide4 _ _ (by simp; omega) hb32
  have HBT := Lib.hid (show decide (mid d.a d.b P < d.x) = bitOf d P from rfl)
  obtain ⟨T, hT⟩ : ∃ T, behind d P = T := ⟨_, rfl⟩
  rw [hT] at HT ⊢
  obtain ⟨M, hM⟩ : ∃ M, mid d.a d.b P = M := ⟨_, rfl⟩
  rw [hM] at C2 HT HBT hmid hamid
  obtain ⟨BT, hBT⟩ : ∃ BT, bitOf d P = BT := ⟨_, rfl⟩
  rw [hBT] at HT HBT ⊢
  have CO := Lib.hid (fun w => gOf d.a d.b M BT (by omega) hb32 (fun _ => hmid) (by omega) w)
  obtain ⟨A, hA⟩ : ∃ A, (if BT then M + 1 else d.a : Nat) = A := ⟨_, rfl⟩
  obtain ⟨B, hB⟩ : ∃ B, (if BT then d.b else M : Nat) = B := ⟨_, rfl⟩
  have HG := Lib.hid (HT.out A B hA hB)
  rw [hA, hB] at CO
  obtain ⟨c, c0, c1, c2, f0, f1⟩ := h.cells
  have HD := Lib.hid h
  obtain ⟨da, db, dx, ds⟩ := d
  simp only at *
  have HBT2 := HBT.out
  clear h hf hp hm hT hM hBT HT hA hB HBT
  go_enter Try.func22, Try.ntmps22
  go_wp2_with fail
  refine C1.out.mono ?_; rintro e w1 ⟨rfl, rfl⟩
  go_wp2_with fail
  refine C2.out.mono ?_; rintro e w1 ⟨rfl, rfl⟩
  go_wp2_with fail
  refine (CO.out _).mono ?_; rintro e w2 ⟨rfl, hb2, hz2⟩
  have hbw : Below w1.heap.size w1 w2 := ((Below.refl _ _).alloc (Nat.le_refl _) _).trans (hb2.mono (by simp))
  have hd2 := HD.out.keepsNot hbw
  obtain ⟨gl, c0', c1', c2', f0', f1'⟩ := hd2.cells
  simp only at c0' c1' c2'
  have HS := Lib.hid (hd2.set2 A B)
  have HK := Lib.hid (((Keeps.of_below (S := fun k => k = g) hbw).setCell (p := ⟨g, 0, none⟩) (.inr rfl) (.int .u32 A)).setCell (p := ⟨g, 1, none⟩) (.inr rfl) (.int .u32 B))
  clear HD CO C1 C2 c0 c1 c2 f0 f1 hb2 hz2 hbw hd2
  go_wp2_with fail
  clear c0' c1' c2' f0' f1' HBT2
  go_loopg [] 4 (fun f wr => ∃ d, Going T f d ∧ IsDec wr g d ∧ Keeps (fun k => k = g) w1 wr)
  case atStart => exact ⟨_, HG.out, HS.out, HK.out⟩
  case round =>
    obtain ⟨d', hgo, hd', hk'⟩ := hrel
    have hgn := going_next (T := T) (d := d') (f := gk) hgo
    have hgd := going_done (T := T) (d := d') (f := gk) hgo
    obtain ⟨gl', c0, c1, c2, f0, f1⟩ := hd'.cells
    have hA32 : d'.a < 4294967296 := by have := hgo.1.1; have := hgo.1.2.1; omega
    have hB32 : d'.b < 4294967296 := hgo.1.2.1
    have hX32 := hgo.2.1
    obtain ⟨a', b', x', s'⟩ := d'
    simp only at *
    have CS := Lib.hid (fun w => gSettled a' b' hA32 hB32 w)
    have CW := Lib.hid (fun w => gWithout a' b' hA32 hB32 w)
    have HD := Lib.hid hd'
    have HK := Lib.hid hk'
    obtain ⟨ST, hST⟩ : ∃ ST, sett a' b' = ST := ⟨_, rfl⟩
    rw [hST] at hgn hgd CS
    clear hST hgo hd' hk'
    cases ST with
    | false =>
      have hTT := Lib.hid (hgd rfl)
      clear hgn hgd
      go_wp2_with fail
      refine (CS.out _).mono ?_; rintro e w3 ⟨rfl, rfl⟩
      go_wp2_with fail
      go_ret2
      refine ⟨rfl, ?_, HK.out.alloc _⟩
      have := HD.out.keepsNot ((Below.refl _ wr).alloc (Nat.le_refl _) (.cells #[.int .u32 a', .int .u32 b'] 78))
      rw [hTT.out] at this
      exact this
    | true =>
      obtain ⟨f', rfl, hgo'⟩ := hgn rfl
      have HGO := Lib.hid hgo'
      clear hgd hgo' hgn
      go_wp2_with fail
      refine (CS.out _).mono ?_; rintro e w3 ⟨rfl, rfl⟩
      go_wp2_with fail
      refine (CW.out _).mono ?_; rintro e w4 ⟨rfl, hw4⟩
      have hb4 : Below wr.heap.size wr w4 := by
        rw [hw4]
        exact ((((Below.refl wr.heap.size wr).alloc (Nat.le_refl _) (.cells #[.int .u32 a', .int .u32 b'] 78)).alloc (by simp) (.cells #[.int .u32 a', .int .u32 b'] 78)).alloc (by simp; omega) (.cells #[.int .u32 (a' % 16777216 * 256 : Nat), .int .u32 (b' % 16777216 * 256 + 255 : Nat)] 78))
      have hd4 := HD.out.keepsNot hb4
      obtain ⟨gl4, d0, d1, d2, e0, e1⟩ := hd4.cells
      simp only at d0 d1 d2
      have HD4 := Lib.hid (hd4.set2 (a' % 16777216 * 256) (b' % 16777216 * 256 + 255))
      have HK4 := Lib.hid (((HK.out.trans (Keeps.of_below hb4)).setCell (p := ⟨g, 0, none⟩) (.inr rfl) (.int .u32 (a' % 16777216 * 256 : Nat))).setCell (p := ⟨g, 1, none⟩) (.inr rfl) (.int .u32 (b' % 16777216 * 256 + 255 : Nat)))
      obtain ⟨a2, ha2⟩ : ∃ a2, a' % 16777216 * 256 = a2 := ⟨_, rfl⟩
      obtain ⟨b2, hb2⟩ : ∃ b2, b' % 16777216 * 256 + 255 = b2 := ⟨_, rfl⟩
      rw [ha2, hb2] at HD4 HK4 HGO ⊢
      have CN := Lib.hid (gNext _ g _ HD4.out hX32)
      clear hd4 hb4 hw4 c0 c1 c2 f0 f1 ha2 hb2 CS CW
      go_wp2_with fail
      refine CN.out.mono ?_; rintro e w5 ⟨rfl, hd5, hk5, -⟩
      have HD5 := Lib.hid hd5
      have HK5 := Lib.hid (HK4.out.trans hk5)
      clear hd5 hk5 d0 d1 d2 e0 e1
      go_wp2_with fail
      go_roundg f'
      case rel => exact ⟨_, HGO.out, HD5.out, HK5.out⟩
      case measure => omega
end Go.Proofs.Ytkdkedgpchcfpaa
