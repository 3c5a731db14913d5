/- Layer 22: one contract for each place; the document's examples. -/
import Derived.Test.YtgoplbngfinbdaaN7
import Derived.Test.YtgoplbngfinbdaaM9
namespace Go.Proofs.Ytgoplbngfinbdaa
open Go.ChangeShapes Go.WideShapes Go.ChangeAt Go.RowKit
set_option linter.unusedVariables false
set_option linter.unusedSimpArgs false
set_option maxRecDepth 100000
/-- A finder at a place. -/
def Ft (NN : Nat) (w : World) (g g1 g2 : Nat) (L : List UInt8) (W D i m : Nat) : Prop := ∃ tp lk, IsG NN w g g1 g2 L W D i m tp lk ∧ KnowsT L W m i tp lk
theorem Ft.kept {NN : Nat} {w w' : World} {g g1 g2 : Nat} {L : List UInt8} {W D i m : Nat} (h : Ft NN w g g1 g2 L W D i m) (hb : Below w.heap.size w w') : Ft NN w' g g1 g2 L W D i m := by
  obtain ⟨la, ah, h1, h2⟩ := h
  exact ⟨la, ah, h1.kept hb, h2⟩
theorem Ft.lt {NN : Nat} {w : World} {g g1 g2 : Nat} {L : List UInt8} {W D i m : Nat} (h : Ft NN w g g1 g2 L W D i m) : ∀ k, feetF g g1 g2 k → k < w.heap.size := by
  obtain ⟨la, ah, h1, h2⟩ := h
  rintro k (rfl | rfl | rfl)
  · exact block_lt h1.box
  · exact block_lt h1.ta
  · exact block_lt h1.tb
theorem tNextF (NN : Nat) (w : World) (g g1 g2 : Nat) (L : List UInt8) (W D m i mo : Nat) (most : Int) (h : Ft NN w g g1 g2 L W D i m) (hL : L.length ≤ 100000) (hi : i < L.length) (hW : 1 ≤ W) (hW2 : (W : Int) ≤ 67108864) (hmv : min L.length (W + 1) = m) (hD : L.length ≤ D) (hD2 : (D : Int) ≤ 1000000) (hmo : min (max most 2) 258 = (mo : Int)) (R : List Mt) (hR : (atS L i mo (min i W)).2 = R) :
    Calls Try.prog 37 #[.pointer (some ⟨g, 0, none⟩), .int .i64 most] w fun e w' => ∃ v B', e = .returned (.tuple #[v, .int .i64 i]) ∧ OwnMt B' w' v R ∧ w.heap.size ≤ B' ∧ Ft NN w' g g1 g2 L W D (i + 1) m ∧ Keeps (feetF g g1 g2) w w' := by
  obtain ⟨la, ah, h1, h2⟩ := h
  by_cases hl : i + 1 < L.length
  · refine (tNext NN w g g1 g2 L W D m i mo most la ah h1 h2 hL hl hW hW2 hmv (by omega) hD2 hmo R hR).mono ?_
    rintro e w' ⟨v, la', ah', B', rfl, ho, hB, hf, hk, hK⟩
    exact ⟨v, B', rfl, ho, hB, ⟨la', ah', hf, hk⟩, hK⟩
  · refine (tNextLast NN w g g1 g2 L W D m i la ah h1 (by omega) hL most).mono ?_
    rintro e w' ⟨rfl, hf, hK⟩
    rw [atS_last L i mo (by omega)] at hR
    subst hR
    exact ⟨_, w.heap.size, rfl, OwnS.nil, Nat.le_refl _, ⟨la, ah, hf, h2.last (by omega)⟩, hK⟩
theorem tNewF (NN : Nat) (hNN : NN = 65536) (L : List UInt8) (win dep : Int) (W D m : Nat) (w : World) (hL : L.length ≤ 100000) (hWv : min (max win 1) 67108864 = (W : Int)) (hDv : max dep 1 = (D : Int)) (hmv : min L.length (W + 1) = m) :
    Calls Try.prog 35 #[.string (sM L), .int .i64 win, .int .i64 dep] w fun e w' => ∃ g g1 g2, e = .returned (.pointer (some ⟨g, 0, none⟩)) ∧ Ft NN w' g g1 g2 L W D 0 m ∧ Below w.heap.size w w' ∧ ∀ k, feetF g g1 g2 k → w.heap.size ≤ k := by
  refine (cBNew NN hNN L win dep W D m w hL hWv hDv hmv).mono ?_
  rintro e w' ⟨g, g1, g2, rfl, hf, hb, hlo⟩
  exact ⟨g, g1, g2, rfl, ⟨_, _, hf, by rw [hNN]; exact KnowsT.start L W m⟩, hb, hlo⟩
theorem tEndF (NN : Nat) (w : World) (g g1 g2 : Nat) (L : List UInt8) (W D m : Nat) (h : Ft NN w g g1 g2 L W D L.length m) (most : Int) :
    Calls Try.prog 37 #[.pointer (some ⟨g, 0, none⟩), .int .i64 most] w fun e w' => e = .returned (.tuple #[.slice none 0 0, .int .i64 (-1)]) ∧ ∃ k, w' = w.drewN k := by
  obtain ⟨la, ah, h1, -⟩ := h
  exact tNextEnd NN w g g1 g2 L W D m la ah h1 most
theorem Ft.drewN {NN : Nat} {w : World} {g g1 g2 : Nat} {L : List UInt8} {W D i m : Nat} (h : Ft NN w g g1 g2 L W D i m) (n : Nat) : Ft NN (w.drewN n) g g1 g2 L W D i m := by
  obtain ⟨la, ah, h1, h2⟩ := h
  exact ⟨la, ah, h1.drewN n, h2⟩
theorem tAtF (NN : Nat) (w : World) (g g1 g2 : Nat) (L : List UInt8) (W D i m : Nat) (h : Ft NN w g g1 g2 L W D i m) : Calls Try.prog 36 #[.pointer (some ⟨g, 0, none⟩)] w fun e w' => e = .returned (.int .i64 i) ∧ w' = w := by
  obtain ⟨la, ah, h1, -⟩ := h
  exact tAt NN w g g1 g2 L W D i m la ah h1
set_option maxHeartbeats 1600000 in
theorem awake22 (w : World) : Calls Try.prog 34 #[] w fun e w' => e = .returned (.bool true) ∧ Below w.heap.size w w' := by
  obtain ⟨NN, hNN⟩ : ∃ NN, NN = 65536 := ⟨_, rfl⟩
  have CN := Lib.hid (tNewF NN hNN [97, 97, 97, 97] 9 9 9 9 4 w (by decide) (by decide) (by decide) (by decide))
  have CX := Lib.hid (fun g g1 g2 i W hF (hi : i < 4) R hR => tNextF NN W g g1 g2 [97, 97, 97, 97] 9 9 4 i 9 9 hF (by decide) hi (by decide) (by decide) (by decide) (by decide) (by decide) (by decide) R hR)
  clear hNN
  go_enter Try.func34, Try.ntmps34
  go_wp2_with fail
  refine CN.out.mono ?_; rintro e w1 ⟨g, g1, g2, rfl, hf1, hb1, hlo⟩
  have F := Lib.hid hf1
  have hb := hb1
  have LO := Lib.hid hlo
  clear hf1 hb1 CN hlo
  have r0 : (atS [97, 97, 97, 97] 0 9 (min 0 9)).2 = [] := rfl
  have r1 : (atS [97, 97, 97, 97] 1 9 (min 1 9)).2 = [(3, 1)] := by decide +kernel
  obtain ⟨R2, r2⟩ : ∃ R, (atS [97, 97, 97, 97] 2 9 (min 2 9)).2 = R := ⟨_, rfl⟩
  obtain ⟨R3, r3⟩ : ∃ R, (atS [97, 97, 97, 97] 3 9 (min 3 9)).2 = R := ⟨_, rfl⟩
  go_wp2_with fail
  refine (CX.out g g1 g2 0 _ F.out (by decide) _ r0).mono ?_; rintro e w2 ⟨v0, B0, rfl, ho0, hB0, hf, hk⟩
  have hb := hb.trans (hk.below (fun k hk => ⟨by have := hb.size; omega, fun hS => by have := LO.out k hS; omega⟩))
  obtain ⟨a0, c0, rfl⟩ := ho0.slice
  have F := Lib.hid hf
  clear hf hk ho0 hB0 r0
  go_wp2_with fail
  refine (CX.out g g1 g2 1 _ F.out (by decide) _ r1).mono ?_; rintro e w3 ⟨v1, B1, rfl, ho1, hB1, hf, hk⟩
  have hb := hb.trans (hk.below (fun k hk => ⟨by have := hb.size; omega, fun hS => by have := LO.out k hS; omega⟩))
  have OB := Lib.hid ho1
  have LB := Lib.hid (show ∀ k, feetF g g1 g2 k → k < B1 from fun k hk => by have := F.out.lt k hk; omega)
  have F := Lib.hid hf
  clear hf hk ho1 hB1 r1
  go_wp2_with fail
  refine (CX.out g g1 g2 2 _ F.out (by decide) _ r2).mono ?_; rintro e w4 ⟨v2, B2, rfl, ho2, hB2, hf, hk⟩
  have hb := hb.trans (hk.below (fun k hk => ⟨by have := hb.size; omega, fun hS => by have := LO.out k hS; omega⟩))
  have OB := Lib.hid (hk.mt OB.out LB.out)
  obtain ⟨a2, c2, rfl⟩ := ho2.slice
  have F := Lib.hid hf
  clear hf hk ho2 hB2 r2
  go_wp2_with fail
  refine (CX.out g g1 g2 3 _ F.out (by decide) _ r3).mono ?_; rintro e w5 ⟨v3, B3, rfl, ho3, hB3, hf, hk⟩
  have hb := hb.trans (hk.below (fun k hk => ⟨by have := hb.size; omega, fun hS => by have := LO.out k hS; omega⟩))
  have OB := Lib.hid (hk.mt OB.out LB.out)
  obtain ⟨a3, c3, rfl⟩ := ho3.slice
  have F := Lib.hid hf
  clear hf hk ho3 hB3 r3
  go_wp2_with fail
  refine (tEndF NN _ g g1 g2 [97, 97, 97, 97] 9 9 4 F.out 9).mono ?_; rintro e w6 ⟨rfl, q6, rfl⟩
  have HF := Lib.hid (F.out.drewN q6)
  have hb := below_dn hb q6
  have OB := Lib.hid (OB.out.drewN q6)
  clear F
  go_wp2_with fail
  have hbA := (Below.refl (w5.drewN q6).heap.size (w5.drewN q6)).alloc (Nat.le_refl _) (.cells #[.int .i64 3, .int .i64 1] 57)
  have HF := Lib.hid (HF.out.kept hbA)
  have hb := hb.trans (hbA.mono hb.size)
  refine (dSameMv (l := [(3, 1)]) (m := [(3, 1)]) (((OwnS.isMv OB.out (by decide)).kept hbA)) (isMv_lit (heap_alloc_new _ _)) true rfl).mono ?_; rintro e w7 ⟨rfl, hb7⟩
  have HF := Lib.hid (HF.out.kept hb7)
  have hb := hb.trans (hb7.mono hb.size)
  clear hb7 hbA
  go_wp2_with fail
  refine (tAtF NN _ g g1 g2 [97, 97, 97, 97] 9 9 4 4 HF.out).mono ?_; rintro e w8 ⟨rfl, rfl⟩
  go_wp2_with fail
  go_ret
  exact ⟨rfl, hb⟩
end Go.Proofs.Ytgoplbngfinbdaa
