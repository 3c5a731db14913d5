/- Layer 41: one contract for each place; the document's examples. -/
import Derived.Test.YtgoplbngfinbdaaM8
namespace Go.Proofs.Ytgoplbngfinbdaa
open Go.ChangeShapes Go.WideShapes Go.ChangeAt Go.RowKit
set_option linter.unusedVariables false
set_option linter.unusedSimpArgs false
set_option maxRecDepth 100000
theorem atS_last (L : List UInt8) (i most : Nat) (hi : L.length ≤ i + 1) : ∀ M, atS L i most M = (1, [])
  | 0 => rfl
  | M + 1 => by
    have h1 := (comAt_le L i (i - (M + 1))).1
    rw [atS, atS_last L i most hi M, if_neg]
    unfold nAt
    show ¬ 1 < _
    omega
/-- A finder at a place. -/
def Fs (NN : Nat) (w : World) (B g g1 g2 : Nat) (L : List UInt8) (W D i m : Nat) : Prop := ∃ la ah, IsF NN w B g g1 g2 L W D i m la ah ∧ Knows L m i la ah
theorem Fs.kept {NN : Nat} {w w' : World} {B g g1 g2 : Nat} {L : List UInt8} {W D i m : Nat} (h : Fs NN w B g g1 g2 L W D i m) (hb : Below w.heap.size w w') : Fs NN w' B g g1 g2 L W D i m := by
  obtain ⟨la, ah, h1, h2⟩ := h
  exact ⟨la, ah, h1.kept hb, h2⟩
theorem Fs.lt {NN : Nat} {w : World} {B g g1 g2 : Nat} {L : List UInt8} {W D i m : Nat} (h : Fs NN w B g g1 g2 L W D i m) : ∀ k, feetF g g1 g2 k → k < w.heap.size := by
  obtain ⟨la, ah, h1, h2⟩ := h
  rintro k (rfl | rfl | rfl)
  · exact block_lt h1.box
  · exact (h1.ra.lt _ rfl).2
  · exact (h1.rb.lt _ rfl).2
theorem cNextF (NN : Nat) (w : World) (B g g1 g2 : Nat) (L : List UInt8) (W D m i most : Nat) (h : Fs NN w B g g1 g2 L W D i m) (hL : L.length ≤ 100000) (hi : i < L.length) (hW : 1 ≤ W) (hW2 : (W : Int) ≤ 67108864) (hmv : min L.length (W + 1) = m) (hD : L.length ≤ D) (hD2 : (D : Int) ≤ 1000000) (hmo : 2 ≤ most) (hmo2 : most ≤ 258) (R : List Mt) (hR : (atS L i most (min i W)).2 = R) :
    Calls Try.prog 40 #[.pointer (some ⟨g, 0, none⟩), .int .i64 most] w fun e w' => ∃ v B', e = .returned (.tuple #[v, .int .i64 i]) ∧ OwnMt B' w' v R ∧ w.heap.size ≤ B' ∧ Fs NN w' B g g1 g2 L W D (i + 1) m ∧ Keeps (feetF g g1 g2) w w' := by
  obtain ⟨la, ah, h1, h2⟩ := h
  by_cases hl : i + 1 < L.length
  · refine (cNext NN w B g g1 g2 L W D m i most la ah h1 h2 hL hl hW hW2 (by omega) (by omega) (by omega) (by omega) hD2 hmo hmo2 _ rfl _ rfl).mono ?_
    rintro e w' ⟨v, la', ah', B', rfl, ho, hB, hf, hk, hK⟩
    rw [hR] at ho
    exact ⟨v, B', rfl, ho, hB, ⟨la', ah', hf, hk⟩, hK⟩
  · refine (cNextLast NN w B g g1 g2 L W D m i la ah h1 (by omega) hL most).mono ?_
    rintro e w' ⟨rfl, hf, hK⟩
    rw [atS_last L i most (by omega)] at hR
    subst hR
    exact ⟨_, w.heap.size, rfl, OwnS.nil, Nat.le_refl _, ⟨la, ah, hf, h2.last (by omega)⟩, hK⟩
theorem cNewF (NN : Nat) (hNN : NN = 65536) (L : List UInt8) (win dep : Int) (W D m : Nat) (w : World) (hL : L.length ≤ 100000) (hWv : min (max win 1) 67108864 = (W : Int)) (hDv : max dep 1 = (D : Int)) (hmv : min L.length (W + 1) = m) :
    Calls Try.prog 39 #[.string (sM L), .int .i64 win, .int .i64 dep] w fun e w' => ∃ g g1 g2, e = .returned (.pointer (some ⟨g, 0, none⟩)) ∧ Fs NN w' w.heap.size g g1 g2 L W D 0 m ∧ Below w.heap.size w w' ∧ ∀ k, feetF g g1 g2 k → w.heap.size ≤ k := by
  refine (cNew NN hNN L win dep W D m w hL hWv hDv hmv).mono ?_
  rintro e w' ⟨g, g1, g2, rfl, hf, hb, l0, l1, l2⟩
  refine ⟨g, g1, g2, rfl, ⟨_, _, hf, by rw [hNN]; exact Knows.start L m⟩, hb, ?_⟩
  rintro k (rfl | rfl | rfl) <;> assumption
theorem Keeps.mt {g g1 g2 B : Nat} {w w' : World} {v : Value} {l : List Mt} (h : Keeps (feetF g g1 g2) w w') (ho : OwnMt B w v l) (hB : ∀ k, feetF g g1 g2 k → k < B) : OwnMt B w' v l :=
  h.ownsRow ho (fun k hk hS => by have := (ho.lt k hk).1; have := hB k hS; omega)
theorem isMv_lit {w : World} {g cap : Nat} {a b : Int} {T : TypeId} (h : w.heap[g]? = some (.cells #[.int .i64 a, .int .i64 b] T (0, 0))) : IsMv w (.slice (some ⟨g, 0, none⟩) 1 cap) [(a, b)] := by
  refine ⟨_, cap, rfl, by simp, .inr ⟨_, rfl, fun i hi => ?_⟩⟩
  have : i = 0 := by simp at hi; exact hi
  subst this
  exact ⟨cell_lit h 0 _ rfl, cell_lit h 1 _ rfl⟩
set_option maxHeartbeats 1600000 in
theorem awake41 (w : World) : Calls Try.prog 38 #[] w fun e w' => e = .returned (.bool true) ∧ Below w.heap.size w w' := by
  obtain ⟨NN, hNN⟩ : ∃ NN, NN = 65536 := ⟨_, rfl⟩
  have CN := Lib.hid (cNewF NN hNN [97, 97, 97, 97] 9 9 9 9 4 w (by decide) (by decide) (by decide) (by decide))
  have CX := Lib.hid (fun g g1 g2 i W hF (hi : i < 4) R hR => cNextF NN W w.heap.size g g1 g2 [97, 97, 97, 97] 9 9 4 i 9 hF (by decide) hi (by decide) (by decide) (by decide) (by decide) (by decide) (by decide) (by decide) R hR)
  clear hNN
  go_enter Try.func38, Try.ntmps38
  go_wp2_with fail
  refine CN.out.mono ?_; rintro e w1 ⟨g, g1, g2, rfl, hf1, hb1, hlo⟩
  have F := Lib.hid hf1
  have hb := hb1
  have LO := Lib.hid hlo
  clear hf1 hb1 CN hlo
  have r0 : (atS [97, 97, 97, 97] 0 9 (min 0 9)).2 = [] := rfl
  have r1 : (atS [97, 97, 97, 97] 1 9 (min 1 9)).2 = [(3, 1)] := by decide +kernel
  obtain ⟨R2, r2⟩ : ∃ R, (atS [97, 97, 97, 97] 2 9 (min 2 9)).2 = R := ⟨_, rfl⟩
  obtain ⟨R3, r3⟩ : ∃ R, (atS [97, 97, 97, 97] 3 9 (min 3 9)).2 = R := ⟨_, rfl⟩
  go_wp2_with fail
  refine (CX.out g g1 g2 0 _ F.out (by decide) _ r0).mono ?_; rintro e w2 ⟨v0, B0, rfl, ho0, hB0, hf, hk⟩
  have hb := hb.trans (hk.below (fun k hk => ⟨by have := hb.size; omega, fun hS => by have := LO.out k hS; omega⟩))
  obtain ⟨a0, c0, rfl⟩ := ho0.slice
  have F := Lib.hid hf
  clear hf hk ho0 hB0 r0
  go_wp2_with fail
  refine (CX.out g g1 g2 1 _ F.out (by decide) _ r1).mono ?_; rintro e w3 ⟨v1, B1, rfl, ho1, hB1, hf, hk⟩
  have hb := hb.trans (hk.below (fun k hk => ⟨by have := hb.size; omega, fun hS => by have := LO.out k hS; omega⟩))
  have OB := Lib.hid ho1
  have LB := Lib.hid (show ∀ k, feetF g g1 g2 k → k < B1 from fun k hk => by have := F.out.lt k hk; omega)
  have F := Lib.hid hf
  clear hf hk ho1 hB1 r1
  go_wp2_with fail
  refine (CX.out g g1 g2 2 _ F.out (by decide) _ r2).mono ?_; rintro e w4 ⟨v2, B2, rfl, ho2, hB2, hf, hk⟩
  have hb := hb.trans (hk.below (fun k hk => ⟨by have := hb.size; omega, fun hS => by have := LO.out k hS; omega⟩))
  have OB := Lib.hid (hk.mt OB.out LB.out)
  obtain ⟨a2, c2, rfl⟩ := ho2.slice
  have F := Lib.hid hf
  clear hf hk ho2 hB2 r2
  go_wp2_with fail
  refine (CX.out g g1 g2 3 _ F.out (by decide) _ r3).mono ?_; rintro e w5 ⟨v3, B3, rfl, ho3, hB3, hf, hk⟩
  have hb := hb.trans (hk.below (fun k hk => ⟨by have := hb.size; omega, fun hS => by have := LO.out k hS; omega⟩))
  have OB := Lib.hid (hk.mt OB.out LB.out)
  obtain ⟨a3, c3, rfl⟩ := ho3.slice
  have F := Lib.hid hf
  clear hf hk ho3 hB3 r3
  go_wp2_with fail
  obtain ⟨la, ah, hF, -⟩ := F.out
  refine (cNextEnd NN _ _ g g1 g2 [97, 97, 97, 97] 9 9 4 la ah hF 9).mono ?_; rintro e w6 ⟨rfl, q6, rfl⟩
  have HF := Lib.hid (hF.drewN q6)
  have hb := below_dn hb q6
  have OB := Lib.hid (OB.out.drewN q6)
  clear hF F
  go_wp2_with fail
  have hbA := (Below.refl (w5.drewN q6).heap.size (w5.drewN q6)).alloc (Nat.le_refl _) (.cells #[.int .i64 3, .int .i64 1] 57)
  have HF := Lib.hid (HF.out.kept hbA)
  have hb := hb.trans (hbA.mono hb.size)
  refine (dSameMv (l := [(3, 1)]) (m := [(3, 1)]) (((OwnS.isMv OB.out (by decide)).kept hbA)) (isMv_lit (heap_alloc_new _ _)) true rfl).mono ?_; rintro e w7 ⟨rfl, hb7⟩
  have HF := Lib.hid (HF.out.kept hb7)
  have hb := hb.trans (hb7.mono hb.size)
  clear hb7 hbA
  go_wp2_with fail
  refine (cAt NN _ _ g g1 g2 [97, 97, 97, 97] 9 9 4 4 la ah HF.out).mono ?_; rintro e w8 ⟨rfl, rfl⟩
  go_wp2_with fail
  go_ret
  exact ⟨rfl, hb⟩
end Go.Proofs.Ytgoplbngfinbdaa
