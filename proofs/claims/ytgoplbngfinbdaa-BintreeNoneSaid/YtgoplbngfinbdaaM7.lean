/- Layer 41: Next, At, New. -/
import Derived.Test.YtgoplbngfinbdaaM6
namespace Go.Proofs.Ytgoplbngfinbdaa
open Go.ChangeShapes Go.WideShapes Go.ChangeAt Go.RowKit
set_option linter.unusedVariables false
set_option linter.unusedSimpArgs false
set_option maxRecDepth 100000
theorem set32 {B g n cap : Nat} {w : World} {l : List Int} (h : Own32 B w (.slice (some ⟨g, 0, none⟩) n cap) l) (i : Nat) (x : Int) (hi : i < l.length) : Own32 B (w.setCell ⟨g, i, none⟩ (.int .i32 x)) (.slice (some ⟨g, 0, none⟩) n cap) (l.set i x) := h.set1 flat32 i x _ rfl hi
theorem own_away {B g n cap k : Nat} {w : World} {l : List Int} {u : Value} {j : Nat} (h : Own32 B w (.slice (some ⟨g, 0, none⟩) n cap) l) (hk : g ≠ k) : Own32 B (w.setCell ⟨k, j, none⟩ u) (.slice (some ⟨g, 0, none⟩) n cap) l :=
  OwnS.grown h (World.grownBy_setCell ⟨k, j, none⟩ u) (.inr (fun e => hk (by simpa [Value.ownBlock] using e)))
theorem IsF.step_at {NN : Nat} {w : World} {B g g1 g2 : Nat} {L : List UInt8} {W D at_ m : Nat} {la ah : List Int} (h : IsF NN w B g g1 g2 L W D at_ m la ah) (x : Nat) : IsF NN (w.setCell ⟨g, 3, none⟩ (.int .i64 x)) B g g1 g2 L W D x m la ah :=
  ⟨by have := block_set h.box 3 (.int .i64 x); simpa using this, own_away h.ra h.n1, own_away h.rb h.n2, h.ml, h.nl, h.n1, h.n2, h.n12⟩
theorem IsF.step_ah {NN : Nat} {w : World} {B g g1 g2 : Nat} {L : List UInt8} {W D at_ m : Nat} {la ah : List Int} (h : IsF NN w B g g1 g2 L W D at_ m la ah) (p : Nat) (x : Int) (hp : p < m) : IsF NN (w.setCell ⟨g2, p, none⟩ (.int .i32 x)) B g g1 g2 L W D at_ m la (ah.set p x) :=
  ⟨(Below.heap_setCell _ _ _ _ (fun e => h.n2 e.symm)).trans h.box, own_away h.ra h.n12, set32 h.rb p x (by rw [h.ml]; exact hp), by rw [List.length_set]; exact h.ml, h.nl, h.n1, h.n2, h.n12⟩
theorem IsF.step_la {NN : Nat} {w : World} {B g g1 g2 : Nat} {L : List UInt8} {W D at_ m : Nat} {la ah : List Int} (h : IsF NN w B g g1 g2 L W D at_ m la ah) (p : Nat) (x : Int) (hp : p < la.length) : IsF NN (w.setCell ⟨g1, p, none⟩ (.int .i32 x)) B g g1 g2 L W D at_ m (la.set p x) ah :=
  ⟨(Below.heap_setCell _ _ _ _ (fun e => h.n1 e.symm)).trans h.box, set32 h.ra p x hp, own_away h.rb h.n12.symm, h.ml, by rw [List.length_set]; exact h.nl, h.n1, h.n2, h.n12⟩
theorem IsF.drewN {NN : Nat} {w : World} {B g g1 g2 : Nat} {L : List UInt8} {W D at_ m : Nat} {la ah : List Int} (h : IsF NN w B g g1 g2 L W D at_ m la ah) (n : Nat) : IsF NN (w.drewN n) B g g1 g2 L W D at_ m la ah := ⟨h.box, h.ra, h.rb, h.ml, h.nl, h.n1, h.n2, h.n12⟩
theorem wr64 (n : Int) (h0 : 0 ≤ n) (h1 : n ≤ 1000000000) : wrap64 n = n := by unfold wrap64; omega
def feetF (g g1 g2 : Nat) : Nat → Prop := fun q => q = g ∨ q = g1 ∨ q = g2
/-- At the end there is nothing more. -/
theorem cNextEnd (NN : Nat) (w : World) (B g g1 g2 : Nat) (L : List UInt8) (W D m : Nat) (la ah : List Int) (h : IsF NN w B g g1 g2 L W D L.length m la ah) (most : Int) :
    Calls Try.prog 40 #[.pointer (some ⟨g, 0, none⟩), .int .i64 most] w fun e w' => e = .returned (.tuple #[.slice none 0 0, .int .i64 (-1)]) ∧ ∃ k, w' = w.drewN k := by
  have hS : (sM L).size = L.length := sM_size L
  have c0 := cell_lit h.box 0 _ rfl
  have c3 := cell_lit h.box 3 _ rfl
  have hlt := block_lt h.box
  clear h
  go_enter Try.func40, Try.ntmps40
  go_wp2_with fail
  go_quiet (fail)
  go_wp2_with fail
  go_ret2
  exact ⟨rfl, _, rfl⟩
theorem cNextNil (most : Int) (w : World) : Calls Try.prog 40 #[.pointer none, .int .i64 most] w fun e w' => e = .returned (.tuple #[.slice none 0 0, .int .i64 (-1)]) ∧ ∃ k, w' = w.drewN k := by
  go_enter Try.func40, Try.ntmps40
  go_wp2_with fail
  go_quiet (fail)
  go_wp2_with fail
  go_ret2
  exact ⟨rfl, _, rfl⟩
theorem cAtNil (w : World) : Calls Try.prog 41 #[.pointer none] w fun e w' => e = .returned (.int .i64 0) ∧ w' = w := by
  go_enter Try.func41, Try.ntmps41
  go_wp2
  go_ret
  exact ⟨rfl, rfl⟩
theorem cAt (NN : Nat) (w : World) (B g g1 g2 : Nat) (L : List UInt8) (W D i m : Nat) (la ah : List Int) (h : IsF NN w B g g1 g2 L W D i m la ah) : Calls Try.prog 41 #[.pointer (some ⟨g, 0, none⟩)] w fun e w' => e = .returned (.int .i64 i) ∧ w' = w := by
  have c3 := cell_lit h.box 3 _ rfl
  clear h
  go_enter Try.func41, Try.ntmps41
  go_wp2
  go_ret
  exact ⟨rfl, rfl⟩
/-- At the last byte there is no source. -/
theorem cNextLast (NN : Nat) (w : World) (B g g1 g2 : Nat) (L : List UInt8) (W D m i : Nat) (la ah : List Int) (h : IsF NN w B g g1 g2 L W D i m la ah) (hi : i + 1 = L.length) (hL : L.length ≤ 100000) (most : Int) :
    Calls Try.prog 40 #[.pointer (some ⟨g, 0, none⟩), .int .i64 most] w fun e w' => e = .returned (.tuple #[.slice none 0 0, .int .i64 i]) ∧ IsF NN w' B g g1 g2 L W D (i + 1) m la ah ∧ Keeps (feetF g g1 g2) w w' := by
  have hS : (sM L).size = L.length := sM_size L
  have c0 := cell_lit h.box 0 _ rfl
  have c3 := cell_lit h.box 3 _ rfl
  have f3 := free_in h.box 3
  have hlt := block_lt h.box
  have HF := Lib.hid h
  have hne : ((i : Int) == (L.length : Int)) = false := by rw [beq_eq_false_iff_ne]; omega
  have hne2 : ¬ (i : Int) = (L.length : Int) := by omega
  have hne3 : ¬ i = L.length := by omega
  have hs1 : (L.length : Int) - i = 1 := by omega
  have HI := Lib.hid hi
  clear h hi
  go_enter Try.func40, Try.ntmps40
  go_wp2_with fail
  go_quiet (fail)
  go_wp2_with fail
  go_ret2
  refine ⟨rfl, ?_, ?_⟩
  · have := (HF.out.drewN nq).step_at (i + 1)
    rw [show ((i + 1 : Nat) : Int) = (i : Int) + 1 from rfl] at this
    exact this
  · exact ((Keeps.refl (feetF g g1 g2) w).drewN nq).setCell (p := ⟨g, 3, none⟩) (.inr (by exact Or.inl rfl)) _
set_option maxHeartbeats 3200000 in
theorem cNext (NN : Nat) (w : World) (B g g1 g2 : Nat) (L : List UInt8) (W D m i most : Nat) (la ah : List Int) (h : IsF NN w B g g1 g2 L W D i m la ah) (hk : Knows L m i la ah) (hL : L.length ≤ 100000) (hi : i + 1 < L.length) (hW : 1 ≤ W) (hW2 : (W : Int) ≤ 67108864) (hmW : m = W + 1 ∨ m = L.length) (hm0 : 0 < m) (hm1 : m ≤ L.length) (hD : i < D) (hD2 : (D : Int) ≤ 1000000) (hmo : 2 ≤ most) (hmo2 : most ≤ 258) (M : Nat) (hM : min i W = M) (R : Nat × List Mt) (hR : atS L i most M = R) :
    Calls Try.prog 40 #[.pointer (some ⟨g, 0, none⟩), .int .i64 most] w fun e w' => ∃ v la' ah' B', e = .returned (.tuple #[v, .int .i64 i]) ∧ OwnMt B' w' v R.2 ∧ w.heap.size ≤ B' ∧ IsF NN w' B g g1 g2 L W D (i + 1) m la' ah' ∧ Knows L m (i + 1) la' ah' ∧ Keeps (feetF g g1 g2) w w' := by
  have hS : (sM L).size = L.length := sM_size L
  have c0 := cell_lit h.box 0 _ rfl
  have c3 := cell_lit h.box 3 _ rfl
  have c4 := cell_lit h.box 4 _ rfl
  have c5 := cell_lit h.box 5 _ rfl
  have f3 := free_in h.box 3
  have hlt := block_lt h.box
  have HF := Lib.hid h
  have HK := Lib.hid hk
  have hne : ((i : Int) == (L.length : Int)) = false := by rw [beq_eq_false_iff_ne]; omega
  have hne2 : ¬ (i : Int) = (L.length : Int) := by omega
  have hne3 : ¬ i = L.length := by omega
  have x1 := ixM L (i : Int) i rfl (by omega)
  have x2 := ixM L ((i : Int) + 1) (i + 1) rfl hi
  have hb1 : (i : Int) < L.length := by omega
  have hb2 : (i : Int) + 1 < L.length := by omega
  have HPE := Lib.hid (show ((L.getD i 0).toNat : Int) * 256 + ((L.getD (i + 1) 0).toNat : Int) = (pairAt L i : Nat) by unfold pairAt; omega)
  have hs2 : ¬ (L.length : Int) - i < 2 := by omega
  clear h hk
  go_enter Try.func40, Try.ntmps40
  go_wp2_with fail
  go_quiet (fail)
  go_wp2_with fail
  have hpt := pairAt_lt L i
  have hpe := HPE.out
  have z1 := (L.getD i 0).toNat_lt
  have z2 := (L.getD (i + 1) 0).toNat_lt
  obtain ⟨Z1, hZ1⟩ : ∃ Z1, L.getD i 0 = Z1 := ⟨_, rfl⟩
  obtain ⟨Z2, hZ2⟩ : ∃ Z2, L.getD (i + 1) 0 = Z2 := ⟨_, rfl⟩
  rw [hZ1] at x1 hpe z1
  rw [hZ2] at x2 hpe z2
  obtain ⟨t, ht⟩ : ∃ t, pairAt L i = t := ⟨_, rfl⟩
  rw [ht] at hpe hpt
  have HT := Lib.hid ht
  have HTI := Lib.hid (show (t : Int) < (NN : Int) by have h1 := HF.out.nl; have h2 := HK.out.ll; omega)
  have hwt : wrap64 (wrap64 (wrap64 (Z1.toNat : Int) * 256) + wrap64 (Z2.toNat : Int)) = (t : Int) := by
    rw [wr64 (Z1.toNat : Int) (by omega) (by omega), wr64 ((Z1.toNat : Int) * 256) (by omega) (by omega), wr64 (Z2.toNat : Int) (by omega) (by omega), wr64 ((Z1.toNat : Int) * 256 + (Z2.toNat : Int)) (by omega) (by omega)]; exact hpe
  have HWT := Lib.hid hwt
  have hX0 := HK.out.la_at t hpt
  have hXl := lastP_le L t i
  obtain ⟨X, hX⟩ : ∃ X, lastP L t i = X := ⟨_, rfl⟩
  rw [hX] at hX0 hXl
  have HX0 := Lib.hid hX0
  have HXL := Lib.hid hXl
  clear hZ1 hZ2 ht hwt hX hX0 hpe hpt z1 z2 hXl HPE
  have HF1 := Lib.hid (show IsF NN ((w.drewN nq).setCell ⟨g, 3, none⟩ (.int .i64 ((i : Int) + 1))) B g g1 g2 L W D (i + 1) m la ah from (HF.out.drewN nq).step_at (i + 1))
  have HKp := Lib.hid (((Keeps.refl (feetF g g1 g2) w).drewN nq).setCell (p := ⟨g, 3, none⟩) (.inr (by exact Or.inl rfl)) (.int .i64 ((i : Int) + 1)))
  generalize (w.drewN nq).setCell ⟨g, 3, none⟩ (.int .i64 ((i : Int) + 1)) = y1 at *
  have b0 := cell_lit HF1.out.box 0 _ rfl
  have b4 := cell_lit HF1.out.box 4 _ rfl
  have b5 := cell_lit HF1.out.box 5 _ rfl
  have hgy := block_lt HF1.out.box
  clear c0 c3 c4 c5 f3 hlt HF
  go_quiet (fail)
  rw [HWT.out]
  have hti : (t : Int) < (NN : Int) := HTI.out
  have hXl := HXL.out
  have ct := cell32 HF1.out.ra t (by rw [HF1.out.nl]; have := HTI.out; omega)
  rw [HX0.out] at ct
  have hq : i % m < m := Nat.mod_lt _ hm0
  have ca := cell32 HF1.out.rb (i % m) (by rw [HF1.out.ml]; exact hq)
  have fa := HF1.out.rb.free (i % m)
  have ft := HF1.out.ra.free t
  have n12 := HF1.out.n12
  have hi32 : IntKind.i32.wrap ((i : Int) + 1) = (i : Int) + 1 := by simp [IntKind.wrap, IntKind.bits, IntKind.signed]; omega
  have hr1 : (i : Int).tmod m = ((i % m : Nat) : Int) := by rw [Int.tmod_eq_emod_of_nonneg (by omega)]; rfl
  have hr2 : (i : Int) % m = ((i % m : Nat) : Int) := rfl
  obtain ⟨q, hqq⟩ : ∃ q, i % m = q := ⟨_, rfl⟩
  rw [hqq] at ca fa hr1 hr2 hq
  have HQ := Lib.hid hqq
  have hmi : ¬ (m : Int) = 0 := by omega
  have hmi2 : ¬ m = 0 := by omega
  have hq0 : (0 : Int) ≤ (q : Int) := by omega
  have hq1 : (q : Int) < (m : Int) := by omega
  have ht0 : (0 : Int) ≤ (t : Int) := by omega
  have hrem : ∀ V : World, (binOp .rem 3 (.int .i64 (i : Int)) (.int .i64 (m : Int))).run Try.prog V = .ok (.int .i64 (q : Int)) V := fun V => by simp [go_sem, hmi, hmi2, hr1, hr2]
  have HF2 := Lib.hid (show IsF NN (y1.drew.setCell ⟨g2, q, none⟩ (.int .i32 X)) B g g1 g2 L W D (i + 1) m la (ah.set q X) from (HF1.out.drewN 1).step_ah q X hq)
  have HKp2 := Lib.hid (HKp.out.drew.setCell (p := ⟨g2, q, none⟩) (.inr (by exact Or.inr (Or.inr rfl))) (.int .i32 X))
  have e4 := cell_lit HF2.out.box 4 _ rfl
  have e5 := cell_lit HF2.out.box 5 _ rfl
  have et := cell32 HF2.out.ra t (by rw [HF2.out.nl]; have := HTI.out; omega)
  rw [HX0.out] at et
  have HE := Lib.hid (And.intro e4 (And.intro e5 et))
  have HB := Lib.hid (And.intro b4 (And.intro b5 ct))
  clear hqq x1 x2 e4 e5 et
  go_wp2_with fail
  go_region_held3 (fun V => V.cell? ⟨g, 4, none⟩ = some (.slice (some ⟨g1, 0, none⟩) NN NN) ∧ V.cell? ⟨g, 5, none⟩ = some (.slice (some ⟨g2, 0, none⟩) m m) ∧ V.cell? ⟨g1, t, none⟩ = some (.int .i32 X)) (first | exact HB.out | exact HE.out) (fail)
  go_wp2_with fail
  have HF3 := Lib.hid (show IsF NN (((y1.drewN (nq + 1)).setCell ⟨g2, q, none⟩ (.int .i32 X)).setCell ⟨g1, t, none⟩ (.int .i32 ((i : Int) + 1))) B g g1 g2 L W D (i + 1) m (la.set t ((i : Int) + 1)) (ah.set q X) from
    ((HF1.out.drewN (nq + 1)).step_ah q X hq).step_la t ((i : Int) + 1) (by rw [HF1.out.nl]; omega))
  have HKp3 := Lib.hid (((HKp.out.drewN (nq + 1)).setCell (p := ⟨g2, q, none⟩) (.inr (by exact Or.inr (Or.inr rfl))) (.int .i32 X)).setCell (p := ⟨g1, t, none⟩) (.inr (by exact Or.inr (Or.inl rfl))) (.int .i32 ((i : Int) + 1)))
  generalize ((y1.drewN (nq + 1)).setCell ⟨g2, q, none⟩ (.int .i32 X)).setCell ⟨g1, t, none⟩ (.int .i32 ((i : Int) + 1)) = y3 at *
  have hkn := HK.out.next hm0 hi
  rw [HT.out, HQ.out, HX0.out] at hkn
  have hch : Chained L m i (ah.set q X) := fun p h1 h2 h3 => hkn.ah_at p (by omega) h2 (by omega)
  have hBy : B ≤ y3.heap.size := by have := HF3.out.ra.lt g1 rfl; omega
  refine (cBack NN y3 B g g1 g2 L W D m i most (la.set t ((i : Int) + 1)) (ah.set q X) (i + 1) HF3.out hch hL hi hW hW2 hmW hm0 hm1 hD hD2 hmo hmo2 M hM R hR hBy).mono ?_
  rintro e w9 ⟨v9, rfl, ho9, hb9⟩
  have HF4 := Lib.hid (HF3.out.kept hb9)
  have HO9 := Lib.hid ho9
  have HKN := Lib.hid hkn
  have HKp4 := Lib.hid (HKp3.out.trans (Keeps.of_below (S := feetF g g1 g2) hb9))
  have hsz := HKp3.out.size
  clear hb9 ho9 hkn hch HF3 HKp3 HF2 HKp2 HE HB b0 b4 b5 ct ca fa
  go_wp2_with fail
  go_ret2
  exact ⟨_, _, _, _, rfl, HO9.out, hsz, HF4.out, HKN.out, HKp4.out⟩
end Go.Proofs.Ytgoplbngfinbdaa
