/- Layer 22: Next, At. -/
import Derived.Test.YtgoplbngfinbdaaN3
import Derived.Test.YtgoplbngfinbdaaN6
namespace Go.Proofs.Ytgoplbngfinbdaa
open Go.ChangeShapes Go.WideShapes Go.ChangeAt Go.RowKit
set_option linter.unusedVariables false
set_option linter.unusedSimpArgs false
set_option maxRecDepth 100000
/-- At the end there is nothing more. -/
theorem tNextEnd (NN : Nat) (w : World) (g g1 g2 : Nat) (L : List UInt8) (W D m : Nat) (tp lk : List Int) (h : IsG NN w g g1 g2 L W D L.length m tp lk) (most : Int) :
    Calls Try.prog 37 #[.pointer (some ⟨g, 0, none⟩), .int .i64 most] w fun e w' => e = .returned (.tuple #[.slice none 0 0, .int .i64 (-1)]) ∧ ∃ k, w' = w.drewN k := by
  have hS : (sM L).size = L.length := sM_size L
  have c0 := cell_lit h.box 0 _ rfl
  have c3 := cell_lit h.box 3 _ rfl
  have hlt := block_lt h.box
  clear h
  go_enter Try.func37, Try.ntmps37
  go_wp2_with fail
  go_quiet (fail)
  go_wp2_with fail
  go_ret2
  exact ⟨rfl, _, rfl⟩
theorem tNextNil (most : Int) (w : World) : Calls Try.prog 37 #[.pointer none, .int .i64 most] w fun e w' => e = .returned (.tuple #[.slice none 0 0, .int .i64 (-1)]) ∧ ∃ k, w' = w.drewN k := by
  go_enter Try.func37, Try.ntmps37
  go_wp2_with fail
  go_quiet (fail)
  go_wp2_with fail
  go_ret2
  exact ⟨rfl, _, rfl⟩
theorem tAtNil (w : World) : Calls Try.prog 36 #[.pointer none] w fun e w' => e = .returned (.int .i64 0) ∧ w' = w := by
  go_enter Try.func36, Try.ntmps36
  go_wp2
  go_ret
  exact ⟨rfl, rfl⟩
theorem tAt (NN : Nat) (w : World) (g g1 g2 : Nat) (L : List UInt8) (W D i m : Nat) (tp lk : List Int) (h : IsG NN w g g1 g2 L W D i m tp lk) : Calls Try.prog 36 #[.pointer (some ⟨g, 0, none⟩)] w fun e w' => e = .returned (.int .i64 i) ∧ w' = w := by
  have c3 := cell_lit h.box 3 _ rfl
  clear h
  go_enter Try.func36, Try.ntmps36
  go_wp2
  go_ret
  exact ⟨rfl, rfl⟩
/-- At the last byte there is no source. -/
theorem tNextLast (NN : Nat) (w : World) (g g1 g2 : Nat) (L : List UInt8) (W D m i : Nat) (tp lk : List Int) (h : IsG NN w g g1 g2 L W D i m tp lk) (hi : i + 1 = L.length) (hL : L.length ≤ 100000) (most : Int) :
    Calls Try.prog 37 #[.pointer (some ⟨g, 0, none⟩), .int .i64 most] w fun e w' => e = .returned (.tuple #[.slice none 0 0, .int .i64 i]) ∧ IsG NN w' g g1 g2 L W D (i + 1) m tp lk ∧ Keeps (feetF g g1 g2) w w' := by
  have hS : (sM L).size = L.length := sM_size L
  have c0 := cell_lit h.box 0 _ rfl
  have c3 := cell_lit h.box 3 _ rfl
  have f3 := free_in h.box 3
  have hlt := block_lt h.box
  have HF := Lib.hid h
  have hne : ((i : Int) == (L.length : Int)) = false := by rw [beq_eq_false_iff_ne]; omega
  have hne2 : ¬ (i : Int) = (L.length : Int) := by omega
  have hne3 : ¬ i = L.length := by omega
  have hs1 : (L.length : Int) - i = 1 := by omega
  have HI := Lib.hid hi
  clear h hi
  go_enter Try.func37, Try.ntmps37
  go_wp2_with fail
  go_quiet (fail)
  go_wp2_with fail
  go_ret2
  refine ⟨rfl, ?_, ?_⟩
  · have := (HF.out.drewN nq).step_at (i + 1)
    rw [show ((i + 1 : Nat) : Int) = (i : Int) + 1 from rfl] at this
    exact this
  · exact ((Keeps.refl (feetF g g1 g2) w).drewN nq).setCell (p := ⟨g, 3, none⟩) (.inr (by exact Or.inl rfl)) _
set_option maxHeartbeats 3200000 in
theorem tNext (NN : Nat) (w : World) (g g1 g2 : Nat) (L : List UInt8) (W D m i mo : Nat) (most : Int) (tp lk : List Int) (h : IsG NN w g g1 g2 L W D i m tp lk) (hk : KnowsT L W m i tp lk) (hL : L.length ≤ 100000) (hi : i + 1 < L.length) (hW : 1 ≤ W) (hW2 : (W : Int) ≤ 67108864) (hmv : min L.length (W + 1) = m) (hD : i ≤ D) (hD2 : (D : Int) ≤ 1000000) (hmo : min (max most 2) 258 = (mo : Int)) (R : List Mt) (hR : (atS L i mo (min i W)).2 = R) :
    Calls Try.prog 37 #[.pointer (some ⟨g, 0, none⟩), .int .i64 most] w fun e w' => ∃ v tp' lk' B', e = .returned (.tuple #[v, .int .i64 i]) ∧ OwnMt B' w' v R ∧ w.heap.size ≤ B' ∧ IsG NN w' g g1 g2 L W D (i + 1) m tp' lk' ∧ KnowsT L W m (i + 1) tp' lk' ∧ Keeps (feetF g g1 g2) w w' := by
  have hS : (sM L).size = L.length := sM_size L
  have c0 := cell_lit h.box 0 _ rfl
  have c3 := cell_lit h.box 3 _ rfl
  have c4 := cell_lit h.box 4 _ rfl
  have f3 := free_in h.box 3
  have hlt := block_lt h.box
  have HF := Lib.hid h
  have hne : ((i : Int) == (L.length : Int)) = false := by rw [beq_eq_false_iff_ne]; omega
  have hne2 : ¬ (i : Int) = (L.length : Int) := by omega
  have hne3 : ¬ i = L.length := by omega
  have x1 := ixM L (i : Int) i rfl (by omega)
  have x2 := ixM L ((i : Int) + 1) (i + 1) rfl hi
  have hb1 : (i : Int) < L.length := by omega
  have hb2 : (i : Int) + 1 < L.length := by omega
  have HPE := Lib.hid (show ((L.getD i 0).toNat : Int) * 256 + ((L.getD (i + 1) 0).toNat : Int) = (pairAt L i : Nat) by unfold pairAt; omega)
  have hs2 : ¬ (L.length : Int) - i < 2 := by omega
  obtain ⟨x, hx⟩ : ∃ x, (tp.getD (pairAt L i) 0).toNat = x := ⟨_, rfl⟩
  obtain ⟨RR, hRR⟩ : ∃ RR, desc L i (i - W) m mo (whl L i) D lk (i % m * 2) (i % m * 2 + 1) x 1 [] = RR := ⟨_, rfl⟩
  obtain ⟨hok, hR2, hkn⟩ := hk.next hi hmv hD (by omega) (by omega) x hx RR hRR
  have hX0 : tp.getD (pairAt L i) 0 = (x : Int) := by rw [← hx, Int.toNat_of_nonneg (hk.tb _).1]
  have hxi : x ≤ i := by have := (hk.tb (pairAt L i)).2; omega
  have HOK := Lib.hid hok
  have HRR := Lib.hid hRR
  have HR2 := Lib.hid (hR2.trans hR)
  have HK := Lib.hid hk
  have HKN := Lib.hid hkn
  have hm0 : 0 < m := by omega
  have hm1 : m ≤ L.length := by omega
  have hmo2 : 2 ≤ mo ∧ mo ≤ 258 := by omega
  have ha1 : (if most < 2 then 2 else most) = max most 2 := by split <;> omega
  obtain ⟨A, hA⟩ : ∃ A : Int, (if most < 2 then 2 else most) = A := ⟨_, rfl⟩
  have hA2 : (if (258 : Int) < A then 258 else A) = (mo : Int) := by rw [← hA, ha1]; split <;> omega
  obtain ⟨t, ht⟩ : ∃ t, pairAt L i = t := ⟨_, rfl⟩
  have hpt := pairAt_lt L i
  rw [ht] at hpt hX0 HKN HPE
  have HX0 := Lib.hid hX0
  have HA := Lib.hid hA
  have HA2 := Lib.hid hA2
  have HTI := Lib.hid (show (t : Int) < (NN : Int) by have h1 := HF.out.tl; have h2 := HK.out.tl; omega)
  clear h hk hok hR2 hkn hRR hR hx hX0 ha1 hA hA2 ht hmo hmv
  go_enter Try.func37, Try.ntmps37
  go_wp2_with fail
  go_quiet (fail)
  go_wp2_with fail
  have hpe := HPE.out
  have z1 := (L.getD i 0).toNat_lt
  have z2 := (L.getD (i + 1) 0).toNat_lt
  obtain ⟨Z1, hZ1⟩ : ∃ Z1, L.getD i 0 = Z1 := ⟨_, rfl⟩
  obtain ⟨Z2, hZ2⟩ : ∃ Z2, L.getD (i + 1) 0 = Z2 := ⟨_, rfl⟩
  rw [hZ1] at x1 hpe z1
  rw [hZ2] at x2 hpe z2
  have hwt : wrap64 (wrap64 (wrap64 (Z1.toNat : Int) * 256) + wrap64 (Z2.toNat : Int)) = (t : Int) := by
    rw [wr64 (Z1.toNat : Int) (by omega) (by omega), wr64 ((Z1.toNat : Int) * 256) (by omega) (by omega), wr64 (Z2.toNat : Int) (by omega) (by omega), wr64 ((Z1.toNat : Int) * 256 + (Z2.toNat : Int)) (by omega) (by omega)]; exact hpe
  have HWT := Lib.hid hwt
  clear hZ1 hZ2 hwt hpe z1 z2 HPE
  have HF1 := Lib.hid (show IsG NN ((w.drewN nq).setCell ⟨g, 3, none⟩ (.int .i64 ((i : Int) + 1))) g g1 g2 L W D (i + 1) m tp lk from (HF.out.drewN nq).step_at (i + 1))
  have HKp := Lib.hid (((Keeps.refl (feetF g g1 g2) w).drewN nq).setCell (p := ⟨g, 3, none⟩) (.inr (by exact Or.inl rfl)) (.int .i64 ((i : Int) + 1)))
  generalize (w.drewN nq).setCell ⟨g, 3, none⟩ (.int .i64 ((i : Int) + 1)) = y1 at *
  have b0 := cell_lit HF1.out.box 0 _ rfl
  have b4 := cell_lit HF1.out.box 4 _ rfl
  have hgy := block_lt HF1.out.box
  clear c0 c3 c4 f3 hlt HF
  go_quiet (fail)
  rw [HWT.out]
  have hti : (t : Int) < (NN : Int) := HTI.out
  have ct := HF1.out.ta.cell t (by rw [HF1.out.tl]; have := HTI.out; omega)
  rw [HX0.out] at ct
  have ft := HF1.out.ta.free t
  have n12 := HF1.out.n12
  have hi32 : IntKind.i32.wrap ((i : Int) + 1) = (i : Int) + 1 := by simp [IntKind.wrap, IntKind.bits, IntKind.signed]; omega
  have ht0 : (0 : Int) ≤ (t : Int) := by omega
  clear x1 x2
  have hA := HA.out
  have hA2 := HA2.out
  go_wp2_with fail
  have HF3 := Lib.hid ((HF1.out.drewN nq).step_tp t ((i : Int) + 1))
  have HKp3 := Lib.hid ((HKp.out.drewN nq).setCell (p := ⟨g1, t, none⟩) (.inr (by exact Or.inr (Or.inl rfl))) (.int .i32 ((i : Int) + 1)))
  clear HF1 HKp
  generalize (y1.drewN nq).setCell ⟨g1, t, none⟩ (.int .i32 ((i : Int) + 1)) = y3 at *
  refine (cDescend NN y3 g g1 g2 L W D i m mo (tp.set t ((i : Int) + 1)) lk HF3.out HK.out.bd hL hi hW hW2 hm0 hm1 hD2 hmo2.1 hmo2.2 x hxi (whl L i) rfl HOK.out RR HRR.out).mono ?_
  rintro e w9 ⟨v9, rfl, ho9, hf9, hk9⟩
  rw [HR2.out] at ho9
  have HF4 := Lib.hid hf9
  have HO9 := Lib.hid ho9
  have HKp4 := Lib.hid (HKp3.out.trans hk9)
  have hsz := HKp3.out.size
  clear hk9 ho9 hf9 HF3 HKp3 b0 b4 ct hA hA2
  go_wp2_with fail
  go_ret2
  exact ⟨_, _, _, _, rfl, HO9.out, hsz, HF4.out, HKN.out, HKp4.out⟩
end Go.Proofs.Ytgoplbngfinbdaa
