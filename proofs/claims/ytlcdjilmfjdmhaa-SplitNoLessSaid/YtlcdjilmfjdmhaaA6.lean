/- Layer 53: a part's box; add, cost. -/
import Derived.Test.YtlcdjilmfjdmhaaA5
namespace Go.Proofs.Ytlcdjilmfjdmhaa
open Go.ChangeShapes Go.WideShapes Go.ChangeAt Go.RowKit
set_option linter.unusedVariables false
set_option linter.unusedSimpArgs false
set_option maxRecDepth 100000
def partL (gw m : Nat) (F : List Nat) (a : Nat) (e : Int) : List Value := .slice (some ⟨gw, 0, none⟩) m m :: (F.map (fun x : Nat => Value.int .i64 (x : Int)) ++ [.int .i64 (a : Int), .int .i64 e])
/-- Block b is a part: weights, how often each byte occurs, how many all are, and what each weighs. -/
def IsP (w : World) (b gw m : Nat) (F : List Nat) (a : Nat) (e : Int) : Prop := F.length = 256 ∧ w.heap[b]? = some (.cells (partL gw m F a e).toArray 73 (0, 0))
section
variable {w : World} {b gw m a : Nat} {F : List Nat} {e : Int}
theorem IsP.c0 (h : IsP w b gw m F a e) : w.cell? ⟨b, 0, none⟩ = some (.slice (some ⟨gw, 0, none⟩) m m) := by
  rw [cell_in h.2]; simp [partL]
theorem IsP.cf (h : IsP w b gw m F a e) (x : Nat) (hx : x < 256) : w.cell? ⟨b, 1 + x, none⟩ = some (.int .i64 (F.getD x 0 : Nat)) := by
  rw [cell_in h.2]
  have : x < F.length := by rw [h.1]; exact hx
  have e : (F.map (fun x : Nat => Value.int .i64 (x : Int)) ++ [.int .i64 (a : Int), .int .i64 e])[x]? = some (.int .i64 (F.getD x 0 : Nat)) := by
    rw [List.getElem?_append_left (by rw [List.length_map]; exact this)]; simp [this]
  simpa [partL, Nat.add_comm 1 x] using e
theorem IsP.ca (h : IsP w b gw m F a e) : w.cell? ⟨b, 257, none⟩ = some (.int .i64 (a : Int)) := by
  rw [cell_in h.2]
  have := h.1
  simp [partL, this]
theorem IsP.ce (h : IsP w b gw m F a e) : w.cell? ⟨b, 258, none⟩ = some (.int .i64 e) := by
  rw [cell_in h.2]
  have := h.1
  simp [partL, this]
theorem IsP.free (h : IsP w b gw m F a e) (j : Nat) : w.frozen? ⟨b, j, none⟩ = false := free_in h.2 j
theorem IsP.set_a (h : IsP w b gw m F a e) (a' : Nat) : IsP (w.setCell ⟨b, 257, none⟩ (.int .i64 (a' : Int))) b gw m F a' e := by
  refine ⟨h.1, ?_⟩
  have hs := block_set h.2 257 (.int .i64 (a' : Int))
  rw [hs]
  have hl := h.1
  congr 2
  rw [List.setIfInBounds_toArray]
  congr 1
  simp [partL, hl, List.set_append]
theorem IsP.set_e (h : IsP w b gw m F a e) (e' : Int) : IsP (w.setCell ⟨b, 258, none⟩ (.int .i64 e')) b gw m F a e' := by
  refine ⟨h.1, ?_⟩
  have hs := block_set h.2 258 (.int .i64 e')
  rw [hs]
  have hl := h.1
  congr 2
  rw [List.setIfInBounds_toArray]
  congr 1
  simp [partL, hl, List.set_append]
theorem IsP.set_f (h : IsP w b gw m F a e) (x f : Nat) (hx : x < 256) : IsP (w.setCell ⟨b, 1 + x, none⟩ (.int .i64 (f : Int))) b gw m (F.set x f) a e := by
  refine ⟨by rw [List.length_set]; exact h.1, ?_⟩
  have hs := block_set h.2 (1 + x) (.int .i64 (f : Int))
  rw [hs]
  have hl := h.1
  congr 2
  rw [List.setIfInBounds_toArray]
  congr 1
  simp [partL, hl, List.set_append, Nat.add_comm 1 x, hx, List.map_set]
theorem IsP.kept {w' : World} (h : IsP w b gw m F a e) (hb : Below w.heap.size w w') : IsP w' b gw m F a e := ⟨h.1, (hb.block _ (block_lt h.2)).trans h.2⟩
theorem IsP.away {k j : Nat} {u : Value} (h : IsP w b gw m F a e) (hk : b ≠ k) : IsP (w.setCell ⟨k, j, none⟩ u) b gw m F a e :=
  ⟨h.1, (Below.heap_setCell w ⟨k, j, none⟩ u b hk).trans h.2⟩
theorem IsP.drewN (h : IsP w b gw m F a e) (n : Nat) : IsP (w.drewN n) b gw m F a e := h
end
theorem set_getDN (F : List Nat) (x f : Nat) (h : x < F.length) : (F.set x f).getD x 0 = f := by
  simp [List.getD_eq_getElem?_getD, h]
set_option maxHeartbeats 1600000 in
theorem cAdd (b gw m a x : Nat) (F : List Nat) (e : Int) (W : List Int) (w : World) (hP : IsP w b gw m F a e) (hW : IsV w gw W) (hw : IsWts W (m - 1)) (hm : 0 < m) (hne : b ≠ gw) (hx : x < 256) (hf : F.getD x 0 + 1 < m) (ha : (a : Int) ≤ 100000) (he0 : -1000000000 ≤ e) (he1 : e ≤ 1000000000) (hmm : m ≤ 5000) :
    Calls Try.prog 51 #[.pointer (some ⟨b, 0, none⟩), .int .u8 x] w fun r w' => r = .returned (.tuple #[]) ∧ IsP w' b gw m (F.set x (F.getD x 0 + 1)) (a + 1) (e - wt (F.getD x 0) + wt (F.getD x 0 + 1)) ∧ Keeps (fun j => j = b) w w' := by
  obtain ⟨f, hff⟩ : ∃ f, F.getD x 0 = f := ⟨_, rfl⟩
  have hWl := hw.1
  have w1 := wt_bd f (by omega)
  have w2 := wt_bd (f + 1) (by omega)
  have g1 := hw.2 f (by omega)
  have g2 := hw.2 (f + 1) (by omega)
  have cw1 := hW.cell f (by omega)
  have cw2 := hW.cell (f + 1) (by omega)
  rw [g1] at cw1
  rw [g2] at cw2
  rw [hff] at hf ⊢
  obtain ⟨A, hA⟩ : ∃ A, wt f = A := ⟨_, rfl⟩
  obtain ⟨B, hB⟩ : ∃ B, wt (f + 1) = B := ⟨_, rfl⟩
  rw [hA] at cw1 w1 ⊢
  rw [hB] at cw2 w2 ⊢
  have HP := Lib.hid hP
  have HFF := Lib.hid hff
  have HK0 := Lib.hid (Keeps.refl (fun j => j = b) w)
  have CW1 := Lib.hid cw1
  have CW2 := Lib.hid cw2
  have ca := hP.ca
  have fa := hP.free 257
  have lb := block_lt hP.2
  have lg := block_lt hW
  have hne2 := hne.symm
  have hfi : (f : Int) < m := by omega
  have hfi2 : (f : Int) + 1 < m := by omega
  have hxi : (x : Int) < 256 := by omega
  clear hP hW hw g1 g2 hWl hA hB hff cw1 cw2
  go_enter Try.func51, Try.ntmps51
  go_wp2_with fail
  have HP1 := Lib.hid (show IsP (w.setCell ⟨b, 257, none⟩ (.int .i64 ((a : Int) + 1))) b gw m F (a + 1) e from HP.out.set_a (a + 1))
  have HK1 := Lib.hid (HK0.out.setCell (p := ⟨b, 257, none⟩) (.inr rfl) (.int .i64 ((a : Int) + 1)))
  have lb1 : b < (w.setCell ⟨b, 257, none⟩ (.int .i64 ((a : Int) + 1))).heap.size := by simpa [World.setCell] using lb
  have lg1 : gw < (w.setCell ⟨b, 257, none⟩ (.int .i64 ((a : Int) + 1))).heap.size := by simpa [World.setCell] using lg
  clear ca fa
  generalize w.setCell ⟨b, 257, none⟩ (.int .i64 ((a : Int) + 1)) = w1 at *
  have cw1 : w1.cell? ⟨gw, f, none⟩ = some (.int .i64 A) := (HK1.out.cell (p := ⟨gw, f, none⟩) lg hne2).trans CW1.out
  have c0 := HP1.out.c0
  have cf := HP1.out.cf x hx
  have ce := HP1.out.ce
  have fe := HP1.out.free 258
  rw [HFF.out] at cf
  have HP2 := Lib.hid (show IsP (w1.setCell ⟨b, 258, none⟩ (.int .i64 (e - A))).drew b gw m F (a + 1) (e - A) from (HP1.out.set_e (e - A)).drewN 1)
  have HK2 := Lib.hid ((HK1.out.setCell (p := ⟨b, 258, none⟩) (.inr rfl) (.int .i64 (e - A))).drew)
  have lb2 : b < (w1.setCell ⟨b, 258, none⟩ (.int .i64 (e - A))).drew.heap.size := block_lt HP2.out.2
  go_region
  clear c0 cf ce fe cw1 HP1 HK1 lb1 lg1
  generalize (w1.setCell ⟨b, 258, none⟩ (.int .i64 (e - A))).drew = w2 at *
  have cf := HP2.out.cf x hx
  rw [HFF.out] at cf
  have ff := HP2.out.free (1 + x)
  have HP3 := Lib.hid (show IsP (w2.setCell ⟨b, 1 + x, none⟩ (.int .i64 ((f : Int) + 1))).drew b gw m (F.set x (f + 1)) (a + 1) (e - A) from (HP2.out.set_f x (f + 1) hx).drewN 1)
  have HK3 := Lib.hid ((HK2.out.setCell (p := ⟨b, 1 + x, none⟩) (.inr rfl) (.int .i64 ((f : Int) + 1))).drew)
  go_wp2_with fail
  go_region
  clear cf ff HP2 HK2 lb2
  generalize (w2.setCell ⟨b, 1 + x, none⟩ (.int .i64 ((f : Int) + 1))).drew = w3 at *
  have lb3 := block_lt HP3.out.2
  have lg3 : gw < w3.heap.size := Nat.lt_of_lt_of_le lg HK3.out.size
  have cw3 : w3.cell? ⟨gw, f + 1, none⟩ = some (.int .i64 B) := (HK3.out.cell (p := ⟨gw, f + 1, none⟩) lg hne2).trans CW2.out
  have c0 := HP3.out.c0
  have cf := HP3.out.cf x hx
  rw [set_getDN F x (f + 1) (by rw [HP.out.1]; exact hx)] at cf
  have ce := HP3.out.ce
  have fe := HP3.out.free 258
  have HP4 := Lib.hid (show IsP (w3.setCell ⟨b, 258, none⟩ (.int .i64 (e - A + B))).drew b gw m (F.set x (f + 1)) (a + 1) (e - A + B) from (HP3.out.set_e (e - A + B)).drewN 1)
  have HK4 := Lib.hid ((HK3.out.setCell (p := ⟨b, 258, none⟩) (.inr rfl) (.int .i64 (e - A + B))).drew)
  clear HP3 HK3
  go_wp2_with fail
  go_region
  go_wp2_with fail
  go_end0
  exact ⟨rfl, HP4.out, HK4.out⟩
set_option maxHeartbeats 1600000 in
theorem cPcost (b gw m a : Nat) (F : List Nat) (e : Int) (W : List Int) (w : World) (hP : IsP w b gw m F a e) (hW : IsV w gw W) (hw : IsWts W (m - 1)) (ha : a < m) (he0 : 0 ≤ e) (he1 : e ≤ 1000000000) (hmm : m ≤ 5000) (V : Int) (hV : wt a - e = V) :
    Calls Try.prog 52 #[.pointer (some ⟨b, 0, none⟩)] w fun r w' => r = .returned (.int .i64 V) ∧ w' = w.drew := by
  have w1 := wt_bd a (by omega)
  have g1 := hw.2 a (by omega)
  have cw := hW.cell a (by have := hw.1; omega)
  rw [g1] at cw
  obtain ⟨A, hA⟩ : ∃ A, wt a = A := ⟨_, rfl⟩
  rw [hA] at cw w1 hV
  have c0 := hP.c0
  have ca := hP.ca
  have ce := hP.ce
  have lb := block_lt hP.2
  have lg := block_lt hW
  have hai : (a : Int) < m := by omega
  subst hV
  clear hP hW hw g1 hA
  go_enter Try.func52, Try.ntmps52
  go_wp2_with fail
  go_region
  go_wp2_with fail
  go_ret
  exact ⟨rfl, rfl⟩
end Go.Proofs.Ytlcdjilmfjdmhaa
