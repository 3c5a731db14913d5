/- The library's stable sort: swapRange, rotate. -/
import Derived.Test.YtofmjcelmbkebaaAH1
import Derived.Deep.RegionHeld3
namespace Go.Proofs.Ytofmjcelmbkebaa
open Go.ChangeShapes Go.WideShapes Go.ChangeAt Go.RowKit
set_option linter.unusedVariables false
set_option linter.unusedSimpArgs false
set_option maxRecDepth 100000
theorem sw_step (p q r x1 y1 x2 y2 : List Int) (u v : Int) (a b : Nat) (ha : (p ++ y1).length = a) (hb : (p ++ y1 ++ u :: (x2 ++ q ++ x1)).length = b) :
    (((p ++ (y1 ++ u :: x2) ++ q ++ (x1 ++ v :: y2) ++ r).set a v).set b u) = p ++ ((y1 ++ [v]) ++ x2) ++ q ++ ((x1 ++ [u]) ++ y2) ++ r ∧
      (p ++ (y1 ++ u :: x2) ++ q ++ (x1 ++ v :: y2) ++ r).getD a 0 = u ∧ (p ++ (y1 ++ u :: x2) ++ q ++ (x1 ++ v :: y2) ++ r).getD b 0 = v := by
  have e : p ++ (y1 ++ u :: x2) ++ q ++ (x1 ++ v :: y2) ++ r = (p ++ y1) ++ u :: ((x2 ++ q ++ x1) ++ v :: (y2 ++ r)) := by simp
  have hb' : b = (p ++ y1).length + 1 + (x2 ++ q ++ x1).length := by rw [← hb, List.length_append, List.length_cons]; omega
  rw [e, hb', ← ha, St.set_two]
  exact ⟨by simp, St.get_mid _ _ _, St.get_far _ _ _ _ _⟩
set_option maxHeartbeats 1600000 in
theorem sSwap (f : Value) (B g n cap a b k : Nat) (p x q y r : List Int) (w : World) (hO : OwnI B w (.slice (some ⟨g, 0, none⟩) n cap) (p ++ x ++ q ++ y ++ r)) (ha : p.length = a) (hb : (p ++ x ++ q).length = b) (hx : x.length = k) (hy : y.length = k) (hn : n ≤ 1000000) :
    Calls Try.prog 66 #[.slice (some ⟨g, 0, none⟩) n cap, .int .i64 a, .int .i64 b, .int .i64 k, f] w fun e w' => e = .returned (.tuple #[]) ∧ OwnI B w' (.slice (some ⟨g, 0, none⟩) n cap) (p ++ y ++ q ++ x ++ r) ∧ Keeps (fun j => j = g) w w' := by
  have hN : n = (p ++ x ++ q ++ y ++ r).length := by
    rcases hO.2 with ⟨h0, -⟩ | ⟨g', cap', cur', h0, -⟩ <;> simp at h0 ⊢; omega
  have hbn : b + k ≤ n := by rw [hN, ← hb]; simp only [List.length_append] at *; omega
  have hab : a + k ≤ b := by rw [← hb]; simp only [List.length_append] at *; omega
  have HO := Lib.hid hO
  have HA := Lib.hid ha; have HB := Lib.hid hb; have HX := Lib.hid hx; have HY := Lib.hid hy
  have HNL := Lib.hid hN
  have HW := Lib.hid (Keeps.refl (fun j => j = g) w)
  clear hO ha hb hx hy hN
  go_enter Try.func66, Try.ntmps66
  go_wp2_with fail
  go_loopw [10] (fun iv wr => ∃ (i : Nat), i ≤ k ∧ iv = .int .i64 i ∧ Hid (OwnI B wr (.slice (some ⟨g, 0, none⟩) n cap) (p ++ (y.take i ++ x.drop i) ++ q ++ (x.take i ++ y.drop i) ++ r)) ∧ Hid (Keeps (fun j => j = g) w wr)) (fun iv _ => k - (intOf iv).toNat)
  case atStart => exact ⟨0, Nat.zero_le _, rfl, Lib.hid (by simpa using HO.out), HW⟩
  case round =>
    clear HO HW
    obtain ⟨i, hi, rfl, HO, HW⟩ := hrel
    by_cases hlt : i < k
    · have hii : (i : Int) < k := by omega
      have hix : i < x.length := by rw [HX.out]; exact hlt
      have hiy : i < y.length := by rw [HY.out]; exact hlt
      obtain ⟨u, hu⟩ : ∃ u, x[i] = u := ⟨_, rfl⟩
      obtain ⟨v, hv⟩ : ∃ v, y[i] = v := ⟨_, rfl⟩
      have ex : x.drop i = u :: x.drop (i + 1) := by rw [List.drop_eq_getElem_cons hix, hu]
      have ey : y.drop i = v :: y.drop (i + 1) := by rw [List.drop_eq_getElem_cons hiy, hv]
      have tx : x.take (i + 1) = x.take i ++ [u] := by rw [List.take_succ_eq_append_getElem hix, hu]
      have ty : y.take (i + 1) = y.take i ++ [v] := by rw [List.take_succ_eq_append_getElem hiy, hv]
      have HO1 := HO.out
      rw [ex, ey] at HO1
      obtain ⟨s1, s2, s3⟩ := sw_step p q r (x.take i) (y.take i) (x.drop (i + 1)) (y.drop (i + 1)) u v (a + i) (b + i) (by rw [List.length_append, HA.out, List.length_take_of_le (by omega)]) (by
        have hb := HB.out
        have hx := HX.out
        have ha := HA.out
        simp only [List.length_append, List.length_cons, List.length_take_of_le (Nat.le_of_lt hix), List.length_take_of_le (Nat.le_of_lt hiy), List.length_drop] at *
        omega)
      have HE := Lib.hid (show p ++ ((y.take i ++ [v]) ++ x.drop (i + 1)) ++ q ++ ((x.take i ++ [u]) ++ y.drop (i + 1)) ++ r = p ++ (y.take (i + 1) ++ x.drop (i + 1)) ++ q ++ (x.take (i + 1) ++ y.drop (i + 1)) ++ r by rw [tx, ty])
      rw [HE.out] at s1
      clear HE HO ex ey tx ty hix hiy hu hv
      have hlen : (p ++ (y.take i ++ u :: x.drop (i + 1)) ++ q ++ (x.take i ++ v :: y.drop (i + 1)) ++ r).length = n := by
        rcases HO1.2 with ⟨h0, -⟩ | ⟨g', cap', cur', h0, -⟩ <;> simp at h0 ⊢; omega
      obtain ⟨LL, hLL⟩ : ∃ LL, p ++ (y.take i ++ u :: x.drop (i + 1)) ++ q ++ (x.take i ++ v :: y.drop (i + 1)) ++ r = LL := ⟨_, rfl⟩
      rw [hLL] at s1 s2 s3 HO1 hlen
      have hAi : a + i < n := by omega
      have hBi : b + i < n := by omega
      have c1 := HO1.int_cell (a + i) (by omega)
      have c2 := HO1.int_cell (b + i) (by omega)
      rw [s2] at c1
      rw [s3] at c2
      have f1 := HO1.free (a + i)
      have f2 := HO1.free (b + i)
      have lg := (HO1.lt _ rfl).2
      have hO2 := (HO1.set_int (a + i) v (by omega)).set_int (b + i) u (by rw [List.length_set]; omega)
      rw [s1] at hO2
      have HO2 := Lib.hid hO2
      have HW2 := Lib.hid ((HW.out.setCell (p := ⟨g, a + i, none⟩) (.inr rfl) (.int .i64 v)).setCell (p := ⟨g, b + i, none⟩) (.inr rfl) (.int .i64 u))
      have hne : a + i ≠ b + i := by omega
      clear s1 s2 s3 hLL HO1 HW hO2 HA HB HX HY HNL
      obtain ⟨AI, hAI⟩ : ∃ AI : Nat, a + i = AI := ⟨_, rfl⟩
      obtain ⟨BI, hBI⟩ : ∃ BI : Nat, b + i = BI := ⟨_, rfl⟩
      rw [hAI] at c1 f1 HO2 HW2 hAi hne
      rw [hBI] at c2 f2 HO2 HW2 hBi hne
      have eA : (a : Int) + i = AI := by omega
      have eB : (b : Int) + i = BI := by omega
      have eA' : (a : Int) + i = AI := eA
      have hAin : (AI : Int) < n := by omega
      have hBin : (BI : Int) < n := by omega
      have wA : IntKind.i64.wrap (AI : Int) = AI := IntWalk.i64_in _ (by omega)
      have wB : IntKind.i64.wrap (BI : Int) = BI := IntWalk.i64_in _ (by omega)
      clear hAI hBI hlen
      go_wp2_with fail
      go_region
      go_wp2_with fail
      go_roundw
      case rel => exact ⟨i + 1, by omega, by go_num, HO2, Lib.hid HW2.out.drew⟩
      case measure => simp [intOf] <;> omega
    · obtain rfl : i = k := by omega
      have hO2 := HO.out
      have e1 : y.take i = y := List.take_of_length_le (by rw [HY.out]; exact Nat.le_refl _)
      have e2 : x.take i = x := List.take_of_length_le (by rw [HX.out]; exact Nat.le_refl _)
      have e3 : y.drop i = [] := List.drop_of_length_le (by rw [HY.out]; exact Nat.le_refl _)
      have e4 : x.drop i = [] := List.drop_of_length_le (by rw [HX.out]; exact Nat.le_refl _)
      rw [e1, e2, e3, e4, List.append_nil, List.append_nil] at hO2
      clear e1 e2 e3 e4
      have HO2 := Lib.hid hO2
      clear hO2 HO
      go_wp2_with fail
      go_end0
      exact ⟨rfl, HO2.out, HW.out⟩
end Go.Proofs.Ytofmjcelmbkebaa
