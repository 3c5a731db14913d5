/- The library's stable sort: rotate. -/
import Derived.Test.YtofmjcelmbkebaaAH2
namespace Go.Proofs.Ytofmjcelmbkebaa
open Go.ChangeShapes Go.WideShapes Go.ChangeAt Go.RowKit
set_option linter.unusedVariables false
set_option linter.unusedSimpArgs false
set_option maxRecDepth 100000
theorem own_n {B g n cap : Nat} {w : World} {l : List Int} (h : OwnI B w (.slice (some ⟨g, 0, none⟩) n cap) l) : n = l.length := by
  rcases h.2 with ⟨h0, -⟩ | ⟨g', cap', cur', h0, -⟩ <;> simp at h0; omega
set_option maxHeartbeats 1600000 in
theorem sRotate (f : Value) (B g n cap a m b : Nat) (p x y q : List Int) (w : World) (hO : OwnI B w (.slice (some ⟨g, 0, none⟩) n cap) (p ++ x ++ y ++ q)) (ha : p.length = a) (hm : (p ++ x).length = m) (hb : (p ++ x ++ y).length = b) (hx : 0 < x.length) (hy : 0 < y.length) (hn : n ≤ 1000000) :
    Calls Try.prog 63 #[.slice (some ⟨g, 0, none⟩) n cap, .int .i64 a, .int .i64 m, .int .i64 b, f] w fun e w' => e = .returned (.tuple #[]) ∧ OwnI B w' (.slice (some ⟨g, 0, none⟩) n cap) (p ++ y ++ x ++ q) ∧ Keeps (fun j => j = g) w w' := by
  have hN := own_n hO
  have CS := Lib.hid (fun a b k p x q y r W h1 h2 h3 h4 h5 => sSwap f B g n cap a b k p x q y r W h1 h2 h3 h4 h5 hn)
  obtain ⟨I0, hI0⟩ : ∃ I0 : Nat, x.length = I0 := ⟨_, rfl⟩
  obtain ⟨J0, hJ0⟩ : ∃ J0 : Nat, y.length = J0 := ⟨_, rfl⟩
  have e1 : (m : Int) - a = I0 := by simp only [List.length_append] at hm; omega
  have e2 : (b : Int) - m = J0 := by simp only [List.length_append] at hm hb; omega
  have HREL := Lib.hid (show ∃ P X Y Q : List Int, P.length + X.length = m ∧ X.length = I0 ∧ Y.length = J0 ∧ P ++ Y ++ X ++ Q = p ++ y ++ x ++ q ∧ OwnI B w (.slice (some ⟨g, 0, none⟩) n cap) (P ++ X ++ Y ++ Q) from ⟨p, x, y, q, by rw [← hm, List.length_append], hI0, hJ0, rfl, hO⟩)
  have hI1 : 0 < I0 := by omega
  have hJ1 : 0 < J0 := by omega
  obtain ⟨T, hT⟩ : ∃ T, p ++ y ++ x ++ q = T := ⟨_, rfl⟩
  rw [hT] at HREL ⊢
  have hI2 : I0 ≤ n := by rw [hN]; simp only [List.length_append]; omega
  have hJ2 : J0 ≤ n := by rw [hN]; simp only [List.length_append]; omega
  have hmn : m ≤ n := by rw [hN, ← hm]; simp only [List.length_append]; omega
  have HW := Lib.hid (Keeps.refl (fun j => j = g) w)
  clear hO ha hm hb hx hy hN hI0 hJ0 hT
  go_enter Try.func63, Try.ntmps63
  go_wp2_with fail
  clear e1 e2
  go_loopw [10, 11] (fun iv jv wr => ∃ (i j : Nat), iv = .int .i64 i ∧ jv = .int .i64 j ∧ 0 < i ∧ 0 < j ∧ Hid (∃ P X Y Q : List Int, P.length + X.length = m ∧ X.length = i ∧ Y.length = j ∧ P ++ Y ++ X ++ Q = T ∧ OwnI B wr (.slice (some ⟨g, 0, none⟩) n cap) (P ++ X ++ Y ++ Q)) ∧ Hid (Keeps (fun j => j = g) w wr)) (fun iv jv _ => (intOf iv).toNat + (intOf jv).toNat)
  case atStart => exact ⟨I0, J0, by go_num, by go_num, hI1, hJ1, HREL, HW⟩
  case round =>
    clear HREL HW hI1 hJ1
    obtain ⟨i, j, rfl, rfl, hi1, hj1, HREL, HW⟩ := hrel
    obtain ⟨P, X, Y, Q, g1, g2, g3, g4, hO⟩ := HREL.out
    have hN := own_n hO
    simp only [List.length_append] at hN
    obtain ⟨A, hA⟩ : ∃ A : Nat, P.length = A := ⟨_, rfl⟩
    have eA : (m : Int) - i = A := by omega
    have hmj : (m : Int) + j ≤ 1000000 := by omega
    have him : (i : Int) ≤ m := by omega
    have HO := Lib.hid hO
    have HT := Lib.hid g4
    clear HREL hO g4
    by_cases hij : i = j
    · subst hij
      have C1 := Lib.hid (CS.out A m i P X [] Y Q wr (by rw [List.append_nil]; exact HO.out) hA (by simp; omega) g2 g3)
      have q1 : ((i : Int) == (i : Int)) = true := by simp
      have q2 : ((i : Int) != (i : Int)) = false := by simp
      clear hN g1 g2 g3 hA CS
      go_wp2_with fail
      refine C1.out.mono ?_; rintro e w2 ⟨rfl, ho, hk⟩
      rw [List.append_nil, HT.out] at ho
      have HO2 := Lib.hid ho
      have HW2 := Lib.hid (HW.out.trans hk)
      go_wp2_with fail
      go_end0
      exact ⟨rfl, HO2.out, HW2.out⟩
    · have q1 : ((i : Int) == (j : Int)) = false := by rw [beq_eq_false_iff_ne]; omega
      have q2 : ((i : Int) != (j : Int)) = true := by rw [bne, q1]; rfl
      by_cases hgt : j < i
      · obtain ⟨X1, X2, rfl, hx1⟩ := St.cut_le X j (by omega)
        have C1 := Lib.hid (CS.out A m j P X1 X2 Y Q wr (by rw [List.append_assoc P X1 X2]; exact HO.out) hA (by simp only [List.length_append] at *; omega) hx1 g3)
        have HT2 := Lib.hid (show (P ++ Y) ++ X1 ++ X2 ++ Q = T by rw [← HT.out]; simp)
        have hx2 : X2.length = i - j := by simp only [List.length_append] at *; omega
        have hp2 : (P ++ Y).length + X2.length = m := by simp only [List.length_append] at *; omega
        have hgi : (j : Int) < i := by omega
        have hgj : decide ((j : Int) < i) = true := decide_eq_true hgi
        obtain ⟨d, hd⟩ : ∃ d : Nat, i - j = d := ⟨_, rfl⟩
        have hdi : (i : Int) - j = d := by omega
        rw [hd] at hx2
        have HL := Lib.hid hx1
        have HL2 := Lib.hid hx2
        have HP2 := Lib.hid hp2
        clear hN g1 g2 g3 hA hx1 hx2 hp2
        go_wp2_with fail
        refine C1.out.mono ?_; rintro e w2 ⟨rfl, ho, hk⟩
        have HR2 := Lib.hid (show ∃ P X Y Q : List Int, P.length + X.length = m ∧ X.length = d ∧ Y.length = j ∧ P ++ Y ++ X ++ Q = T ∧ OwnI B w2 (.slice (some ⟨g, 0, none⟩) n cap) (P ++ X ++ Y ++ Q) from ⟨P ++ Y, X2, X1, Q, HP2.out, HL2.out, HL.out, HT2.out, ho⟩)
        have HW2 := Lib.hid (HW.out.trans hk)
        clear ho hk HO HW
        go_wp2_with fail
        go_roundw
        case rel => exact ⟨d, j, rfl, rfl, by omega, hj1, HR2, HW2⟩
        case measure => simp [intOf] <;> omega
      · have hlt : i < j := by omega
        obtain ⟨Y1, Y2, rfl, hy1⟩ := St.cut_le Y (j - i) (by omega)
        obtain ⟨BB, hBB⟩ : ∃ BB : Nat, m + j - i = BB := ⟨_, rfl⟩
        have eB : (m : Int) + j - i = BB := by omega
        have C1 := Lib.hid (CS.out A BB i P X Y1 Y2 Q wr (by rw [List.append_assoc (P ++ X) Y1 Y2]; exact HO.out) hA (by simp only [List.length_append] at *; omega) g2 (by simp only [List.length_append] at *; omega))
        have HT2 := Lib.hid (show P ++ Y1 ++ Y2 ++ (X ++ Q) = T by rw [← HT.out]; simp)
        have hgi : ¬ (j : Int) < i := by omega
        have hgj : decide ((j : Int) < i) = false := decide_eq_false hgi
        obtain ⟨d, hd⟩ : ∃ d : Nat, j - i = d := ⟨_, rfl⟩
        have hdi : (j : Int) - i = d := by omega
        rw [hd] at hy1
        have HL := Lib.hid hy1
        have HL2 := Lib.hid (show Y2.length = i by simp only [List.length_append] at *; omega)
        have HP2 := Lib.hid (show P.length + Y2.length = m by simp only [List.length_append] at *; omega)
        clear hN g1 g2 g3 hA hy1
        go_wp2_with fail
        refine C1.out.mono ?_; rintro e w2 ⟨rfl, ho, hk⟩
        have HR2 := Lib.hid (show ∃ P X Y Q : List Int, P.length + X.length = m ∧ X.length = i ∧ Y.length = d ∧ P ++ Y ++ X ++ Q = T ∧ OwnI B w2 (.slice (some ⟨g, 0, none⟩) n cap) (P ++ X ++ Y ++ Q) from ⟨P, Y2, Y1, X ++ Q, HP2.out, HL2.out, HL.out, HT2.out, by rw [← List.append_assoc]; exact ho⟩)
        have HW2 := Lib.hid (HW.out.trans hk)
        clear ho hk HO HW
        go_wp2_with fail
        go_roundw
        case rel => exact ⟨i, d, rfl, rfl, hi1, by omega, HR2, HW2⟩
        case measure => simp [intOf] <;> omega
end Go.Proofs.Ytofmjcelmbkebaa
