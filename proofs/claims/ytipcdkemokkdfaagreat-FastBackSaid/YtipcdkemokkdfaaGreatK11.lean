import Derived.Test.YtipcdkemokkdfaaGreatK01
import Derived.Deep.RegionHeld3
import Derived.BigQuiet
import Derived.Deep.QuietTactic
/- The library's stable sort: the order by what a function says, then by the number itself; merging. -/
namespace Go.Proofs.YtipcdkemokkdfaaGreat.St
set_option linter.unusedVariables false
set_option maxRecDepth 100000

def lx (fr : Int → Int) (x y : Int) : Prop := fr x < fr y ∨ (fr x = fr y ∧ x < y)
instance (fr : Int → Int) (x y : Int) : Decidable (lx fr x y) := by unfold lx; exact inferInstance
theorem lx_trans {fr : Int → Int} {x y z : Int} (h : lx fr x y) (k : lx fr y z) : lx fr x z := by unfold lx at *; omega
theorem lx_asymm {fr : Int → Int} {x y : Int} (h : lx fr x y) (k : lx fr y x) : False := by unfold lx at *; omega
theorem lx_up {fr : Int → Int} {x y : Int} (h : x < y) : lx fr x y ↔ ¬ fr y < fr x := by unfold lx; omega
def Srt (fr : Int → Int) (l : List Int) : Prop := l.Pairwise (lx fr)
theorem srt_unique {fr : Int → Int} : ∀ (a b : List Int), Srt fr a → Srt fr b → a.Perm b → a = b
  | [], b, _, _, h => by simpa using h.symm.eq_nil.symm
  | x :: a, [], _, _, h => by have := h.length_eq; simp at this
  | x :: a, y :: b, ha, hb, h => by
    have hx : x ∈ y :: b := h.mem_iff.1 (by simp)
    have hy : y ∈ x :: a := h.mem_iff.2 (by simp)
    have ha' := List.pairwise_cons.1 ha
    have hb' := List.pairwise_cons.1 hb
    have e : x = y := by
      rcases List.mem_cons.1 hx with e | h1
      · exact e
      · rcases List.mem_cons.1 hy with e | h2
        · exact e.symm
        · exact (lx_asymm (ha'.1 y h2) (hb'.1 x h1)).elim
    subst e
    rw [srt_unique a b ha'.2 hb'.2 (List.Perm.cons_inv h)]
def insF (fr : Int → Int) (u : Int) : List Int → List Int
  | [] => [u]
  | v :: r => if lx fr u v then u :: v :: r else v :: insF fr u r
def sortF (fr : Int → Int) : List Int → List Int
  | [] => []
  | x :: l => insF fr x (sortF fr l)
theorem insF_perm (fr : Int → Int) (u : Int) : ∀ l, (insF fr u l).Perm (u :: l)
  | [] => List.Perm.refl _
  | v :: r => by
    unfold insF
    split
    · exact List.Perm.refl _
    · exact ((insF_perm fr u r).cons v).trans (List.Perm.swap u v r)
theorem sortF_perm (fr : Int → Int) : ∀ l, (sortF fr l).Perm l
  | [] => List.Perm.refl _
  | x :: l => (insF_perm fr x _).trans ((sortF_perm fr l).cons x)
theorem insF_srt (fr : Int → Int) (u : Int) : ∀ l, Srt fr l → (∀ v ∈ l, v ≠ u) → Srt fr (insF fr u l)
  | [], _, _ => by simp [insF, Srt]
  | v :: r, h, hn => by
    have h' := List.pairwise_cons.1 h
    unfold insF
    split
    · rename_i hlt
      refine List.pairwise_cons.2 ⟨fun z hz => ?_, h⟩
      rcases List.mem_cons.1 hz with rfl | hz
      · exact hlt
      · exact lx_trans hlt (h'.1 z hz)
    · rename_i hlt
      refine List.pairwise_cons.2 ⟨fun z hz => ?_, insF_srt fr u r h'.2 (fun w hw => hn w (by simp [hw]))⟩
      have hz' := (insF_perm fr u r).mem_iff.1 hz
      rcases List.mem_cons.1 hz' with rfl | hz'
      · have := hn v (by simp)
        unfold lx at *; omega
      · exact h'.1 z hz'
theorem sortF_srt (fr : Int → Int) : ∀ l : List Int, l.Nodup → Srt fr (sortF fr l)
  | [], _ => by simp [sortF, Srt]
  | x :: l, h => by
    have h' := List.nodup_cons.1 h
    refine insF_srt fr x _ (sortF_srt fr l h'.2) (fun v hv e => ?_)
    subst e
    exact h'.1 ((sortF_perm fr l).mem_iff.1 hv)
theorem asc_nodup {l : List Int} (h : l.Pairwise (· < ·)) : l.Nodup := h.imp (fun {a b} (hab : a < b) => (show a ≠ b by omega))
/-- Two places of a row are turned round. -/
theorem set_two (A B C : List Int) (u v : Int) : ((A ++ u :: (B ++ v :: C)).set A.length v).set (A.length + 1 + B.length) u = A ++ v :: (B ++ u :: C) := by
  rw [List.set_append_right _ _ (Nat.le_refl _), Nat.sub_self, List.set_cons_zero, List.set_append_right _ _ (by omega), show A.length + 1 + B.length - A.length = B.length + 1 by omega, List.set_cons_succ, List.set_append_right _ _ (Nat.le_refl _), Nat.sub_self, List.set_cons_zero]
theorem get_mid (A C : List Int) (u : Int) : (A ++ u :: C).getD A.length 0 = u := by
  simp [List.getD_eq_getElem?_getD]
theorem get_far (A B C : List Int) (u v : Int) : (A ++ u :: (B ++ v :: C)).getD (A.length + 1 + B.length) 0 = v := by
  have := get_mid (A ++ u :: B) C v
  rw [List.length_append, List.length_cons, List.append_assoc, List.cons_append] at this
  rw [show A.length + (B.length + 1) = A.length + 1 + B.length by omega] at this
  exact this
theorem cut_le (l : List Int) (i : Nat) (h : i ≤ l.length) : ∃ a b, l = a ++ b ∧ a.length = i :=
  ⟨l.take i, l.drop i, (List.take_append_drop _ _).symm, List.length_take_of_le h⟩
theorem srt_append {fr : Int → Int} {a b : List Int} : Srt fr (a ++ b) ↔ Srt fr a ∧ Srt fr b ∧ ∀ x ∈ a, ∀ y ∈ b, lx fr x y := List.pairwise_append
def cmpV (a b : Int) : Int := if a < b then -1 else if b < a then 1 else 0
theorem cmpV_neg (a b : Int) : decide (cmpV a b < 0) = decide (a < b) := by
  unfold cmpV
  by_cases h : a < b
  · rw [if_pos h]; simp [h]
  · rw [if_neg h]
    split <;> simp [h]
end Go.Proofs.YtipcdkemokkdfaaGreat.St

/- The library's stable sort: swapRange, rotate. -/
namespace Go.Proofs.YtipcdkemokkdfaaGreat
open Go.ChangeShapes Go.WideShapes Go.ChangeAt Go.RowKit
set_option linter.unusedVariables false
set_option linter.unusedSimpArgs false
set_option maxRecDepth 100000
theorem sw_step (p q r x1 y1 x2 y2 : List Int) (u v : Int) (a b : Nat) (ha : (p ++ y1).length = a) (hb : (p ++ y1 ++ u :: (x2 ++ q ++ x1)).length = b) :
    (((p ++ (y1 ++ u :: x2) ++ q ++ (x1 ++ v :: y2) ++ r).set a v).set b u) = p ++ ((y1 ++ [v]) ++ x2) ++ q ++ ((x1 ++ [u]) ++ y2) ++ r ∧
      (p ++ (y1 ++ u :: x2) ++ q ++ (x1 ++ v :: y2) ++ r).getD a 0 = u ∧ (p ++ (y1 ++ u :: x2) ++ q ++ (x1 ++ v :: y2) ++ r).getD b 0 = v := by
  have e : p ++ (y1 ++ u :: x2) ++ q ++ (x1 ++ v :: y2) ++ r = (p ++ y1) ++ u :: ((x2 ++ q ++ x1) ++ v :: (y2 ++ r)) := by simp
  have hb' : b = (p ++ y1).length + 1 + (x2 ++ q ++ x1).length := by rw [← hb, List.length_append, List.length_cons]; omega
  rw [e, hb', ← ha, St.set_two]
  exact ⟨by simp, St.get_mid _ _ _, St.get_far _ _ _ _ _⟩
set_option maxHeartbeats 1600000 in
theorem sSwap (f : Value) (B g n cap a b k : Nat) (p x q y r : List Int) (w : World) (hO : OwnI B w (.slice (some ⟨g, 0, none⟩) n cap) (p ++ x ++ q ++ y ++ r)) (ha : p.length = a) (hb : (p ++ x ++ q).length = b) (hx : x.length = k) (hy : y.length = k) (hn : n ≤ 1000000) :
    Calls Tryz.prog 124 #[.slice (some ⟨g, 0, none⟩) n cap, .int .i64 a, .int .i64 b, .int .i64 k, f] w fun e w' => e = .returned (.tuple #[]) ∧ OwnI B w' (.slice (some ⟨g, 0, none⟩) n cap) (p ++ y ++ q ++ x ++ r) ∧ Keeps (fun j => j = g) w w' := by
  have hN : n = (p ++ x ++ q ++ y ++ r).length := by
    rcases hO.2 with ⟨h0, -⟩ | ⟨g', cap', cur', h0, -⟩ <;> simp at h0 ⊢; omega
  have hbn : b + k ≤ n := by rw [hN, ← hb]; simp only [List.length_append] at *; omega
  have hab : a + k ≤ b := by rw [← hb]; simp only [List.length_append] at *; omega
  have HO := Lib.hid hO
  have HA := Lib.hid ha; have HB := Lib.hid hb; have HX := Lib.hid hx; have HY := Lib.hid hy
  have HNL := Lib.hid hN
  have HW := Lib.hid (Keeps.refl (fun j => j = g) w)
  clear hO ha hb hx hy hN
  go_enter Tryz.func124, Tryz.ntmps124
  go_wp2_with fail
  go_loopw [10] (fun iv wr => ∃ (i : Nat), i ≤ k ∧ iv = .int .i64 i ∧ Hid (OwnI B wr (.slice (some ⟨g, 0, none⟩) n cap) (p ++ (y.take i ++ x.drop i) ++ q ++ (x.take i ++ y.drop i) ++ r)) ∧ Hid (Keeps (fun j => j = g) w wr)) (fun iv _ => k - (intOf iv).toNat)
  case atStart => exact ⟨0, Nat.zero_le _, rfl, Lib.hid (by simpa using HO.out), HW⟩
  case round =>
    clear HO HW
    obtain ⟨i, hi, rfl, HO, HW⟩ := hrel
    by_cases hlt : i < k
    · have hii : (i : Int) < k := by omega
      have hix : i < x.length := by rw [HX.out]; exact hlt
      have hiy : i < y.length := by rw [HY.out]; exact hlt
      obtain ⟨u, hu⟩ : ∃ u, x[i] = u := ⟨_, rfl⟩
      obtain ⟨v, hv⟩ : ∃ v, y[i] = v := ⟨_, rfl⟩
      have ex : x.drop i = u :: x.drop (i + 1) := by rw [List.drop_eq_getElem_cons hix, hu]
      have ey : y.drop i = v :: y.drop (i + 1) := by rw [List.drop_eq_getElem_cons hiy, hv]
      have tx : x.take (i + 1) = x.take i ++ [u] := by rw [List.take_succ_eq_append_getElem hix, hu]
      have ty : y.take (i + 1) = y.take i ++ [v] := by rw [List.take_succ_eq_append_getElem hiy, hv]
      have HO1 := HO.out
      rw [ex, ey] at HO1
      obtain ⟨s1, s2, s3⟩ := sw_step p q r (x.take i) (y.take i) (x.drop (i + 1)) (y.drop (i + 1)) u v (a + i) (b + i) (by rw [List.length_append, HA.out, List.length_take_of_le (by omega)]) (by
        have hb := HB.out
        have hx := HX.out
        have ha := HA.out
        simp only [List.length_append, List.length_cons, List.length_take_of_le (Nat.le_of_lt hix), List.length_take_of_le (Nat.le_of_lt hiy), List.length_drop] at *
        omega)
      have HE := Lib.hid (show p ++ ((y.take i ++ [v]) ++ x.drop (i + 1)) ++ q ++ ((x.take i ++ [u]) ++ y.drop (i + 1)) ++ r = p ++ (y.take (i + 1) ++ x.drop (i + 1)) ++ q ++ (x.take (i + 1) ++ y.drop (i + 1)) ++ r by rw [tx, ty])
      rw [HE.out] at s1
      clear HE HO ex ey tx ty hix hiy hu hv
      have hlen : (p ++ (y.take i ++ u :: x.drop (i + 1)) ++ q ++ (x.take i ++ v :: y.drop (i + 1)) ++ r).length = n := by
        rcases HO1.2 with ⟨h0, -⟩ | ⟨g', cap', cur', h0, -⟩ <;> simp at h0 ⊢; omega
      obtain ⟨LL, hLL⟩ : ∃ LL, p ++ (y.take i ++ u :: x.drop (i + 1)) ++ q ++ (x.take i ++ v :: y.drop (i + 1)) ++ r = LL := ⟨_, rfl⟩
      rw [hLL] at s1 s2 s3 HO1 hlen
      have hAi : a + i < n := by omega
      have hBi : b + i < n := by omega
      have c1 := HO1.int_cell (a + i) (by omega)
      have c2 := HO1.int_cell (b + i) (by omega)
      rw [s2] at c1
      rw [s3] at c2
      have f1 := HO1.free (a + i)
      have f2 := HO1.free (b + i)
      have lg := (HO1.lt _ rfl).2
      have hO2 := (HO1.set_int (a + i) v (by omega)).set_int (b + i) u (by rw [List.length_set]; omega)
      rw [s1] at hO2
      have HO2 := Lib.hid hO2
      have HW2 := Lib.hid ((HW.out.setCell (p := ⟨g, a + i, none⟩) (.inr rfl) (.int .i64 v)).setCell (p := ⟨g, b + i, none⟩) (.inr rfl) (.int .i64 u))
      have hne : a + i ≠ b + i := by omega
      clear s1 s2 s3 hLL HO1 HW hO2 HA HB HX HY HNL
      obtain ⟨AI, hAI⟩ : ∃ AI : Nat, a + i = AI := ⟨_, rfl⟩
      obtain ⟨BI, hBI⟩ : ∃ BI : Nat, b + i = BI := ⟨_, rfl⟩
      rw [hAI] at c1 f1 HO2 HW2 hAi hne
      rw [hBI] at c2 f2 HO2 HW2 hBi hne
      have eA : (a : Int) + i = AI := by omega
      have eB : (b : Int) + i = BI := by omega
      have eA' : (a : Int) + i = AI := eA
      have hAin : (AI : Int) < n := by omega
      have hBin : (BI : Int) < n := by omega
      have wA : IntKind.i64.wrap (AI : Int) = AI := IntWalk.i64_in _ (by omega)
      have wB : IntKind.i64.wrap (BI : Int) = BI := IntWalk.i64_in _ (by omega)
      clear hAI hBI hlen
      go_wp2_with fail
      go_region
      go_wp2_with fail
      go_roundw
      case rel => exact ⟨i + 1, by omega, by go_num, HO2, Lib.hid HW2.out.drew⟩
      case measure => simp [intOf] <;> omega
    · obtain rfl : i = k := by omega
      have hO2 := HO.out
      have e1 : y.take i = y := List.take_of_length_le (by rw [HY.out]; exact Nat.le_refl _)
      have e2 : x.take i = x := List.take_of_length_le (by rw [HX.out]; exact Nat.le_refl _)
      have e3 : y.drop i = [] := List.drop_of_length_le (by rw [HY.out]; exact Nat.le_refl _)
      have e4 : x.drop i = [] := List.drop_of_length_le (by rw [HX.out]; exact Nat.le_refl _)
      rw [e1, e2, e3, e4, List.append_nil, List.append_nil] at hO2
      clear e1 e2 e3 e4
      have HO2 := Lib.hid hO2
      clear hO2 HO
      go_wp2_with fail
      go_end0
      exact ⟨rfl, HO2.out, HW.out⟩
end Go.Proofs.YtipcdkemokkdfaaGreat

/- The library's stable sort: rotate. -/
namespace Go.Proofs.YtipcdkemokkdfaaGreat
open Go.ChangeShapes Go.WideShapes Go.ChangeAt Go.RowKit
set_option linter.unusedVariables false
set_option linter.unusedSimpArgs false
set_option maxRecDepth 100000
theorem own_n {B g n cap : Nat} {w : World} {l : List Int} (h : OwnI B w (.slice (some ⟨g, 0, none⟩) n cap) l) : n = l.length := by
  rcases h.2 with ⟨h0, -⟩ | ⟨g', cap', cur', h0, -⟩ <;> simp at h0; omega
set_option maxHeartbeats 1600000 in
theorem sRotate (f : Value) (B g n cap a m b : Nat) (p x y q : List Int) (w : World) (hO : OwnI B w (.slice (some ⟨g, 0, none⟩) n cap) (p ++ x ++ y ++ q)) (ha : p.length = a) (hm : (p ++ x).length = m) (hb : (p ++ x ++ y).length = b) (hx : 0 < x.length) (hy : 0 < y.length) (hn : n ≤ 1000000) :
    Calls Tryz.prog 123 #[.slice (some ⟨g, 0, none⟩) n cap, .int .i64 a, .int .i64 m, .int .i64 b, f] w fun e w' => e = .returned (.tuple #[]) ∧ OwnI B w' (.slice (some ⟨g, 0, none⟩) n cap) (p ++ y ++ x ++ q) ∧ Keeps (fun j => j = g) w w' := by
  have hN := own_n hO
  have CS := Lib.hid (fun a b k p x q y r W h1 h2 h3 h4 h5 => sSwap f B g n cap a b k p x q y r W h1 h2 h3 h4 h5 hn)
  obtain ⟨I0, hI0⟩ : ∃ I0 : Nat, x.length = I0 := ⟨_, rfl⟩
  obtain ⟨J0, hJ0⟩ : ∃ J0 : Nat, y.length = J0 := ⟨_, rfl⟩
  have e1 : (m : Int) - a = I0 := by simp only [List.length_append] at hm; omega
  have e2 : (b : Int) - m = J0 := by simp only [List.length_append] at hm hb; omega
  have HREL := Lib.hid (show ∃ P X Y Q : List Int, P.length + X.length = m ∧ X.length = I0 ∧ Y.length = J0 ∧ P ++ Y ++ X ++ Q = p ++ y ++ x ++ q ∧ OwnI B w (.slice (some ⟨g, 0, none⟩) n cap) (P ++ X ++ Y ++ Q) from ⟨p, x, y, q, by rw [← hm, List.length_append], hI0, hJ0, rfl, hO⟩)
  have hI1 : 0 < I0 := by omega
  have hJ1 : 0 < J0 := by omega
  obtain ⟨T, hT⟩ : ∃ T, p ++ y ++ x ++ q = T := ⟨_, rfl⟩
  rw [hT] at HREL ⊢
  have hI2 : I0 ≤ n := by rw [hN]; simp only [List.length_append]; omega
  have hJ2 : J0 ≤ n := by rw [hN]; simp only [List.length_append]; omega
  have hmn : m ≤ n := by rw [hN, ← hm]; simp only [List.length_append]; omega
  have HW := Lib.hid (Keeps.refl (fun j => j = g) w)
  clear hO ha hm hb hx hy hN hI0 hJ0 hT
  go_enter Tryz.func123, Tryz.ntmps123
  go_wp2_with fail
  clear e1 e2
  go_loopw [10, 11] (fun iv jv wr => ∃ (i j : Nat), iv = .int .i64 i ∧ jv = .int .i64 j ∧ 0 < i ∧ 0 < j ∧ Hid (∃ P X Y Q : List Int, P.length + X.length = m ∧ X.length = i ∧ Y.length = j ∧ P ++ Y ++ X ++ Q = T ∧ OwnI B wr (.slice (some ⟨g, 0, none⟩) n cap) (P ++ X ++ Y ++ Q)) ∧ Hid (Keeps (fun j => j = g) w wr)) (fun iv jv _ => (intOf iv).toNat + (intOf jv).toNat)
  case atStart => exact ⟨I0, J0, by go_num, by go_num, hI1, hJ1, HREL, HW⟩
  case round =>
    clear HREL HW hI1 hJ1
    obtain ⟨i, j, rfl, rfl, hi1, hj1, HREL, HW⟩ := hrel
    obtain ⟨P, X, Y, Q, g1, g2, g3, g4, hO⟩ := HREL.out
    have hN := own_n hO
    simp only [List.length_append] at hN
    obtain ⟨A, hA⟩ : ∃ A : Nat, P.length = A := ⟨_, rfl⟩
    have eA : (m : Int) - i = A := by omega
    have hmj : (m : Int) + j ≤ 1000000 := by omega
    have him : (i : Int) ≤ m := by omega
    have HO := Lib.hid hO
    have HT := Lib.hid g4
    clear HREL hO g4
    by_cases hij : i = j
    · subst hij
      have C1 := Lib.hid (CS.out A m i P X [] Y Q wr (by rw [List.append_nil]; exact HO.out) hA (by simp; omega) g2 g3)
      have q1 : ((i : Int) == (i : Int)) = true := by simp
      have q2 : ((i : Int) != (i : Int)) = false := by simp
      clear hN g1 g2 g3 hA CS
      go_wp2_with fail
      refine C1.out.mono ?_; rintro e w2 ⟨rfl, ho, hk⟩
      rw [List.append_nil, HT.out] at ho
      have HO2 := Lib.hid ho
      have HW2 := Lib.hid (HW.out.trans hk)
      go_wp2_with fail
      go_end0
      exact ⟨rfl, HO2.out, HW2.out⟩
    · have q1 : ((i : Int) == (j : Int)) = false := by rw [beq_eq_false_iff_ne]; omega
      have q2 : ((i : Int) != (j : Int)) = true := by rw [bne, q1]; rfl
      by_cases hgt : j < i
      · obtain ⟨X1, X2, rfl, hx1⟩ := St.cut_le X j (by omega)
        have C1 := Lib.hid (CS.out A m j P X1 X2 Y Q wr (by rw [List.append_assoc P X1 X2]; exact HO.out) hA (by simp only [List.length_append] at *; omega) hx1 g3)
        have HT2 := Lib.hid (show (P ++ Y) ++ X1 ++ X2 ++ Q = T by rw [← HT.out]; simp)
        have hx2 : X2.length = i - j := by simp only [List.length_append] at *; omega
        have hp2 : (P ++ Y).length + X2.length = m := by simp only [List.length_append] at *; omega
        have hgi : (j : Int) < i := by omega
        have hgj : decide ((j : Int) < i) = true := decide_eq_true hgi
        obtain ⟨d, hd⟩ : ∃ d : Nat, i - j = d := ⟨_, rfl⟩
        have hdi : (i : Int) - j = d := by omega
        rw [hd] at hx2
        have HL := Lib.hid hx1
        have HL2 := Lib.hid hx2
        have HP2 := Lib.hid hp2
        clear hN g1 g2 g3 hA hx1 hx2 hp2
        go_wp2_with fail
        refine C1.out.mono ?_; rintro e w2 ⟨rfl, ho, hk⟩
        have HR2 := Lib.hid (show ∃ P X Y Q : List Int, P.length + X.length = m ∧ X.length = d ∧ Y.length = j ∧ P ++ Y ++ X ++ Q = T ∧ OwnI B w2 (.slice (some ⟨g, 0, none⟩) n cap) (P ++ X ++ Y ++ Q) from ⟨P ++ Y, X2, X1, Q, HP2.out, HL2.out, HL.out, HT2.out, ho⟩)
        have HW2 := Lib.hid (HW.out.trans hk)
        clear ho hk HO HW
        go_wp2_with fail
        go_roundw
        case rel => exact ⟨d, j, rfl, rfl, by omega, hj1, HR2, HW2⟩
        case measure => simp [intOf] <;> omega
      · have hlt : i < j := by omega
        obtain ⟨Y1, Y2, rfl, hy1⟩ := St.cut_le Y (j - i) (by omega)
        obtain ⟨BB, hBB⟩ : ∃ BB : Nat, m + j - i = BB := ⟨_, rfl⟩
        have eB : (m : Int) + j - i = BB := by omega
        have C1 := Lib.hid (CS.out A BB i P X Y1 Y2 Q wr (by rw [List.append_assoc (P ++ X) Y1 Y2]; exact HO.out) hA (by simp only [List.length_append] at *; omega) g2 (by simp only [List.length_append] at *; omega))
        have HT2 := Lib.hid (show P ++ Y1 ++ Y2 ++ (X ++ Q) = T by rw [← HT.out]; simp)
        have hgi : ¬ (j : Int) < i := by omega
        have hgj : decide ((j : Int) < i) = false := decide_eq_false hgi
        obtain ⟨d, hd⟩ : ∃ d : Nat, j - i = d := ⟨_, rfl⟩
        have hdi : (j : Int) - i = d := by omega
        rw [hd] at hy1
        have HL := Lib.hid hy1
        have HL2 := Lib.hid (show Y2.length = i by simp only [List.length_append] at *; omega)
        have HP2 := Lib.hid (show P.length + Y2.length = m by simp only [List.length_append] at *; omega)
        clear hN g1 g2 g3 hA hy1
        go_wp2_with fail
        refine C1.out.mono ?_; rintro e w2 ⟨rfl, ho, hk⟩
        have HR2 := Lib.hid (show ∃ P X Y Q : List Int, P.length + X.length = m ∧ X.length = i ∧ Y.length = d ∧ P ++ Y ++ X ++ Q = T ∧ OwnI B w2 (.slice (some ⟨g, 0, none⟩) n cap) (P ++ X ++ Y ++ Q) from ⟨P, Y2, Y1, X ++ Q, HP2.out, HL2.out, HL.out, HT2.out, by rw [← List.append_assoc]; exact ho⟩)
        have HW2 := Lib.hid (HW.out.trans hk)
        clear ho hk HO HW
        go_wp2_with fail
        go_roundw
        case rel => exact ⟨i, d, rfl, rfl, hi1, by omega, HR2, HW2⟩
        case measure => simp [intOf] <;> omega
end Go.Proofs.YtipcdkemokkdfaaGreat

/- The library's stable sort: insertion. -/
namespace Go.Proofs.YtipcdkemokkdfaaGreat
open Go.ChangeShapes Go.WideShapes Go.ChangeAt Go.RowKit
set_option linter.unusedVariables false
set_option linter.unusedSimpArgs false
set_option maxRecDepth 100000
/-- What the closure says, wherever nothing but the row has turned. -/
def CmpC (w0 : World) (g bx : Nat) (fr : Int → Int) (D : Int → Prop) : Prop := ∀ W, Keeps (fun k => k = g) w0 W → ∀ x y, D x → D y → Calls Tryz.prog 88 #[.int .i64 x, .int .i64 y, .pointer (some ⟨bx, 0, none⟩)] W fun e w' => e = .returned (.int .i64 (St.cmpV (fr x) (fr y))) ∧ w' = W.drew
abbrev FV (bx : Nat) : Value := .func (Fn.func 88) #[] #[.pointer (some ⟨bx, 0, none⟩)]
def Inn (fr : Int → Int) (a i : Nat) (u : Int) (t : List Int) (p R L : List Int) (j : Nat) : Prop := ∃ s1 s2, t = s1 ++ s2 ∧ j = a + s1.length ∧ (∀ v ∈ s2, St.lx fr u v) ∧ L = p ++ s1 ++ u :: s2 ++ R
theorem ins_end {fr : Int → Int} {s1 s2 : List Int} {u : Int} (ht : St.Srt fr (s1 ++ s2)) (h2 : ∀ v ∈ s2, St.lx fr u v) (h1 : ∀ s v, s1 = s ++ [v] → St.lx fr v u) : St.Srt fr (s1 ++ u :: s2) := by
  obtain ⟨a, b, c⟩ := St.srt_append.1 ht
  refine St.srt_append.2 ⟨a, List.pairwise_cons.2 ⟨h2, b⟩, fun x hx y hy => ?_⟩
  rcases List.mem_cons.1 hy with rfl | hy
  · rcases List.eq_nil_or_concat s1 with rfl | ⟨s, v, rfl⟩
    · simp at hx
    · rw [List.concat_eq_append] at *
      have hv := h1 s v rfl
      rcases List.mem_append.1 hx with hx | hx
      · exact St.lx_trans ((St.srt_append.1 a).2.2 x hx v (by simp)) hv
      · obtain rfl : x = v := by simpa using hx
        exact hv
  · exact c x hx y hy
theorem ins_swap (p s R : List Int) (u v : Int) (s2 : List Int) (J : Nat) (hJ : J = (p ++ s).length + 1) :
    ((p ++ (s ++ [v]) ++ u :: s2 ++ R).set J v).set (J - 1) u = p ++ s ++ u :: (v :: s2) ++ R ∧ (p ++ (s ++ [v]) ++ u :: s2 ++ R).getD J 0 = u ∧ (p ++ (s ++ [v]) ++ u :: s2 ++ R).getD (J - 1) 0 = v := by
  subst hJ
  have e : p ++ (s ++ [v]) ++ u :: s2 ++ R = (p ++ s) ++ v :: ([] ++ u :: (s2 ++ R)) := by simp
  have h1 := St.set_two (p ++ s) [] (s2 ++ R) v u
  have h2 := St.get_far (p ++ s) [] (s2 ++ R) v u
  have h3 := St.get_mid (p ++ s) ([] ++ u :: (s2 ++ R)) v
  rw [List.length_nil, Nat.add_zero] at h1 h2
  rw [e, Nat.add_sub_cancel]
  refine ⟨?_, h2, h3⟩
  rw [List.set_comm _ _ (by omega), h1]; simp
set_option maxHeartbeats 3200000 in
theorem sInsert (bx B g n cap a b : Nat) (fr : Int → Int) (D : Int → Prop) (p s q : List Int) (w0 w : World) (CC : CmpC w0 g bx fr D) (hK : Keeps (fun j => j = g) w0 w) (hO : OwnI B w (.slice (some ⟨g, 0, none⟩) n cap) (p ++ s ++ q)) (ha : p.length = a) (hb : (p ++ s).length = b) (hs : s.Pairwise (· < ·)) (hD : ∀ u ∈ s, D u) (hn : n ≤ 1000000) :
    Calls Tryz.prog 117 #[.slice (some ⟨g, 0, none⟩) n cap, .int .i64 a, .int .i64 b, FV bx] w fun e w' => e = .returned (.tuple #[]) ∧ OwnI B w' (.slice (some ⟨g, 0, none⟩) n cap) (p ++ St.sortF fr s ++ q) ∧ Keeps (fun j => j = g) w w' := by
  have hN := own_n hO
  simp only [List.length_append] at hN hb
  have hbn : b ≤ n := by omega
  have hab : a ≤ b := by omega
  have HO := Lib.hid hO
  have HC := Lib.hid CC; have HK0 := Lib.hid hK
  have HP := Lib.hid ha; have HS := Lib.hid (show s.length = b - a by omega); have HD := Lib.hid hD; have HAS := Lib.hid hs
  have HW := Lib.hid (Keeps.refl (fun j => j = g) w)
  clear hO ha hb hs hD CC hK hN
  go_enter Tryz.func117, Tryz.ntmps117
  go_wp2_with fail
  go_loopw [8] (fun iv wr => ∃ (i : Nat) (t : List Int), a + 1 ≤ i ∧ (i ≤ b ∨ i = a + 1) ∧ iv = .int .i64 i ∧ Hid (t.Perm (s.take (i - a)) ∧ St.Srt fr t) ∧ Hid (OwnI B wr (.slice (some ⟨g, 0, none⟩) n cap) (p ++ t ++ s.drop (i - a) ++ q)) ∧ Hid (Keeps (fun j => j = g) w wr)) (fun iv _ => b - (intOf iv).toNat)
  case atStart =>
    refine ⟨a + 1, s.take 1, Nat.le_refl _, .inr rfl, by go_num, Lib.hid ⟨?_, ?_⟩, Lib.hid ?_, HW⟩
    · rw [Nat.add_sub_cancel_left]
    · cases s with
      | nil => simp [St.Srt]
      | cons x s => simp [St.Srt]
    · rw [Nat.add_sub_cancel_left, List.append_assoc p, List.take_append_drop]; exact HO.out
  case round =>
    clear HO HW
    obtain ⟨i, t, hi1, hi2, rfl, HT, HO, HW⟩ := hrel
    by_cases hlt : i < b
    · have hii : (i : Int) < b := by omega
      have his : i - a < s.length := by rw [HS.out]; omega
      obtain ⟨u, hu⟩ : ∃ u, s[i - a] = u := ⟨_, rfl⟩
      have es : s.drop (i - a) = u :: s.drop (i + 1 - a) := by rw [List.drop_eq_getElem_cons his, hu, show i - a + 1 = i + 1 - a by omega]
      have ts : s.take (i + 1 - a) = s.take (i - a) ++ [u] := by rw [show i + 1 - a = i - a + 1 by omega, List.take_succ_eq_append_getElem his, hu]
      have hmu : u ∈ s := by rw [← hu]; exact List.getElem_mem his
      have hDu := HD.out u hmu
      have HDt := Lib.hid (show ∀ v ∈ t, D v ∧ v < u from fun v hv => by
        have hv' : v ∈ s.take (i - a) := HT.out.1.mem_iff.1 hv
        refine ⟨HD.out v (List.mem_of_mem_take hv'), ?_⟩
        have h := HAS.out
        rw [← List.take_append_drop (i - a) s, es] at h
        exact (List.pairwise_append.1 h).2.2 v hv' u (by simp))
      have htl : t.length = i - a := by rw [HT.out.1.length_eq, List.length_take_of_le (Nat.le_of_lt his)]
      obtain ⟨R, hR⟩ : ∃ R, s.drop (i + 1 - a) ++ q = R := ⟨_, rfl⟩
      have HO1 := HO.out
      rw [es, List.append_assoc _ _ q, List.cons_append, hR] at HO1
      have hpl := HP.out
      have HI0 := Lib.hid (show ∃ L, Inn fr a i u t p R L i ∧ OwnI B wr (.slice (some ⟨g, 0, none⟩) n cap) L from ⟨p ++ t ++ u :: R, ⟨t, [], by simp, by omega, by simp, by simp⟩, HO1⟩)
      have HTS := Lib.hid ts
      have HR := Lib.hid hR
      clear es ts HO1 hR hu hmu his hpl HO
      obtain ⟨wo, hwo⟩ : ∃ wo, wo = wr := ⟨_, rfl⟩
      go_wp2_with fail
      go_loopw [9] (fun jv wr => ∃ (j : Nat), a ≤ j ∧ j ≤ i ∧ jv = .int .i64 j ∧ Hid (∃ L, Inn fr a i u t p R L j ∧ OwnI B wr (.slice (some ⟨g, 0, none⟩) n cap) L) ∧ Hid (Keeps (fun j => j = g) w wr)) (fun jv _ => (intOf jv).toNat)
      case atStart => exact ⟨i, by omega, Nat.le_refl _, rfl, HI0, HW⟩
      case round =>
        clear HI0 HW hwo
        obtain ⟨j, hj1, hj2, rfl, HI, HW⟩ := hrel
        obtain ⟨L, ⟨s1, s2, h1, h2, h3, h4⟩, hO⟩ := HI.out
        rcases List.eq_nil_or_concat s1 with rfl | ⟨s1', v, rfl⟩
        · have hja : j = a := by simpa using h2
          have hjd : decide ((a : Int) < j) = false := decide_eq_false (by omega)
          have hjd' : decide (a < j) = false := decide_eq_false (by omega)
          have HE := Lib.hid (show (([] : List Int) ++ u :: s2).Perm (s.take (i + 1 - a)) ∧ St.Srt fr ([] ++ u :: s2) from by
            refine ⟨?_, ins_end (h1 ▸ HT.out.2) h3 (fun s v h => by simp at h)⟩
            rw [HTS.out]
            have := HT.out.1
            rw [h1] at this
            exact (List.Perm.cons u (by simpa using this)).trans (List.perm_append_comm (l₁ := [u])))
          have HO2 := Lib.hid (show OwnI B wr (.slice (some ⟨g, 0, none⟩) n cap) (p ++ ([] ++ u :: s2) ++ s.drop (i + 1 - a) ++ q) from by
            rw [h4, ← HR.out] at hO
            simpa using hO)
          clear h1 h2 h3 h4 hO HI
          go_wp2_with fail
          go_quiet (fail)
          go_wp2_with fail
          go_roundw
          case rel => exact ⟨i + 1, _, by omega, .inl (by omega), by go_num, HE, HO2, by first | exact HW | exact Lib.hid (HW.out.drewN _)⟩
          case measure => simp [intOf] <;> omega
        · rw [List.concat_eq_append] at *
          have hs1 : (s1' ++ [v]).length = s1'.length + 1 := by simp
          have hja : a < j := by omega
          have hJ : j = (p ++ s1').length + 1 := by rw [List.length_append, HP.out]; omega
          obtain ⟨w1, w2, w3⟩ := ins_swap p s1' R u v s2 j hJ
          rw [← h4] at w1 w2 w3
          have hLn := own_n hO
          have hjL : j < L.length := by rw [h4]; simp only [List.length_append, List.length_cons] at *; omega
          have hvt : v ∈ t := by rw [h1]; simp
          obtain ⟨hDv, hvu⟩ := HDt.out v hvt
          have c1 := hO.int_cell j hjL
          have c2 := hO.int_cell (j - 1) (by omega)
          rw [w2] at c1
          rw [w3] at c2
          have f1 := hO.free j
          have f2 := hO.free (j - 1)
          have lg := (hO.lt _ rfl).2
          obtain ⟨J1, hJ1⟩ : ∃ J1 : Nat, j - 1 = J1 := ⟨_, rfl⟩
          have eJ : (j : Int) - 1 = J1 := by omega
          rw [hJ1] at c2 f2 w1
          have wJ : IntKind.i64.wrap (J1 : Int) = J1 := IntWalk.i64_in _ (by omega)
          have hjn : (j : Int) < n := by omega
          have hJn : (J1 : Int) < n := by omega
          have hgd : decide ((a : Int) < j) = true := decide_eq_true (by omega)
          have hgd' : decide (a < j) = true := decide_eq_true hja
          have CP := Lib.hid (HC.out wr.drew (HK0.out.trans HW.out.drew) u v hDu hDv)
          have hcv := St.cmpV_neg (fr u) (fr v)
          obtain ⟨CV, hCV⟩ : ∃ CV, St.cmpV (fr u) (fr v) = CV := ⟨_, rfl⟩
          rw [hCV] at CP hcv
          have HS0 := Lib.hid (show wr.drew.cell? ⟨g, j, none⟩ = some (.int .i64 u) ∧ wr.drew.cell? ⟨g, J1, none⟩ = some (.int .i64 v) from ⟨c1, c2⟩)
          have HS1 := Lib.hid (show wr.drew.drew.cell? ⟨g, j, none⟩ = some (.int .i64 u) ∧ wr.drew.drew.cell? ⟨g, J1, none⟩ = some (.int .i64 v) from ⟨c1, c2⟩)
          have HO2 := Lib.hid hO
          have HW1 := Lib.hid w1; have HV2 := Lib.hid w2
          have HV3 := Lib.hid (show L.getD J1 0 = v by rw [← hJ1]; exact w3)
          have H1 := Lib.hid h1; have H3 := Lib.hid h3; have H4 := Lib.hid h4; have H2 := Lib.hid h2
          have HLN := Lib.hid hLn; have HJL := Lib.hid hjL
          clear h1 h2 h3 h4 hO HI hs1 hJ w1 w2 w3 hLn hjL hvt hCV hJ1 htl
          by_cases hcmp : fr u < fr v
          · rw [decide_eq_true hcmp] at hcv
            go_wp2_with fail
            go_region_held3 (fun V => V.cell? ⟨g, j, none⟩ = some (.int .i64 u) ∧ V.cell? ⟨g, J1, none⟩ = some (.int .i64 v)) (first | exact HS0.out | exact HS1.out) (first | (go_at_call 88; (with_reducible refine CP.out.mono ?_; rintro e wx ⟨rfl, rfl⟩)) | fail)
            simp only [Exit.then]
            rename_i hK hHeld
            refine hK _ _ ?_
            clear hK hHeld HS0 HS1 CP
            have HO5 := Lib.hid (HO2.out.drewN 2)
            have HW5 := Lib.hid (HW.out.drewN 2)
            clear c1 c2 f1 f2 lg HO2 HW hcv
            change Code.wp Tryz.prog _ _ _ (wr.drewN 2)
            generalize wr.drewN 2 = w6 at *
            have c1 := HO5.out.int_cell j HJL.out
            have c2 := HO5.out.int_cell J1 (by have := HJL.out; omega)
            rw [HV2.out] at c1
            rw [HV3.out] at c2
            have f1 := HO5.out.free j
            have f2 := HO5.out.free J1
            have lg := (HO5.out.lt _ rfl).2
            have HO6 := Lib.hid ((HO5.out.set_int j v HJL.out).set_int J1 u (by rw [List.length_set]; have := HJL.out; omega))
            have HW6 := Lib.hid ((HW5.out.setCell (p := ⟨g, j, none⟩) (.inr rfl) (.int .i64 v)).setCell (p := ⟨g, J1, none⟩) (.inr rfl) (.int .i64 u))
            rw [HW1.out] at HO6
            have HI6 := Lib.hid (show Inn fr a i u t p R (p ++ s1' ++ u :: (v :: s2) ++ R) J1 from ⟨s1', v :: s2, by rw [H1.out]; simp, by have := H2.out; rw [List.length_append, List.length_singleton] at this; omega, fun z hz => by
              rcases List.mem_cons.1 hz with rfl | hz
              · exact .inl hcmp
              · exact H3.out z hz, rfl⟩)
            have hne : j ≠ J1 := by omega
            clear HO5 HW5
            go_wp2_with fail
            go_region
            go_wp2_with fail
            go_roundw
            case rel => exact ⟨J1, by omega, by omega, by go_num, Lib.hid ⟨_, HI6.out, HO6.out.drewN _⟩, Lib.hid HW6.out.drew⟩
            case measure => simp [intOf] <;> omega
          · rw [decide_eq_false hcmp] at hcv
            have HE := Lib.hid (show ((s1' ++ [v]) ++ u :: s2).Perm (s.take (i + 1 - a)) ∧ St.Srt fr ((s1' ++ [v]) ++ u :: s2) from by
              refine ⟨?_, ins_end (H1.out ▸ HT.out.2) H3.out (fun s w h => ?_)⟩
              · rw [HTS.out]
                have := HT.out.1
                rw [H1.out] at this
                exact (List.perm_middle.trans (List.Perm.cons u this)).trans (List.perm_append_comm (l₁ := [u]))
              · have := List.append_inj_right' h rfl
                obtain rfl : v = w := by simpa using this
                exact (St.lx_up hvu).2 hcmp)
            have HO3 := Lib.hid (show OwnI B (wr.drewN 2) (.slice (some ⟨g, 0, none⟩) n cap) (p ++ ((s1' ++ [v]) ++ u :: s2) ++ s.drop (i + 1 - a) ++ q) from by
              have hO := HO2.out
              rw [H4.out, ← HR.out] at hO
              simpa using hO.drewN 2)
            go_wp2_with fail
            go_region_held3 (fun V => V.cell? ⟨g, j, none⟩ = some (.int .i64 u) ∧ V.cell? ⟨g, J1, none⟩ = some (.int .i64 v)) (first | exact HS0.out | exact HS1.out) (first | (go_at_call 88; (with_reducible refine CP.out.mono ?_; rintro e wx ⟨rfl, rfl⟩)) | fail)
            simp only [Exit.then]
            rename_i hK hHeld
            refine hK _ _ ?_
            clear hK hHeld HS0 HS1 CP
            have HW5 := Lib.hid (HW.out.drewN 2)
            clear c1 c2 f1 f2 lg HO2 HW hcv
            change Code.wp Tryz.prog _ _ _ (wr.drewN 2)
            generalize wr.drewN 2 = w6 at *
            go_wp2_with fail
            go_roundw
            case rel => exact ⟨i + 1, _, by omega, .inl (by omega), by go_num, HE, HO3, HW5⟩
            case measure => simp [intOf] <;> omega
    · have HF := Lib.hid (show St.sortF fr s = t ∧ s.drop (i - a) = [] from by
        have h1 : s.take (i - a) = s := List.take_of_length_le (by have := HS.out; omega)
        have h2 := HT.out.1
        rw [h1] at h2
        exact ⟨St.srt_unique _ _ (St.sortF_srt fr s (St.asc_nodup HAS.out)) HT.out.2 ((St.sortF_perm fr s).trans h2.symm), List.drop_of_length_le (by have := HS.out; omega)⟩)
      have hO2 := HO.out
      rw [HF.out.2, List.append_nil, ← HF.out.1] at hO2
      have HO2 := Lib.hid hO2
      have hii : ¬ (i : Int) < b := by omega
      clear hO2 HO
      go_wp2_with fail
      go_end0
      exact ⟨rfl, by first | exact HO2.out | (rw [← List.append_assoc]; exact HO2.out), HW.out⟩
end Go.Proofs.YtipcdkemokkdfaaGreat

/- The library's stable sort: a row of one number merged into the one behind it. -/
namespace Go.Proofs.YtipcdkemokkdfaaGreat
open Go.ChangeShapes Go.WideShapes Go.ChangeAt Go.RowKit
set_option linter.unusedVariables false
set_option linter.unusedSimpArgs false
set_option maxRecDepth 100000
theorem srt_get {fr : Int → Int} {y : List Int} (h : St.Srt fr y) (i j : Nat) (hij : i < j) (hj : j < y.length) : St.lx fr (y.getD i 0) (y.getD j 0) := by
  have := (List.pairwise_iff_getElem.1 h) i j (by omega) hj hij
  rw [List.getD_eq_getElem?_getD, List.getD_eq_getElem?_getD, List.getElem?_eq_getElem (by omega), List.getElem?_eq_getElem hj]
  exact this
theorem getD_mid (p y q : List Int) (h m : Nat) (hp : p.length = m) (h1 : m ≤ h) (h2 : h < m + y.length) : (p ++ y ++ q).getD h 0 = y.getD (h - m) 0 := by
  rw [List.getD_eq_getElem?_getD, List.getD_eq_getElem?_getD, List.append_assoc, List.getElem?_append_right (by omega), List.getElem?_append_left (by omega), hp]
theorem mem_getD {y : List Int} {i : Nat} (h : i < y.length) : y.getD i 0 ∈ y := by
  rw [List.getD_eq_getElem?_getD, List.getElem?_eq_getElem h]; exact List.getElem_mem h
theorem take_lx {fr : Int → Int} {y : List Int} {u : Int} {i : Nat} (h : ∀ t, t < i → t < y.length → St.lx fr (y.getD t 0) u) : ∀ v ∈ y.take i, St.lx fr v u := by
  intro v hv
  obtain ⟨t, ht, rfl⟩ := List.mem_take_iff_getElem.1 hv
  have := h t (by omega) (by omega)
  rw [List.getD_eq_getElem?_getD, List.getElem?_eq_getElem (by omega)] at this
  exact this
theorem drop_lx {fr : Int → Int} {y : List Int} {u : Int} {i : Nat} (h : ∀ t, i ≤ t → t < y.length → St.lx fr u (y.getD t 0)) : ∀ v ∈ y.drop i, St.lx fr u v := by
  intro v hv
  obtain ⟨t, ht, rfl⟩ := List.mem_drop_iff_getElem.1 hv
  have := h (i + t) (by omega) (by omega)
  rw [List.getD_eq_getElem?_getD, List.getElem?_eq_getElem (by omega)] at this
  exact this
theorem mid_srt {fr : Int → Int} {y : List Int} {u : Int} {i : Nat} (hy : St.Srt fr y) (h1 : ∀ t, t < i → t < y.length → St.lx fr (y.getD t 0) u) (h2 : ∀ t, i ≤ t → t < y.length → St.lx fr u (y.getD t 0)) : St.Srt fr (y.take i ++ u :: y.drop i) ∧ (y.take i ++ u :: y.drop i).Perm (u :: y) := by
  refine ⟨ins_end (by rw [List.take_append_drop]; exact hy) (drop_lx h2) (fun s v h => take_lx h1 v (by rw [h]; simp)), ?_⟩
  have := List.perm_middle (a := u) (l₁ := y.take i) (l₂ := y.drop i)
  rwa [List.take_append_drop] at this
theorem mv_step (p y q : List Int) (u : Int) (a k : Nat) (hp : p.length = a) (hk : k < y.length) :
    ((p ++ (y.take k ++ u :: y.drop k) ++ q).set (a + k) (y.getD k 0)).set (a + k + 1) u = p ++ (y.take (k + 1) ++ u :: y.drop (k + 1)) ++ q ∧
      (p ++ (y.take k ++ u :: y.drop k) ++ q).getD (a + k) 0 = u ∧ (p ++ (y.take k ++ u :: y.drop k) ++ q).getD (a + k + 1) 0 = y.getD k 0 := by
  have ey : y.drop k = y.getD k 0 :: y.drop (k + 1) := drop_getD y k hk
  have ty : y.take (k + 1) = y.take k ++ [y.getD k 0] := take_getD y k hk
  have e : p ++ (y.take k ++ u :: y.drop k) ++ q = (p ++ y.take k) ++ u :: ([] ++ y.getD k 0 :: (y.drop (k + 1) ++ q)) := by rw [ey]; simp
  have hA : (p ++ y.take k).length = a + k := by rw [List.length_append, hp, List.length_take_of_le (by omega)]
  have h1 := St.set_two (p ++ y.take k) [] (y.drop (k + 1) ++ q) u (y.getD k 0)
  have h2 := St.get_far (p ++ y.take k) [] (y.drop (k + 1) ++ q) u (y.getD k 0)
  have h3 := St.get_mid (p ++ y.take k) ([] ++ y.getD k 0 :: (y.drop (k + 1) ++ q)) u
  rw [List.length_nil, Nat.add_zero, hA] at h1 h2
  rw [hA] at h3
  rw [e]
  refine ⟨?_, h3, h2⟩
  rw [h1, ty]; simp
set_option maxHeartbeats 3200000 in
theorem sMerge1 (bx B g n cap a m b : Nat) (fr : Int → Int) (D : Int → Prop) (p y q : List Int) (u : Int) (w0 w : World) (CC : CmpC w0 g bx fr D) (hK : Keeps (fun j => j = g) w0 w) (hO : OwnI B w (.slice (some ⟨g, 0, none⟩) n cap) (p ++ (u :: y) ++ q)) (ha : p.length = a) (hm : a + 1 = m) (hb : m + y.length = b) (hs : St.Srt fr y) (huy : ∀ v ∈ y, u < v) (hDu : D u) (hD : ∀ v ∈ y, D v) (hn : n ≤ 1000000) :
    Calls Tryz.prog 118 #[.slice (some ⟨g, 0, none⟩) n cap, .int .i64 a, .int .i64 m, .int .i64 b, FV bx] w fun e w' => e = .returned (.tuple #[]) ∧ ∃ z, St.Srt fr z ∧ z.Perm (u :: y) ∧ OwnI B w' (.slice (some ⟨g, 0, none⟩) n cap) (p ++ z ++ q) ∧ Keeps (fun j => j = g) w w' := by
  have hN := own_n hO
  simp only [List.length_append, List.length_cons] at hN
  have hbn : b ≤ n := by omega
  have hmb : m ≤ b := by omega
  have eN : (m : Int) - a = 1 := by omega
  have hu : (p ++ (u :: y) ++ q).getD a 0 = u := by
    have := getD_mid p (u :: y) q a a ha (Nat.le_refl _) (by simp only [List.length_cons]; omega)
    rw [this]; simp
  have hv : ∀ h, m ≤ h → h < b → (p ++ (u :: y) ++ q).getD h 0 = y.getD (h - m) 0 := fun h h1 h2 => by
    have := getD_mid p (u :: y) q h a ha (by omega) (by simp only [List.length_cons]; omega)
    rw [this, show h - a = h - m + 1 by omega]; simp
  obtain ⟨L, hL⟩ : ∃ L, p ++ (u :: y) ++ q = L := ⟨_, rfl⟩
  have hLn : L.length = n := by rw [← hL]; simp only [List.length_append, List.length_cons]; omega
  rw [hL] at hO hu hv
  have HO := Lib.hid hO; have HU := Lib.hid hu; have HV := Lib.hid hv; have HL := Lib.hid hL; have HLN := Lib.hid hLn
  have HC := Lib.hid CC; have HK0 := Lib.hid hK
  have HP := Lib.hid ha; have HS := Lib.hid hs; have HUY := Lib.hid huy; have HD := Lib.hid hD; have HYB := Lib.hid hb; have HM := Lib.hid hm
  clear hO ha hb hs hD CC hK hN hu hv hL hLn huy hm
  go_enter Tryz.func118, Tryz.ntmps118
  go_wp2_with fail
  clear eN
  have HW := Lib.hid (Keeps.refl (fun j => j = g) w)
  go_loopw [10, 11] (fun iv jv wr => ∃ (i j : Nat), iv = .int .i64 i ∧ jv = .int .i64 j ∧ m ≤ i ∧ i ≤ j ∧ j ≤ b ∧ Hid ((∀ t, t < i - m → t < y.length → St.lx fr (y.getD t 0) u) ∧ (∀ t, j - m ≤ t → t < y.length → St.lx fr u (y.getD t 0))) ∧ Hid (OwnI B wr (.slice (some ⟨g, 0, none⟩) n cap) L) ∧ Hid (Keeps (fun j => j = g) w wr)) (fun iv jv _ => (intOf jv).toNat - (intOf iv).toNat)
  case atStart => exact ⟨m, b, rfl, rfl, Nat.le_refl _, hmb, Nat.le_refl _, Lib.hid ⟨fun t h => by omega, fun t h1 h2 => by have := HYB.out; omega⟩, HO, HW⟩
  case round =>
    clear HO HW
    obtain ⟨i, j, rfl, rfl, hi, hij, hj, HR, HO, HW⟩ := hrel
    by_cases hlt : i < j
    · have hlti : (i : Int) < j := by omega
      obtain ⟨H, hH⟩ : ∃ H, (i + j) / 2 = H := ⟨_, rfl⟩
      have hH1 : i ≤ H := by omega
      have hH2 : H < j := by omega
      have eH : ((i : Int) + j) / 2 = H := by omega
      obtain ⟨v, hve⟩ : ∃ v, y.getD (H - m) 0 = v := ⟨_, rfl⟩
      have c1 := HO.out.int_cell H (by rw [HLN.out]; omega)
      rw [HV.out H (by omega) (by omega), hve] at c1
      have c2 := HO.out.int_cell a (by have := HLN.out; have := HM.out; omega)
      rw [HU.out] at c2
      have hvm : v ∈ y := by rw [← hve]; exact mem_getD (by have := HYB.out; omega)
      have huv := HUY.out v hvm
      have hHn : (H : Int) < n := by omega
      have han : (a : Int) < n := by have := HM.out; omega
      have HVE := Lib.hid hve
      have CP := Lib.hid (HC.out wr.drew (HK0.out.trans HW.out.drew) v u (HD.out v hvm) hDu)
      have hcv := St.cmpV_neg (fr v) (fr u)
      obtain ⟨CV, hCV⟩ : ∃ CV, St.cmpV (fr v) (fr u) = CV := ⟨_, rfl⟩
      rw [hCV] at CP hcv
      have HS0 := Lib.hid (show wr.drew.cell? ⟨g, H, none⟩ = some (.int .i64 v) ∧ wr.drew.cell? ⟨g, a, none⟩ = some (.int .i64 u) from ⟨c1, c2⟩)
      have HS1 := Lib.hid (show wr.drew.drew.cell? ⟨g, H, none⟩ = some (.int .i64 v) ∧ wr.drew.drew.cell? ⟨g, a, none⟩ = some (.int .i64 u) from ⟨c1, c2⟩)
      have HO5 := Lib.hid (HO.out.drewN 2)
      have HW5 := Lib.hid (HW.out.drewN 2)
      clear hve hvm hH hCV
      by_cases hcmp : fr v < fr u
      · rw [decide_eq_true hcmp] at hcv
        go_wp2_with fail
        go_region_held3 (fun V => V.cell? ⟨g, H, none⟩ = some (.int .i64 v) ∧ V.cell? ⟨g, a, none⟩ = some (.int .i64 u)) (first | exact HS0.out | exact HS1.out) (first | (go_at_call 88; (with_reducible refine CP.out.mono ?_; rintro e wx ⟨rfl, rfl⟩)) | fail)
        simp only [Exit.then]
        rename_i hK hHeld
        refine hK _ _ ?_
        clear hK hHeld HS0 HS1 CP c1 c2 hcv HO HW
        change Code.wp Tryz.prog _ _ _ (wr.drewN 2)
        generalize wr.drewN 2 = w6 at *
        have HR2 := Lib.hid (show (∀ t, t < H + 1 - m → t < y.length → St.lx fr (y.getD t 0) u) ∧ (∀ t, j - m ≤ t → t < y.length → St.lx fr u (y.getD t 0)) from ⟨fun t h1 h2 => by
          have hq : St.lx fr (y.getD (H - m) 0) u := by rw [HVE.out]; exact .inl hcmp
          by_cases e : t = H - m
          · rw [e]; exact hq
          · exact St.lx_trans (srt_get HS.out t (H - m) (by omega) (by have := HYB.out; omega)) hq, HR.out.2⟩)
        go_wp2_with fail
        go_roundw
        case rel => exact ⟨H + 1, j, by go_num, by go_num, by omega, by omega, by omega, HR2, HO5, HW5⟩
        case measure => simp [intOf] <;> omega
      · rw [decide_eq_false hcmp] at hcv
        go_wp2_with fail
        go_region_held3 (fun V => V.cell? ⟨g, H, none⟩ = some (.int .i64 v) ∧ V.cell? ⟨g, a, none⟩ = some (.int .i64 u)) (first | exact HS0.out | exact HS1.out) (first | (go_at_call 88; (with_reducible refine CP.out.mono ?_; rintro e wx ⟨rfl, rfl⟩)) | fail)
        simp only [Exit.then]
        rename_i hK hHeld
        refine hK _ _ ?_
        clear hK hHeld HS0 HS1 CP c1 c2 hcv HO HW
        change Code.wp Tryz.prog _ _ _ (wr.drewN 2)
        generalize wr.drewN 2 = w6 at *
        have HR2 := Lib.hid (show (∀ t, t < i - m → t < y.length → St.lx fr (y.getD t 0) u) ∧ (∀ t, H - m ≤ t → t < y.length → St.lx fr u (y.getD t 0)) from ⟨HR.out.1, fun t h1 h2 => by
          have hq : St.lx fr u (y.getD (H - m) 0) := by rw [HVE.out]; exact (St.lx_up huv).2 (by omega)
          by_cases e : t = H - m
          · rw [e]; exact hq
          · exact St.lx_trans hq (srt_get HS.out (H - m) t (by omega) h2)⟩)
        go_wp2_with fail
        go_roundw
        case rel => exact ⟨i, H, by go_num, by go_num, by omega, by omega, by omega, HR2, HO5, HW5⟩
        case measure => simp [intOf] <;> omega
    · obtain rfl : i = j := by omega
      have HZ := Lib.hid (mid_srt HS.out HR.out.1 HR.out.2)
      obtain ⟨K, hKd⟩ : ∃ K, i - m = K := ⟨_, rfl⟩
      rw [hKd] at HZ
      have hKy : K ≤ y.length := by have := HYB.out; omega
      have hKi : (i : Int) - 1 = (a + K : Nat) := by have := HM.out; omega
      have hO2 := HO.out
      rw [← HL.out] at hO2
      have HO2 := Lib.hid (show OwnI B wr (.slice (some ⟨g, 0, none⟩) n cap) (p ++ (y.take 0 ++ u :: y.drop 0) ++ q) from hO2)
      obtain ⟨E, hE⟩ : ∃ E : Nat, a + K = E := ⟨_, rfl⟩
      rw [hE] at hKi
      have hEn : E < n := by have := HM.out; have := HYB.out; omega
      have hii : ¬ (i : Int) < i := by omega
      clear hO2 HO
      go_wp2_with fail
      clear hii
      obtain ⟨w1, hw1⟩ : ∃ w1, w1 = wr := ⟨_, rfl⟩
      rw [← hw1] at HO2 HW ⊢
      clear hw1
      go_loopw [13] (fun kv wr => ∃ (k : Nat), a + k ≤ E ∧ kv = .int .i64 ((a + k : Nat) : Int) ∧ Hid (OwnI B wr (.slice (some ⟨g, 0, none⟩) n cap) (p ++ (y.take k ++ u :: y.drop k) ++ q)) ∧ Hid (Keeps (fun j => j = g) w wr)) (fun kv _ => E - (intOf kv).toNat)
      case atStart => exact ⟨0, by omega, by go_num, HO2, HW⟩
      case round =>
        clear HO2 HW
        obtain ⟨k, hk, rfl, HO, HW⟩ := hrel
        obtain ⟨A, hA⟩ : ∃ A, a + k = A := ⟨_, rfl⟩
        rw [hA]
        by_cases hlt : A < E
        · have hlti : (A : Int) < E := by omega
          have hky : k < y.length := by omega
          obtain ⟨q1, q2, q3⟩ := mv_step p y q u a k HP.out hky
          obtain ⟨v, hve⟩ : ∃ v, y.getD k 0 = v := ⟨_, rfl⟩
          rw [hA] at q1 q2 q3
          rw [hve] at q1 q3
          have hLn := own_n HO.out
          obtain ⟨L2, hL2⟩ : ∃ L2, p ++ (y.take k ++ u :: y.drop k) ++ q = L2 := ⟨_, rfl⟩
          have hO3 := HO.out
          rw [hL2] at q1 q2 q3 hO3 hLn
          have c1 := hO3.int_cell A (by omega)
          have c2 := hO3.int_cell (A + 1) (by omega)
          rw [q2] at c1
          rw [q3] at c2
          have f1 := hO3.free A
          have f2 := hO3.free (A + 1)
          have lg := (hO3.lt _ rfl).2
          have hO4 := (hO3.set_int A v (by omega)).set_int (A + 1) u (by rw [List.length_set]; omega)
          rw [q1] at hO4
          have HO4 := Lib.hid hO4
          have HW4 := Lib.hid ((HW.out.setCell (p := ⟨g, A, none⟩) (.inr rfl) (.int .i64 v)).setCell (p := ⟨g, A + 1, none⟩) (.inr rfl) (.int .i64 u))
          obtain ⟨A1, hA1⟩ : ∃ A1, A + 1 = A1 := ⟨_, rfl⟩
          rw [hA1] at c2 f2 HO4 HW4
          have eA : (A : Int) + 1 = A1 := by omega
          have wA : IntKind.i64.wrap (A1 : Int) = A1 := IntWalk.i64_in _ (by omega)
          have hne : A ≠ A1 := by omega
          have hAn : (A : Int) < n := by omega
          have hA1n : (A1 : Int) < n := by omega
          clear q1 q2 q3 hve hLn hL2 hO3 hO4 HO HW
          go_wp2_with fail
          go_region
          go_wp2_with fail
          go_roundw
          case rel => exact ⟨k + 1, by omega, by rw [show a + (k + 1) = A1 by omega], HO4, Lib.hid HW4.out.drew⟩
          case measure => simp [intOf] <;> omega
        · have hlti : ¬ (A : Int) < E := by omega
          obtain rfl : k = K := by omega
          go_wp2_with fail
          refine bodyPost_ret (results_none (by rfl) _ _ _) (by rfl) ?_
          exact ⟨rfl, _, HZ.out.1, HZ.out.2, by first | exact HO.out | simpa using HO.out, HW.out⟩
end Go.Proofs.YtipcdkemokkdfaaGreat
