/- Layer 12: what chapter 12 shows. -/
import Derived.Test.YtekageibffhloaaR7
import Derived.Test.YtekageibffhloaaCh
namespace Go.Proofs.Ytekageibffhloaa
open Go.ChangeShapes Go.WideShapes Go.ChangeAt Go.RowKit
set_option linter.unusedVariables false
set_option maxRecDepth 100000
open RunsMath
theorem litR (w : World) (zs : List Run) (t : Nat) (hl : zs.length ≤ 70368744177664) : IsRuns (w.alloc (.cells (zs.flatMap fR).toArray t)) (some ⟨w.heap.size, 0, none⟩) zs := by
  refine ⟨hl, .inr ⟨_, rfl, fun i hi => ?_⟩⟩
  have h1 := flat_get flatR zs i 0 zs[i] (by simp [hi]) (by decide)
  have h2 := flat_get flatR zs i 1 zs[i] (by simp [hi]) (by decide)
  have e1 : (⟨w.heap.size, 0, none⟩ : Addr).add (i * 2) = ⟨w.heap.size, i * 2 + 0, none⟩ := by unfold Addr.add; split <;> simp_all
  rw [e1]
  show _ ∧ (w.alloc _).cell? ⟨w.heap.size, i * 2 + 1, none⟩ = _
  rw [cell_in (heap_alloc_new w _), cell_in (heap_alloc_new w _), List.getElem?_toArray, List.getElem?_toArray, h1, h2]
  simp [fR, List.getD_eq_getElem?_getD, hi]
theorem litRL (w : World) (zs : List Run) (t c : Nat) (hl : zs.length ≤ 70368744177664) : IsR (w.alloc (.cells (zs.flatMap fR).toArray t)) (.slice (some ⟨w.heap.size, 0, none⟩) zs.length c) zs := ⟨_, _, rfl, litR w zs t hl⟩
def TellsR (r : List Run) (w : World) (e : Ending) (w' : World) : Prop := ∃ v', e = .returned v' ∧ IsR w' v' r ∧ Below w.heap.size w w'
theorem packT {l : List Int} {v : Value} (r : List Run) {w : World} (h : IsL w v l) (hl : l.length ≤ 2000) (hr : packL l = r) : Calls Try.prog 27 #[v] w (TellsR r w) := by
  obtain ⟨a, c, rfl, h⟩ := h
  subst hr
  have hlen : (packL l).length ≤ l.length := by
    unfold packL; split
    · exact pack_length l.length (-1) l (Nat.le_refl _) ((okB_iff l).1 (by assumption))
    · simp
  exact (rPack a c l w h hl).mono fun _ _ ⟨v', h1, h2, h3⟩ => ⟨v', h1, h2.isR (by omega), h3⟩
theorem dpackT {l : List Int} {v : Value} (r : List Run) {w : World} (h : IsL w v l) (hl : l.length ≤ 2000) (hr : packL l = r) : Calls Try.prog 28 #[v] w (TellsR r w) := by
  obtain ⟨a, c, rfl, h⟩ := h
  subst hr
  have hlen : (packL l).length ≤ l.length := by
    unfold packL; split
    · exact pack_length l.length (-1) l (Nat.le_refl _) ((okB_iff l).1 (by assumption))
    · simp
  exact (dPack a c l w h hl).mono fun _ _ ⟨v', h1, h2, h3⟩ => ⟨v', h1, h2.isR (by omega), h3⟩
theorem unp_len (n : Nat) (out : List Int) (a : Int) (l : List Run) (h : out.length ≤ n) : (unp n out a l).2.length ≤ n := by
  induction l generalizing out a with
  | nil => unfold unp; split <;> simp <;> omega
  | cons r l ih =>
    unfold unp
    split
    · simp
    · split
      · simp
      · exact ih _ _ (by simp; omega)
theorem unpack_len (l : List Run) (n : Int) : (unpack l n).2.length ≤ 1024 := by
  unfold unpack
  split
  · simp
  · have := unp_len n.toNat [] 0 l (by simp); omega
def TellsU (E : Int) (r : List Int) (w : World) (e : Ending) (w' : World) : Prop := ∃ v', e = .returned (.tuple #[v', .int .i64 E]) ∧ IsL w' v' r ∧ Below w.heap.size w w'
theorem tellsU_of {n : Int} {l : List Run} {E : Int} {r : List Int} {w : World} (hr : unpack l n = (E, r)) {e : Ending} {w' : World} (h : UnpPost (unpack l n) w e w') : TellsU E r w e w' := by
  obtain ⟨v', h1, h2, h3⟩ := h
  have hl := unpack_len l n
  rw [hr] at h1 h2 hl
  have h2' : OwnI w.heap.size w' v' r := h2
  exact ⟨v', h1, h2'.isL (by simp only at hl; omega), h3⟩
theorem unpT {l : List Run} {v : Value} (n E : Int) (r : List Int) {w : World} (h : IsR w v l) (hl : l.length ≤ 2000) (hr : unpack l n = (E, r)) : Calls Try.prog 24 #[v, .int .i64 n] w (TellsU E r w) := by
  obtain ⟨a, c, rfl, h⟩ := h
  refine Calls.mono ?_ (fun e w' => tellsU_of hr)
  by_cases h1 : n < 0
  · rw [unp_out n (.inl h1)]; exact unpN1 n h1 a _ c w
  by_cases h2 : 1024 < n
  · rw [unp_out n (.inr h2)]; exact unpN2 n h2 a _ c w
  obtain ⟨N, rfl⟩ : ∃ N : Nat, n = N := ⟨n.toNat, by omega⟩
  exact rUnpack a c l N (by omega) hl w h
theorem dunpT {l : List Run} {v : Value} (n E : Int) (r : List Int) {w : World} (h : IsR w v l) (hl : l.length ≤ 2000) (hr : unpack l n = (E, r)) : Calls Try.prog 25 #[v, .int .i64 n] w (TellsU E r w) := by
  obtain ⟨a, c, rfl, h⟩ := h
  refine Calls.mono ?_ (fun e w' => tellsU_of hr)
  by_cases h1 : n < 0
  · rw [unp_out n (.inl h1)]; exact dunpN1 n h1 a _ c w
  by_cases h2 : 1024 < n
  · rw [unp_out n (.inr h2)]; exact dunpN2 n h2 a _ c w
  obtain ⟨N, rfl⟩ : ∃ N : Nat, n = N := ⟨n.toNat, by omega⟩
  exact dUnpack a c l N (by omega) hl w h
set_option maxHeartbeats 3200000 in
theorem awake12 (w : World) : Calls Try.prog 23 #[] w fun e w' => e = .returned (.bool true) ∧ Below w.heap.size w w' := by
  go_enter Try.func23, Try.ntmps23
  go_wp2_with fail
  refine (packT [(5, 0), (16, 0), (17, 0)] (litL _ [5, 5, 5, 5, 0, 0, 0] _ _ (by decide)) (by decide) (by decide +kernel)).mono ?_; rintro e w1 ⟨v1, rfl, h1, hb1⟩
  have hb : Below w.heap.size w w1 := ((Below.refl _ w).alloc (Nat.le_refl _) _).trans (hb1.mono (by simp))
  have h1_ := Lib.hid h1
  clear h1
  clear hb1
  go_wp2_with fail
  refine (unpT 7 0 [5, 5, 5, 5, 0, 0, 0] h1_.out (by decide) (by decide +kernel)).mono ?_; rintro e w2 ⟨v2, rfl, h2, hb2⟩
  have h1 := Lib.hid (h1_.out.kept hb2)
  have hb := hb.trans (hb2.mono hb.size)
  clear hb2
  have h2_ := Lib.hid h2
  clear h2
  clear h1_
  go_wp2_with fail
  refine (unpT 6 4 [] h1.out (by decide) (by decide +kernel)).mono ?_; rintro e w3 ⟨v3, rfl, -, hb3⟩
  have h1 := Lib.hid (h1.out.kept hb3)
  have h2 := Lib.hid (h2_.out.kept hb3)
  have hb := hb.trans (hb3.mono hb.size)
  clear hb3
  clear h2_
  go_wp2_with fail
  refine (unpT 8 3 [] h1.out (by decide) (by decide +kernel)).mono ?_; rintro e w4 ⟨v4, rfl, -, hb4⟩
  have h1 := Lib.hid (h1.out.kept hb4)
  have h2 := Lib.hid (h2.out.kept hb4)
  have hb := hb.trans (hb4.mono hb.size)
  clear hb4
  go_wp2_with fail
  refine (unpT 9 2 [] (litRL _ [(16, 4)] _ _ (by decide)) (by decide) (by decide +kernel)).mono ?_; rintro e w5 ⟨v5, rfl, -, hb5⟩
  have h1 := Lib.hid ((h1.out.alloc _).kept hb5)
  have h2 := Lib.hid ((h2.out.alloc _).kept hb5)
  have hb : Below w.heap.size w w5 := (hb.alloc hb.size _).trans (hb5.mono (by have := hb.size; simp; omega))
  clear hb5
  go_wp2_with fail
  refine (unpT 3 0 [0, 0, 0] (litRL _ [(16, 0)] _ _ (by decide)) (by decide) (by decide +kernel)).mono ?_; rintro e w6 ⟨v6, rfl, h6, hb6⟩
  have h1 := Lib.hid ((h1.out.alloc _).kept hb6)
  have h2 := Lib.hid ((h2.out.alloc _).kept hb6)
  have hb : Below w.heap.size w w6 := (hb.alloc hb.size _).trans (hb6.mono (by have := hb.size; simp; omega))
  have h6_ := Lib.hid h6
  clear h6
  clear hb6
  go_wp2_with fail
  refine (dSameB (h1.out.alloc _) (litRL _ [(5, 0), (16, 0), (17, 0)] _ _ (by decide)) true (by decide)).mono ?_; rintro e w7 ⟨rfl, hb7⟩
  have h2 := Lib.hid ((h2.out.alloc _).kept hb7)
  have h6 := Lib.hid ((h6_.out.alloc _).kept hb7)
  have hb : Below w.heap.size w w7 := (hb.alloc hb.size _).trans (hb7.mono (by have := hb.size; simp; omega))
  clear hb7 h1 h6_
  go_wp2_with fail
  refine (intsB (h2.out.alloc _) (litL _ [5, 5, 5, 5, 0, 0, 0] _ _ (by decide)) true (by decide)).mono ?_; rintro e w8 ⟨rfl, hb8⟩
  have h6 := Lib.hid ((h6.out.alloc _).kept hb8)
  have hb : Below w.heap.size w w8 := (hb.alloc hb.size _).trans (hb8.mono (by have := hb.size; simp; omega))
  clear hb8 h2
  go_wp2_with fail
  refine (intsB (h6.out.alloc _) (litL _ [0, 0, 0] _ _ (by decide)) true (by decide)).mono ?_; rintro e w9 ⟨rfl, hb9⟩
  have hb : Below w.heap.size w w9 := (hb.alloc hb.size _).trans (hb9.mono (by have := hb.size; simp; omega))
  clear hb9 h6
  go_wp2_with fail
  refine (rExtra 18 7 (by decide) _).mono ?_; rintro e w10 ⟨rfl, rfl⟩
  go_wp2_with fail
  refine (packT [] (litL _ [16] _ _ (by decide)) (by decide) (by decide +kernel)).mono ?_; rintro e w11 ⟨v11, rfl, h11, hb11⟩
  have hb : Below w.heap.size w w11 := (hb.alloc hb.size _).trans (hb11.mono (by have := hb.size; simp; omega))
  obtain ⟨a11, c11, rfl, -⟩ := h11
  clear hb11
  go_wp2_with fail
  go_ret
  exact ⟨rfl, hb⟩
end Go.Proofs.Ytekageibffhloaa
