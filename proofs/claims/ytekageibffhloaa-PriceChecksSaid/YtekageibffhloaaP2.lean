/- Layer 23: whether prices may be. -/
import Derived.Test.YtekageibffhloaaP1
namespace Go.Proofs.Ytekageibffhloaa
open Go.ChangeShapes Go.WideShapes Go.ChangeAt Go.RowKit
set_option linter.unusedVariables false
set_option maxRecDepth 100000
set_option maxHeartbeats 1600000 in
theorem pCheck (v u : Value) (l m : List Int) (w : World) (h1 : IsL w v l) (h2 : IsL w u m) (E : Int) (hE : checkP l m = E) :
    Calls Try.prog 33 #[.agg #[v, u]] w fun e w' => e = .returned (.int .i64 E) ∧ Below w.heap.size w w' := by
  obtain ⟨a, c, rfl, g1⟩ := h1
  obtain ⟨b, d, rfl, g2⟩ := h2
  have hl1 := g1.1
  have hl2 := g2.1
  unfold checkP at hE
  by_cases n1 : l.length = 401
  · by_cases n2 : m.length = 52
    · rw [if_neg (by omega)] at hE
      have e1 : ((l.length : Int) != 401) = false := by rw [n1]; rfl
      have e2 : ((m.length : Int) != 52) = false := by rw [n2]; rfl
      have k1 : IsL (w.alloc (.cells #[.slice a l.length c, .slice b m.length d] 47)) (.slice a l.length c) l := ⟨_, _, rfl, g1.alloc _⟩
      have k2 : IsL (w.alloc (.cells #[.slice a l.length c, .slice b m.length d] 47)) (.slice b m.length d) m := ⟨_, _, rfl, g2.alloc _⟩
      have C1 := pMay _ l _ k1 _ rfl
      have C2 := pMay _ m _ k2 _ rfl
      rcases hA : okP l with _ | _
      · rw [hA] at C1 hE
        have HE := Lib.hid (show (2 : Int) = E by rw [← hE]; rfl)
        have C1_ := Lib.hid C1
        clear C1
        clear C2 hE hA g1 g2 k1 k2 n1 n2
        go_enter Try.func33, Try.ntmps33
        go_wp2_with fail
        refine C1_.out.mono ?_; rintro e w1 ⟨rfl, rfl⟩
        go_wp2_with fail
        go_ret
        exact ⟨ret_i HE.out, (Below.refl _ _).alloc (Nat.le_refl _) _⟩
      · rw [hA] at C1 hE
        rcases hB : okP m with _ | _
        · rw [hB] at C2 hE
          have HE := Lib.hid (show (2 : Int) = E by rw [← hE]; rfl)
          have C1_ := Lib.hid C1
          have C2_ := Lib.hid C2
          clear C1 C2
          clear hE hA hB g1 g2 k1 k2 n1 n2
          go_enter Try.func33, Try.ntmps33
          go_wp2_with fail
          refine C1_.out.mono ?_; rintro e w1 ⟨rfl, rfl⟩
          go_wp2_with fail
          refine C2_.out.mono ?_; rintro e w1 ⟨rfl, rfl⟩
          go_wp2_with fail
          go_ret
          exact ⟨ret_i HE.out, (Below.refl _ _).alloc (Nat.le_refl _) _⟩
        · rw [hB] at C2 hE
          have HE := Lib.hid (show (0 : Int) = E by rw [← hE]; rfl)
          have C1_ := Lib.hid C1
          have C2_ := Lib.hid C2
          clear C1 C2
          clear hE hA hB g1 g2 k1 k2 n1 n2
          go_enter Try.func33, Try.ntmps33
          go_wp2_with fail
          refine C1_.out.mono ?_; rintro e w1 ⟨rfl, rfl⟩
          go_wp2_with fail
          refine C2_.out.mono ?_; rintro e w1 ⟨rfl, rfl⟩
          go_wp2_with fail
          go_ret
          exact ⟨ret_i HE.out, (Below.refl _ _).alloc (Nat.le_refl _) _⟩
    · rw [if_pos (.inr n2)] at hE
      have HE := Lib.hid hE
      have e1 : ((l.length : Int) != 401) = false := by rw [n1]; rfl
      have e2 : ((m.length : Int) != 52) = true := by rw [bne_iff_ne]; omega
      clear hE g1 g2 n1 n2
      go_enter Try.func33, Try.ntmps33
      go_wp2
      go_ret
      exact ⟨ret_i HE.out, (Below.refl _ _).alloc (Nat.le_refl _) _⟩
  · rw [if_pos (.inl n1)] at hE
    have HE := Lib.hid hE
    have e1 : ((l.length : Int) != 401) = true := by rw [bne_iff_ne]; omega
    clear hE g1 g2 n1
    go_enter Try.func33, Try.ntmps33
    go_wp2
    go_ret
    exact ⟨ret_i HE.out, (Below.refl _ _).alloc (Nat.le_refl _) _⟩
set_option maxHeartbeats 1600000 in
theorem dCheckP (v u : Value) (l m : List Int) (w : World) (h1 : IsL w v l) (h2 : IsL w u m) (E : Int) (hE : checkP l m = E) :
    Calls Try.prog 34 #[.agg #[v, u]] w fun e w' => e = .returned (.int .i64 E) ∧ Below w.heap.size w w' := by
  obtain ⟨a, c, rfl, g1⟩ := h1
  obtain ⟨b, d, rfl, g2⟩ := h2
  have hl1 := g1.1
  have hl2 := g2.1
  unfold checkP at hE
  have hw0 : Hid ((w.alloc (.cells #[.slice a l.length c, .slice b m.length d] 47)).heap[w.heap.size]? = some (.cells #[.slice a l.length c, .slice b m.length d] 47 (0, 0))) := heap_alloc_new w _
  by_cases n1 : l.length = 401
  · by_cases n2 : m.length = 52
    · rw [if_neg (by omega)] at hE
      have e1 : ((l.length : Int) != 401) = false := by rw [n1]; rfl
      have e2 : ((m.length : Int) != 52) = false := by rw [n2]; rfl
      have k1 : IsL (w.alloc (.cells #[.slice a l.length c, .slice b m.length d] 47)) (.slice a l.length c) l := ⟨_, _, rfl, g1.alloc _⟩
      have k2 : IsL (w.alloc (.cells #[.slice a l.length c, .slice b m.length d] 47)) (.slice b m.length d) m := ⟨_, _, rfl, g2.alloc _⟩
      have C1 := dMay _ l _ k1 _ rfl
      have C2 := fun W (h : IsL W (.slice b m.length d) m) => dMay _ m W h _ rfl
      rcases hA : okP l with _ | _
      · rw [hA] at C1 hE
        have HE := Lib.hid (show (2 : Int) = E by rw [← hE]; rfl)
        have C1_ := Lib.hid C1
        clear C1
        clear C2 hE hA g1 g2 k1 k2 n1 n2
        go_enter Try.func34, Try.ntmps34
        go_wp2_with fail
        refine C1_.out.mono ?_; rintro e w1 ⟨rfl, hb1⟩
        go_wp2_with fail
        go_ret
        exact ⟨ret_i HE.out, ((Below.refl _ _).alloc (Nat.le_refl _) _).trans (hb1.mono (by simp))⟩
      · rw [hA] at C1 hE
        rcases hB : okP m with _ | _
        · rw [hB] at C2 hE
          have HE := Lib.hid (show (2 : Int) = E by rw [← hE]; rfl)
          have C1_ := Lib.hid C1
          have C2_ := Lib.hid C2
          have k2_ := Lib.hid k2
          clear C1 C2 k2
          clear hE hA hB g1 g2 k1 n1 n2
          go_enter Try.func34, Try.ntmps34
          go_wp2_with fail
          refine C1_.out.mono ?_; rintro e w1 ⟨rfl, hb1⟩
          have c1 : w1.cell? ⟨w.heap.size, 1, none⟩ = some (.slice b m.length d) := (hb1.cell (by simp)).trans (cell_lit hw0.out 1 _ rfl)
          have hb : Below w.heap.size w w1 := ((Below.refl _ _).alloc (Nat.le_refl _) _).trans (hb1.mono (by simp))
          have k2 := Lib.hid (k2_.out.kept hb1)
          clear hb1
          go_wp2_with fail
          refine (C2_.out w1 k2.out).mono ?_; rintro e w2 ⟨rfl, hb2⟩
          go_wp2_with fail
          go_ret
          exact ⟨ret_i HE.out, hb.trans (hb2.mono hb.size)⟩
        · rw [hB] at C2 hE
          have HE := Lib.hid (show (0 : Int) = E by rw [← hE]; rfl)
          have C1_ := Lib.hid C1
          have C2_ := Lib.hid C2
          have k2_ := Lib.hid k2
          clear C1 C2 k2
          clear hE hA hB g1 g2 k1 n1 n2
          go_enter Try.func34, Try.ntmps34
          go_wp2_with fail
          refine C1_.out.mono ?_; rintro e w1 ⟨rfl, hb1⟩
          have c1 : w1.cell? ⟨w.heap.size, 1, none⟩ = some (.slice b m.length d) := (hb1.cell (by simp)).trans (cell_lit hw0.out 1 _ rfl)
          have hb : Below w.heap.size w w1 := ((Below.refl _ _).alloc (Nat.le_refl _) _).trans (hb1.mono (by simp))
          have k2 := Lib.hid (k2_.out.kept hb1)
          clear hb1
          go_wp2_with fail
          refine (C2_.out w1 k2.out).mono ?_; rintro e w2 ⟨rfl, hb2⟩
          go_wp2_with fail
          go_ret
          exact ⟨ret_i HE.out, hb.trans (hb2.mono hb.size)⟩
    · rw [if_pos (.inr n2)] at hE
      have HE := Lib.hid hE
      have e1 : ((l.length : Int) != 401) = false := by rw [n1]; rfl
      have e2 : ((m.length : Int) != 52) = true := by rw [bne_iff_ne]; omega
      clear hE g1 g2 n1 n2
      go_enter Try.func34, Try.ntmps34
      go_wp2
      go_ret
      exact ⟨ret_i HE.out, (Below.refl _ _).alloc (Nat.le_refl _) _⟩
  · rw [if_pos (.inl n1)] at hE
    have HE := Lib.hid hE
    have e1 : ((l.length : Int) != 401) = true := by rw [bne_iff_ne]; omega
    clear hE g1 g2 n1
    go_enter Try.func34, Try.ntmps34
    go_wp2
    go_ret
    exact ⟨ret_i HE.out, (Below.refl _ _).alloc (Nat.le_refl _) _⟩
end Go.Proofs.Ytekageibffhloaa
