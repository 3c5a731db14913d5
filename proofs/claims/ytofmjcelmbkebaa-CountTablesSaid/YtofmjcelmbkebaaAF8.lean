/- Layer 24: Prices, both. -/
import Derived.Test.YtofmjcelmbkebaaAF7
namespace Go.Proofs.Ytofmjcelmbkebaa
open Go.ChangeShapes Go.WideShapes Go.ChangeAt Go.RowKit
set_option linter.unusedVariables false
set_option linter.unusedSimpArgs false
set_option maxRecDepth 100000
set_option maxHeartbeats 1600000 in
theorem cPrices (a b : Option Addr) (n m c k : Nat) (l r : List Int) (w : World) (hl : l.length = n) (hr : r.length = m) (h1 : IsInts w a l) (h2 : IsInts w b r) (hn : n ≤ 1000) (hm : m ≤ 1000) :
    Calls Try.prog 28 #[.slice a n c, .slice b m k] w fun e w' => ∃ v1 v2, e = .returned (.agg #[v1, v2]) ∧ IsL w' v1 (prL l 401) ∧ IsL w' v2 (prL r 52) ∧ Below w.heap.size w w' := by
  have H1 := Lib.hid h1
  have H2 := Lib.hid h2
  have C1 := Lib.hid (fun W h => cPricesL 401 n a c l W hl h hn (by decide))
  have C2 := Lib.hid (fun W h => cPricesL 52 m b k r W hr h hm (by decide))
  clear h1 h2 hl hr
  go_enter Try.func28, Try.ntmps28
  have hq := heap_alloc_new w (.cells #[.slice none 0 0, .slice none 0 0] 56)
  have HB := Lib.hid ((Below.refl w.heap.size w).alloc (Nat.le_refl _) (.cells #[.slice none 0 0, .slice none 0 0] 56))
  obtain ⟨g, hg⟩ : ∃ g, w.heap.size = g := ⟨_, rfl⟩
  have HG := Lib.hid hg
  go_wp2_with fail
  rw [hg] at hq
  have HQ := Lib.hid hq
  clear hq hg
  refine (C1.out _ (H1.out.kept HB.out)).mono ?_; rintro e w1 ⟨v1, rfl, ho1, hb1⟩
  have HO1 := Lib.hid (show OwnI (g + 1) w1 v1 (prL l 401) from ho1.base (by rw [World.size_alloc, HG.out]; exact Nat.le_refl _))
  have HQ1 := Lib.hid ((hb1.block _ (block_lt HQ.out)).trans HQ.out)
  have HB1 := Lib.hid (HB.out.trans (hb1.mono HB.out.size))
  clear ho1 hb1 HQ HB
  go_wp2_with fail
  refine (C2.out _ (H2.out.kept HB1.out)).mono ?_; rintro e w2 ⟨v2, rfl, ho2, hb2⟩
  have HO2 := Lib.hid (show OwnI (g + 1) w2 v2 (prL r 52) from ho2.base (by have := block_lt HQ1.out; omega))
  have HO1 := Lib.hid (HO1.out.kept hb2)
  have HQ2 := Lib.hid ((hb2.block _ (block_lt HQ1.out)).trans HQ1.out)
  have HB2 := Lib.hid (HB1.out.trans (hb2.mono HB1.out.size))
  clear ho2 hb2 HQ1 HB1
  obtain ⟨a1, k1, e1⟩ := HO1.out.slice
  obtain ⟨a2, k2, e2⟩ := HO2.out.slice
  rw [prL_len] at e1 e2
  subst e1 e2
  have c0 := cell_lit HQ2.out 0 _ rfl
  have c1 := cell_lit HQ2.out 1 _ rfl
  have f0 := free_in HQ2.out 0
  have f1 := free_in HQ2.out 1
  have lg := block_lt HQ2.out
  go_wp2_with fail
  have hz := block_set (block_set HQ2.out 0 (.slice a1 401 k1)) 1 (.slice a2 52 k2)
  have d0 := cell_lit hz 0 (.slice a1 401 k1) rfl
  have d1 := cell_lit hz 1 (.slice a2 52 k2) rfl
  have HX1 := Lib.hid ((HO1.out.setLow (p := ⟨g, 0, none⟩) (by simp) (.slice a1 401 k1)).setLow (p := ⟨g, 1, none⟩) (by simp) (.slice a2 52 k2))
  have HX2 := Lib.hid ((HO2.out.setLow (p := ⟨g, 0, none⟩) (by simp) (.slice a1 401 k1)).setLow (p := ⟨g, 1, none⟩) (by simp) (.slice a2 52 k2))
  have HX3 := Lib.hid ((HB2.out.setCell (p := ⟨g, 0, none⟩) (Nat.le_of_eq HG.out) (.slice a1 401 k1)).setCell (p := ⟨g, 1, none⟩) (Nat.le_of_eq HG.out) (.slice a2 52 k2))
  exact bodyPost_ret (v := .agg #[_, _]) (by simp [results, Try.results28, go_sem, d0, d1]) rfl ⟨_, _, rfl, HX1.out.isL (by rw [prL_len]; decide), HX2.out.isL (by rw [prL_len]; decide), HX3.out⟩
end Go.Proofs.Ytofmjcelmbkebaa
