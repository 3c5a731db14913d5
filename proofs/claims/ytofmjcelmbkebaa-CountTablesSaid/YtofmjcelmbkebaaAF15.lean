/- Layer 24: the document's Check of prices. -/
import Derived.Test.YtofmjcelmbkebaaAF14
namespace Go.Proofs.Ytofmjcelmbkebaa
open Go.ChangeShapes Go.WideShapes Go.ChangeAt Go.RowKit
set_option linter.unusedVariables false
set_option linter.unusedSimpArgs false
set_option maxRecDepth 100000
set_option maxHeartbeats 1600000 in
theorem dCheck (a b : Option Addr) (c k : Nat) (l r : List Int) (w : World) (h1 : IsInts w a (prL l 401)) (h2 : IsInts w b (prL r 52)) :
    Calls Try.prog 29 #[.agg #[.slice a 401 c, .slice b 52 k]] w fun e w' => e = .returned (.int .i64 0) ∧ Below w.heap.size w w' := by
  have C1 := Lib.hid (fun W h => dFine a c 401 l W h (by decide))
  have C2 := Lib.hid (fun W h => dFine b k 52 r W h (by decide))
  have HB := Lib.hid ((Below.refl w.heap.size w).alloc (Nat.le_refl _) (.cells #[.slice a 401 c, .slice b 52 k] 56))
  have hq := heap_alloc_new w (.cells #[.slice a 401 c, .slice b 52 k] 56)
  have H1 := Lib.hid (h1.kept HB.out)
  have H2 := Lib.hid (h2.kept HB.out)
  have c0 := cell_lit hq 0 (.slice a 401 c) rfl
  have c1 := cell_lit hq 1 (.slice b 52 k) rfl
  clear h1 h2 hq
  go_enter Try.func29, Try.ntmps29
  go_wp2_with fail
  obtain ⟨g, hg⟩ : ∃ g, w.heap.size = g := ⟨_, rfl⟩
  have HG := Lib.hid hg
  rw [hg] at c0 c1
  generalize w.alloc (.cells #[.slice a 401 c, .slice b 52 k] 56) = W0 at *
  refine (C1.out _ H1.out).mono ?_; rintro e w1 ⟨rfl, hb⟩
  have c0 := (hb.cell (cell_block c0)).trans c0
  have c1 := (hb.cell (cell_block c1)).trans c1
  have H2 := Lib.hid (H2.out.kept hb)
  have HB := Lib.hid (HB.out.trans (hb.mono HB.out.size))
  clear hb H1 C1
  go_wp2_with fail
  refine (C2.out _ H2.out).mono ?_; rintro e w2 ⟨rfl, hb⟩
  have HB := Lib.hid (HB.out.trans (hb.mono HB.out.size))
  clear hb
  go_wp2_with fail
  go_ret
  exact ⟨rfl, HB.out⟩
end Go.Proofs.Ytofmjcelmbkebaa
