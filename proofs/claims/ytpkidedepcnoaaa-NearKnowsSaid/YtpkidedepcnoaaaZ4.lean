/- Layer 21: At where it knows nothing. -/
import Derived.Test.YtpkidedepcnoaaaZ3
namespace Go.Proofs.Ytpkidedepcnoaaa
open Go.ChangeShapes Go.WideShapes Go.ChangeAt Go.RowKit
set_option linter.unusedVariables false
set_option linter.unusedSimpArgs false
set_option maxRecDepth 100000
theorem cAtNone (i win most : Int) (w : World) : Calls Try.prog 26 #[.pointer none, .int .i64 i, .int .i64 win, .int .i64 most] w fun e w' => e = .returned (.slice none 0 0) ∧ w' = w := by
  go_enter Try.func26, Try.ntmps26
  go_wp2_with fail
  go_ret
  exact ⟨rfl, rfl⟩
theorem cAtOut (g : Nat) (L : List UInt8) (a : List Nat) (i win most : Int) (w : World) (h : IsFin w g L a) (ho : i < 0 ∨ L.length ≤ i ∨ win < 1 ∨ most < 2) : Calls Try.prog 26 #[.pointer (some ⟨g, 0, none⟩), .int .i64 i, .int .i64 win, .int .i64 most] w fun e w' => e = .returned (.slice none 0 0) ∧ w' = w := by
  obtain ⟨v, u, r, hg, hs, ⟨pv, cv, rfl, hv⟩, hu, hr⟩ := h
  have hl : (nI a).length = L.length := by rw [nI_len, hs.len]
  rw [hl] at hg
  have c0 := cell_lit hg 0 _ rfl
  have lg := block_lt hg
  clear hv hu hr hg hl hs
  by_cases h1 : i < 0
  · go_enter Try.func26, Try.ntmps26
    go_wp2_with fail
    go_ret
    exact ⟨rfl, rfl⟩
  · by_cases h2 : (L.length : Int) ≤ i
    · go_enter Try.func26, Try.ntmps26
      go_wp2_with fail
      go_ret
      exact ⟨rfl, rfl⟩
    · by_cases h3 : win < 1
      · go_enter Try.func26, Try.ntmps26
        go_wp2_with fail
        go_ret
        exact ⟨rfl, rfl⟩
      · have h4 : most < 2 := by omega
        go_enter Try.func26, Try.ntmps26
        go_wp2_with fail
        go_ret
        exact ⟨rfl, rfl⟩
end Go.Proofs.Ytpkidedepcnoaaa
