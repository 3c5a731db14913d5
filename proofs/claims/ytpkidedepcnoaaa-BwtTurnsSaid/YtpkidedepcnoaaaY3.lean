/- Layer 48: Back. -/
import Derived.Test.YtpkidedepcnoaaaY2
namespace Go.Proofs.Ytpkidedepcnoaaa
open Go.ChangeShapes Go.WideShapes Go.ChangeAt Go.RowKit
set_option linter.unusedVariables false
set_option linter.unusedSimpArgs false
set_option maxRecDepth 100000
theorem cByteOf (T : List UInt8) (at_ row : Nat) (w : World) (hT : T.length ≤ 100000) (hr : row ≤ T.length) (ha : at_ ≤ T.length) (hne : row ≠ at_) :
    Calls Try.prog 45 #[.string (sM T), .int .i64 at_, .int .i64 row] w fun e w' => e = .returned (.int .u8 (byteAt T (sOfB at_ row) : Nat)) ∧ ∃ k, w' = w.drewN k := by
  have hS : (sM T).size = T.length := sM_size T
  unfold sOfB
  by_cases h : at_ < row
  · rw [if_pos h]
    obtain ⟨z, hz⟩ : ∃ z, row - 1 = z := ⟨_, rfl⟩
    rw [hz]
    have hzi : (row : Int) - 1 = (z : Int) := by omega
    have x1 := ixM T (z : Int) z rfl (by omega)
    have hzn : (z : Int) < T.length := by omega
    have h1 : (at_ : Int) < row := by omega
    unfold byteAt
    obtain ⟨Y, hY⟩ : ∃ Y, (T.getD z 0).toNat = Y := ⟨_, rfl⟩
    rw [hY] at x1 ⊢
    clear hY hz
    go_enter Try.func45, Try.ntmps45
    go_wp2_with fail
    go_ret
    exact ⟨rfl, 0, rfl⟩
  · rw [if_neg h]
    have x1 := ixM T (row : Int) row rfl (by omega)
    have hzn : (row : Int) < T.length := by omega
    have h1 : ¬ (at_ : Int) < row := by omega
    unfold byteAt
    obtain ⟨Y, hY⟩ : ∃ Y, (T.getD row 0).toNat = Y := ⟨_, rfl⟩
    rw [hY] at x1 ⊢
    clear hY
    go_enter Try.func45, Try.ntmps45
    go_wp2_with fail
    go_ret
    exact ⟨rfl, 0, rfl⟩
end Go.Proofs.Ytpkidedepcnoaaa
