/- Layer 2's awake, and readers that are none. -/
import Derived.Test.YtplopddlpoffoaaBs
namespace Go.Proofs.Ytplopddlpoffoaa
open Go.ChangeShapes Go.WideShapes Go.ChangeAt Go.RowKit
set_option linter.unusedVariables false
set_option maxRecDepth 100000
open Bits

theorem rLeftNone (w : World) : Calls Try.prog 34 #[.pointer none] w fun e w' => e = .returned (.int .i64 0) ∧ w' = w := by
  go_enter Try.func34, Try.ntmps34
  go_wp2
  go_ret
  exact ⟨rfl, rfl⟩
theorem rTakeNone (n : Int) (w : World) : Calls Try.prog 32 #[.pointer none, .int .i64 n] w fun e w' => e = .returned (.tuple #[.int .u64 0, .int .i64 1]) ∧ ∃ k, w' = w.drewN k :=
  rTakeOut w none n 1 ((rMayNone n w).mono fun e w' ⟨h1, h2⟩ => ⟨h1, 0, h2⟩) (by decide)
def five : ByteArray := ⟨#[5]⟩
end Go.Proofs.Ytplopddlpoffoaa
