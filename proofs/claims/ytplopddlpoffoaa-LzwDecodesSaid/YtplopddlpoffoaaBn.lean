/- Words on bits of unsigned numbers of 64. -/
import Derived.Test.YtplopddlpoffoaaBm
import Derived.Test.YtplopddlpoffoaaOwn
import Derived.IntWalk
import Derived.WalkLawsBesides
namespace Go.Proofs.Ytplopddlpoffoaa
open Go.ChangeShapes Go.WideShapes Go.ChangeAt Go.RowKit
set_option linter.unusedVariables false
set_option maxRecDepth 100000
open Bits
theorem wrap_u64_nat (n : Nat) (h : n < 2 ^ 64) : IntKind.u64.wrap (n : Int) = (n : Int) := IntWalk.u64_in _ (by omega)
theorem or_u64 (x y : Nat) (hx : x < 2 ^ 64) (hy : y < 2 ^ 64) : bits .or .u64 (x : Int) (y : Int) = ((x ||| y : Nat) : Int) :=
  (bits_nat .u64 64 (by decide) (fun n h1 h2 => IntWalk.u64_in n (by omega)) x y hx hy).2
theorem and_u64 (x y : Nat) (hx : x < 2 ^ 64) (hy : y < 2 ^ 64) : bits .and .u64 (x : Int) (y : Int) = ((x &&& y : Nat) : Int) :=
  (bits_nat .u64 64 (by decide) (fun n h1 h2 => IntWalk.u64_in n (by omega)) x y hx hy).1
def lack (a : Nat) : Nat := (8 - a % 8) % 8
theorem below_keeps {w w1 w2 : World} {g : Nat} (hb : Below w.heap.size w w1) (hk : Keeps (fun k => k = g) w1 w2) (hg : w.heap.size ≤ g) : Below w.heap.size w w2 :=
  hb.trans (hk.below (fun k hk' => ⟨Nat.lt_of_lt_of_le hk' hb.size, fun e => by omega⟩))
end Go.Proofs.Ytplopddlpoffoaa
