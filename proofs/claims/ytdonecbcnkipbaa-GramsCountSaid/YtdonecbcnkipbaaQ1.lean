/- Layer 42: sums. -/
import Derived.Test.YtdonecbcnkipbaaK3
import Derived.Test.YtdonecbcnkipbaaQm
namespace Go.Proofs.Ytdonecbcnkipbaa
open Go.ChangeShapes Go.WideShapes Go.ChangeAt Go.RowKit
set_option linter.unusedVariables false
set_option maxRecDepth 100000
open RollMath

theorem L_get (p : ByteArray) (n : Nat) (h : n < p.size) : p.data.toList[n]? = some p[n] := by
  have : n < p.data.toList.length := by simpa using h
  rw [List.getElem?_eq_getElem this]; rfl
theorem L_take (s : ByteArray) (k : Nat) (h : k < s.size) : s.data.toList.take (k + 1) = s.data.toList.take k ++ [s[k]] := by
  rw [List.take_succ_eq_append_getElem (by simpa using h)]; rfl
theorem pw_odd (p q m : Nat) : (p * q % P * (q * q % P) ^ m) % P = (p * q ^ (2 * m + 1)) % P := by
  rw [Nat.mul_mod, Nat.mod_mod, ← Nat.pow_mod, ← Nat.mul_mod, Nat.pow_succ, Nat.pow_mul, Nat.pow_two, Nat.mul_assoc, Nat.mul_comm q]
theorem pw_even (p q m : Nat) : (p * (q * q % P) ^ m) % P = (p * q ^ (2 * m)) % P := by
  rw [Nat.mul_mod, ← Nat.pow_mod, ← Nat.mul_mod, Nat.pow_mul, Nat.pow_two]
end Go.Proofs.Ytdonecbcnkipbaa
