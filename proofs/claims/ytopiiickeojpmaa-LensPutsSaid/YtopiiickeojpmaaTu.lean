
/- A number the other way round, plainly. -/
namespace Go.Proofs.Ytopiiickeojpmaa.TurnMath
/-- The lowest n bits of c the other way round, bit by bit. -/
def turn (c : Nat) : Nat → Nat
  | 0 => 0
  | n + 1 => 2 * turn c n + c / 2 ^ n % 2
theorem turn_lt (c n : Nat) : turn c n < 2 ^ n := by
  induction n with
  | zero => simp [turn]
  | succ n ih => simp only [turn, Nat.pow_succ]; omega
theorem turn_bit (c n i : Nat) : (turn c n).testBit i = (decide (i < n) && c.testBit (n - 1 - i)) := by
  induction n generalizing i with
  | zero => simp [turn]
  | succ n ih =>
    have hd : (2 * turn c n + c / 2 ^ n % 2) / 2 = turn c n := by omega
    have hm : (2 * turn c n + c / 2 ^ n % 2) % 2 = c / 2 ^ n % 2 := by omega
    cases i with
    | zero =>
      simp only [turn, Nat.testBit_zero, hm]
      rw [Nat.testBit_eq_decide_div_mod_eq]; simp
    | succ i =>
      rw [Nat.testBit_succ]; simp only [turn, hd, ih]
      rw [show n + 1 - 1 - (i + 1) = n - 1 - i from by omega]
      simp
def swap (x s m : Nat) : Nat := (x / 2 ^ s &&& m) ||| ((x &&& m) * 2 ^ s)
theorem swap_bit (x s m i : Nat) : (swap x s m).testBit i = ((x.testBit (i + s) && m.testBit i) || (decide (s ≤ i) && (x.testBit (i - s) && m.testBit (i - s)))) := by
  unfold swap
  rw [Nat.testBit_or, Nat.testBit_and, Nat.testBit_div_two_pow, Nat.testBit_mul_two_pow, Nat.testBit_and]
def rev32 (x : Nat) : Nat :=
  swap (swap (swap (swap (swap x 1 1431655765) 2 858993459) 4 252645135) 8 16711935) 16 65535
theorem rev_bit (x : Nat) (_hx : x < 2 ^ 32) (i : Nat) (hi : i < 32) : (rev32 x).testBit i = x.testBit (31 - i) := by
  unfold rev32
  simp only [swap_bit]
  have e : i = 0 ∨ i = 1 ∨ i = 2 ∨ i = 3 ∨ i = 4 ∨ i = 5 ∨ i = 6 ∨ i = 7 ∨ i = 8 ∨ i = 9 ∨ i = 10 ∨ i = 11 ∨ i = 12 ∨ i = 13 ∨ i = 14 ∨ i = 15 ∨ i = 16 ∨ i = 17 ∨ i = 18 ∨ i = 19 ∨ i = 20 ∨ i = 21 ∨ i = 22 ∨ i = 23 ∨ i = 24 ∨ i = 25 ∨ i = 26 ∨ i = 27 ∨ i = 28 ∨ i = 29 ∨ i = 30 ∨ i = 31 := by omega
  have b1 : ∀ j, j < 34 → Nat.testBit 1431655765 j = decide (j < 32 ∧ j % 2 = 0) := by decide
  have b2 : ∀ j, j < 36 → Nat.testBit 858993459 j = decide (j < 32 ∧ j % 4 < 2) := by decide
  have b3 : ∀ j, j < 40 → Nat.testBit 252645135 j = decide (j < 32 ∧ j % 8 < 4) := by decide
  have b4 : ∀ j, j < 48 → Nat.testBit 16711935 j = decide (j < 32 ∧ j % 16 < 8) := by decide
  have b5 : ∀ j, j < 64 → Nat.testBit 65535 j = decide (j < 16) := by decide
  rcases e with rfl | rfl | rfl | rfl | rfl | rfl | rfl | rfl | rfl | rfl | rfl | rfl | rfl | rfl | rfl | rfl | rfl | rfl | rfl | rfl | rfl | rfl | rfl | rfl | rfl | rfl | rfl | rfl | rfl | rfl | rfl | rfl <;>
    simp [b1, b2, b3, b4, b5]
theorem rev_lt (x : Nat) (_hx : x < 2 ^ 32) : rev32 x < 2 ^ 32 := by
  apply Nat.lt_pow_two_of_testBit
  intro i hi
  unfold rev32
  rw [swap_bit]
  have : (65535 : Nat).testBit i = false := Nat.testBit_lt_two_pow (Nat.lt_of_lt_of_le (by decide : 65535 < 2 ^ 16) (Nat.pow_le_pow_right (by decide) (by omega)))
  rw [this]
  by_cases h : i - 16 < 16
  · omega
  · have : (65535 : Nat).testBit (i - 16) = false := Nat.testBit_lt_two_pow (Nat.lt_of_lt_of_le (by decide : 65535 < 2 ^ 16) (Nat.pow_le_pow_right (by decide) (by omega)))
    rw [this]; simp
theorem rev_turn (c n : Nat) (hn : n ≤ 32) : rev32 (c % 2 ^ 32) / 2 ^ (32 - n) = turn c n := by
  apply Nat.eq_of_testBit_eq
  intro i
  rw [Nat.testBit_div_two_pow, turn_bit]
  have hc : c % 2 ^ 32 < 2 ^ 32 := Nat.mod_lt _ (by decide)
  by_cases h : i < n
  · rw [rev_bit _ hc _ (by omega), Nat.testBit_mod_two_pow, show 31 - (i + (32 - n)) = n - 1 - i from by omega, decide_eq_true (show n - 1 - i < 32 by omega), decide_eq_true h]
  · rw [Nat.testBit_lt_two_pow (Nat.lt_of_lt_of_le (rev_lt _ hc) (Nat.pow_le_pow_right (by decide) (by omega)))]
    simp [h]
theorem turn_turn (x k : Nat) (hx : x < 2 ^ k) : turn (turn x k) k = x := by
  apply Nat.eq_of_testBit_eq
  intro i
  rw [turn_bit, turn_bit]
  by_cases h : i < k
  · rw [decide_eq_true h, decide_eq_true (show k - 1 - i < k by omega), show k - 1 - (k - 1 - i) = i from by omega]; rfl
  · have hx' : x.testBit i = false := Nat.testBit_lt_two_pow (Nat.lt_of_lt_of_le hx (Nat.pow_le_pow_right (by decide) (by omega)))
    rw [decide_eq_false h, hx']; rfl
end Go.Proofs.Ytopiiickeojpmaa.TurnMath
