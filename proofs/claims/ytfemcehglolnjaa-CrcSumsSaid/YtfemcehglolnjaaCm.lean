/- The sum's mathematics. -/
namespace Go.Proofs.Ytfemcehglolnjaa.CrcMath
def poly : Nat := 3988292384
def step1 (c : Nat) : Nat := if c % 2 = 1 then c / 2 ^^^ poly else c / 2
def stepN : Nat → Nat → Nat
  | 0, c => c
  | n + 1, c => stepN n (step1 c)
theorem poly_lt : poly < 2 ^ 32 := by decide
theorem step1_lt (c : Nat) (h : c < 2 ^ 32) : step1 c < 2 ^ 32 := by
  unfold step1; split
  · exact Nat.xor_lt_two_pow (by omega) poly_lt
  · omega
theorem stepN_lt (n c : Nat) (h : c < 2 ^ 32) : stepN n c < 2 ^ 32 := by
  induction n generalizing c with
  | zero => exact h
  | succ n ih => exact ih _ (step1_lt c h)
theorem xor_mod2 (x y : Nat) : (x ^^^ y) % 2 = (x % 2 + y % 2) % 2 := by
  have h := Nat.xor_mod_two_pow (a := x) (b := y) (n := 1)
  rw [show (2 : Nat) ^ 1 = 2 from rfl] at h
  rw [h]
  have hx : x % 2 = 0 ∨ x % 2 = 1 := by omega
  have hy : y % 2 = 0 ∨ y % 2 = 1 := by omega
  rcases hx with hx | hx <;> rcases hy with hy | hy <;> rw [hx, hy] <;> rfl
theorem xor_div2 (x y : Nat) : (x ^^^ y) / 2 = x / 2 ^^^ y / 2 := by
  have := Nat.shiftRight_xor_distrib (a := x) (b := y) (i := 1)
  simpa [Nat.shiftRight_eq_div_pow] using this
theorem step1_xor (x y : Nat) : step1 (x ^^^ y) = step1 x ^^^ step1 y := by
  have hx : x % 2 = 0 ∨ x % 2 = 1 := by omega
  have hy : y % 2 = 0 ∨ y % 2 = 1 := by omega
  have h2 := xor_mod2 x y
  have hd := xor_div2 x y
  unfold step1
  rcases hx with hx | hx <;> rcases hy with hy | hy <;> simp only [hx, hy, hd, h2] <;> simp
  · rw [Nat.xor_assoc]
  · rw [Nat.xor_assoc, Nat.xor_assoc, Nat.xor_comm poly]
  · rw [Nat.xor_assoc, Nat.xor_comm poly, Nat.xor_assoc, Nat.xor_self, Nat.xor_zero]
theorem stepN_xor (n x y : Nat) : stepN n (x ^^^ y) = stepN n x ^^^ stepN n y := by
  induction n generalizing x y with
  | zero => rfl
  | succ n ih => simp only [stepN, step1_xor, ih]
theorem stepN_mul (n x : Nat) : stepN n (x * 2 ^ n) = x := by
  induction n generalizing x with
  | zero => simp [stepN]
  | succ n ih =>
    simp only [stepN]
    have h0 : x * 2 ^ (n + 1) % 2 = 0 := by rw [Nat.pow_succ, ← Nat.mul_assoc, Nat.mul_mod_left]
    have h1 : x * 2 ^ (n + 1) / 2 = x * 2 ^ n := by rw [Nat.pow_succ, ← Nat.mul_assoc, Nat.mul_div_cancel _ (by decide)]
    unfold step1; rw [h0, h1]; simpa using ih x
theorem split_byte (c : Nat) : c = c % 256 ^^^ (c / 256) * 2 ^ 8 := by
  have h := Nat.two_pow_add_eq_or_of_lt (i := 8) (b := c % 256) (by omega) (c / 256)
  rw [show (2 : Nat) ^ 8 * (c / 256) + c % 256 = c from by omega] at h
  apply Nat.eq_of_testBit_eq
  intro i
  conv => lhs; rw [h]
  rw [Nat.testBit_or, Nat.testBit_xor, Nat.mul_comm (c / 256)]
  have h2 : (2 ^ 8 * (c / 256)).testBit i = false ∨ (c % 256).testBit i = false := by
    by_cases hi : i < 8
    · left; rw [Nat.testBit_two_pow_mul]; simp; omega
    · right; exact Nat.testBit_lt_two_pow (Nat.lt_of_lt_of_le (show c % 256 < 2 ^ 8 by omega) (Nat.pow_le_pow_right (by omega) (by omega)))
  rcases h2 with h2 | h2 <;> rw [h2] <;> simp
theorem step8 (c : Nat) : stepN 8 c = stepN 8 (c % 256) ^^^ c / 256 := by
  conv => lhs; rw [split_byte c]
  rw [stepN_xor, stepN_mul]
theorem byte_xor_mod (c b : Nat) (hb : b < 256) : (c ^^^ b) % 256 = c % 256 ^^^ b := by
  have := Nat.xor_mod_two_pow (a := c) (b := b) (n := 8)
  simpa [Nat.mod_eq_of_lt hb] using this
theorem byte_xor_div (c b : Nat) (hb : b < 256) : (c ^^^ b) / 256 = c / 256 := by
  have := Nat.shiftRight_xor_distrib (a := c) (b := b) (i := 8)
  simp [Nat.shiftRight_eq_div_pow, Nat.div_eq_of_lt hb] at this
  exact this
/-- The table's step is eight steps of the row's byte laid over the sum. -/
theorem step8_byte (c b : Nat) (hb : b < 256) : stepN 8 (c ^^^ b) = stepN 8 (c % 256 ^^^ b) ^^^ c / 256 := by
  rw [step8, byte_xor_mod c b hb, byte_xor_div c b hb]
theorem step1_inj (x y : Nat) (hx : x < 2 ^ 32) (hy : y < 2 ^ 32) (h : step1 x = step1 y) : x = y := by
  have key : ∀ z, z < 2 ^ 32 → step1 z / 2 ^ 31 = z % 2 := by
    intro z hz
    unfold step1
    have h3 : z / 2 / 2 ^ 31 = 0 := by omega
    split
    · rename_i h1
      have := Nat.shiftRight_xor_distrib (a := z / 2) (b := poly) (i := 31)
      simp only [Nat.shiftRight_eq_div_pow] at this
      rw [this, h3, h1]
      decide
    · omega
  have h2 : x % 2 = y % 2 := by rw [← key x hx, ← key y hy, h]
  have h3 : x / 2 = y / 2 := by
    unfold step1 at h
    rw [h2] at h
    split at h
    · have := congrArg (· ^^^ poly) h
      simpa [Nat.xor_assoc] using this
    · exact h
  omega
theorem stepN_inj (n x y : Nat) (hx : x < 2 ^ 32) (hy : y < 2 ^ 32) (h : stepN n x = stepN n y) : x = y := by
  induction n generalizing x y with
  | zero => exact h
  | succ n ih => exact step1_inj x y hx hy (ih _ _ (step1_lt x hx) (step1_lt y hy) h)
/-- The sum of bytes behind a state. -/
def run (c : Nat) : List UInt8 → Nat
  | [] => c
  | b :: l => run (stepN 8 (c ^^^ b.toNat)) l
theorem run_lt (c : Nat) (l : List UInt8) (h : c < 2 ^ 32) : run c l < 2 ^ 32 := by
  induction l generalizing c with
  | nil => exact h
  | cons b l ih => exact ih _ (stepN_lt 8 _ (Nat.xor_lt_two_pow h (by have := b.toNat_lt; omega)))
theorem run_append (c : Nat) (a b : List UInt8) : run c (a ++ b) = run (run c a) b := by
  induction a generalizing c with
  | nil => rfl
  | cons x a ih => exact ih _
theorem run_inj (x y : Nat) (l : List UInt8) (hx : x < 2 ^ 32) (hy : y < 2 ^ 32) (h : run x l = run y l) : x = y := by
  induction l generalizing x y with
  | nil => exact h
  | cons b l ih =>
    have lb : b.toNat < 2 ^ 32 := by have := b.toNat_lt; omega
    have h1 := ih _ _ (stepN_lt 8 _ (Nat.xor_lt_two_pow hx lb)) (stepN_lt 8 _ (Nat.xor_lt_two_pow hy lb)) h
    have h2 := stepN_inj 8 _ _ (Nat.xor_lt_two_pow hx lb) (Nat.xor_lt_two_pow hy lb) h1
    have := congrArg (· ^^^ b.toNat) h2
    simpa [Nat.xor_assoc] using this
def flip (c : Nat) : Nat := 4294967295 - c
def add (sum : Nat) (l : List UInt8) : Nat := flip (run (flip sum) l)
theorem flip_lt (c : Nat) : flip c < 2 ^ 32 := by unfold flip; omega
theorem flip_flip (c : Nat) (h : c < 2 ^ 32) : flip (flip c) = c := by unfold flip; omega
theorem add_append (s : Nat) (a b : List UInt8) (_h : s < 2 ^ 32) : add s (a ++ b) = add (add s a) b := by
  unfold add; rw [run_append, flip_flip _ (run_lt _ _ (flip_lt s))]
theorem sub_inj (M a b : Nat) (ha : a ≤ M) (hb : b ≤ M) (h : M - a = M - b) : a = b := by omega
theorem flip_inj (a b : Nat) (ha : a < 2 ^ 32) (hb : b < 2 ^ 32) (h : flip a = flip b) : a = b :=
  sub_inj 4294967295 a b (by omega) (by omega) (by simpa only [flip] using h)
theorem add_inj (s : Nat) (a b : List UInt8) (h : add s a = add s b) : run (flip s) a = run (flip s) b :=
  flip_inj (run (flip s) a) (run (flip s) b) (run_lt _ _ (flip_lt s)) (run_lt _ _ (flip_lt s)) (by simpa only [add] using h)
theorem byte_lt (x : UInt8) : x.toNat < 2 ^ 32 := by have := x.toNat_lt; omega
theorem start_lt (c : Nat) (x : UInt8) (h : c < 2 ^ 32) : c ^^^ x.toNat < 2 ^ 32 := Nat.xor_lt_two_pow h (byte_lt x)
theorem xor_left (c x y : Nat) (h : c ^^^ x = c ^^^ y) : x = y := by
  have h3 := congrArg (fun z => c ^^^ z) h
  simpa only [← Nat.xor_assoc, Nat.xor_self, Nat.zero_xor] using h3
theorem run_cons (c : Nat) (x : UInt8) (q : List UInt8) : run c (x :: q) = run (stepN 8 (c ^^^ x.toNat)) q := rfl
theorem one_run (c : Nat) (x y : UInt8) (q : List UInt8) (h : c < 2 ^ 32) (e : run c (x :: q) = run c (y :: q)) : x = y := by
  rw [run_cons, run_cons] at e
  have h1 := run_inj _ _ q (stepN_lt 8 _ (start_lt c x h)) (stepN_lt 8 _ (start_lt c y h)) e
  exact UInt8.toNat_inj.1 (xor_left c _ _ (stepN_inj 8 _ _ (start_lt c x h) (start_lt c y h) h1))
theorem one_other (s : Nat) (p : List UInt8) (x y : UInt8) (q : List UInt8) (h : s < 2 ^ 32) : add s (p ++ x :: q) = add s (p ++ y :: q) ↔ x = y := by
  constructor
  · intro e
    rw [add_append s p _ h, add_append s p _ h] at e
    exact one_run _ x y q (flip_lt _) (add_inj _ _ _ e)
  · rintro rfl; rfl
end Go.Proofs.Ytfemcehglolnjaa.CrcMath
