/- Layer 59: how far a number is moved; what is decoded: mathematics; moves. -/
import Derived.Test.YtplopddlpoffoaaAM9
import Derived.Test.YtplopddlpoffoaaShelf
import Derived.Lib.ItoaNum
import Derived.Test.YtplopddlpoffoaaD4
namespace Go.Proofs.Ytplopddlpoffoaa
open Go.ChangeShapes Go.WideShapes Go.ChangeAt Go.RowKit
set_option linter.unusedVariables false
set_option linter.unusedSimpArgs false
set_option maxRecDepth 100000
open Bits
theorem bitLen_fac (n : Nat) (h0 : 1 ≤ n) (h : n ≤ 4294967295) : ∃ k, Lib.bitLen n = k + 1 ∧ k ≤ 31 ∧ 2 ^ k ≤ n ∧ n < 2 ^ (k + 1) := by
  have hb := Lib.bitLenAux_bounds 64 n (by omega) (by omega)
  have hl := Lib.bitLen_le n 32 (by decide) (by omega)
  unfold Lib.bitLen at hl ⊢
  refine ⟨Lib.bitLenAux 64 n - 1, by omega, by omega, hb.2.1, ?_⟩
  have e : Lib.bitLenAux 64 n - 1 + 1 = Lib.bitLenAux 64 n := by omega
  rw [e]; exact hb.2.2
def movN (m y : Nat) : Nat := m + 1 - Lib.bitLen y
theorem mov_facts {m q y : Nat} (hm : m ≤ 12) (hq : 2 ^ m = q) (h0 : 1 ≤ y) (h1 : y < 2 * q) : movN m y ≤ m ∧ q ≤ y * 2 ^ movN m y ∧ (y + 1) * 2 ^ movN m y ≤ 2 * q ∧ (∀ j, j < movN m y → y * 2 ^ j < q) ∧ 2 ^ movN m y ≤ q ∧ Lib.bitLen y ≤ m + 1 := by
  have hq4 : q ≤ 4096 := by rw [← hq]; exact Nat.pow_le_pow_right (by decide) hm
  obtain ⟨k, hk, hk1, hlo, hhi⟩ := bitLen_fac y h0 (by omega)
  have hkm : k ≤ m := by
    apply Classical.byContradiction
    intro hn
    have : 2 ^ (m + 1) ≤ 2 ^ k := Nat.pow_le_pow_right (by decide) (by omega)
    rw [Nat.pow_succ, hq] at this
    omega
  have hmv : movN m y = m - k := by unfold movN; omega
  have hsp : 2 ^ k * 2 ^ (m - k) = q := by rw [← Nat.pow_add, ← hq]; congr 1; omega
  have hp : 0 < 2 ^ (m - k) := Nat.pow_pos (by decide)
  rw [hmv]
  refine ⟨by omega, by rw [← hsp]; exact Nat.mul_le_mul_right _ hlo, ?_, fun j hj => ?_, by rw [← hq]; exact Nat.pow_le_pow_right (by decide) (by omega), by omega⟩
  · have : (y + 1) * 2 ^ (m - k) ≤ 2 ^ (k + 1) * 2 ^ (m - k) := Nat.mul_le_mul_right _ hhi
    rw [Nat.pow_succ, Nat.mul_comm (2 ^ k) 2, Nat.mul_assoc, hsp] at this
    exact this
  · have h3 : y * 2 ^ j < 2 ^ (k + 1) * 2 ^ j := Nat.mul_lt_mul_of_pos_right hhi (Nat.pow_pos (by decide))
    have h4 : 2 ^ (k + 1) * 2 ^ j ≤ 2 ^ m := by rw [← Nat.pow_add]; exact Nat.pow_le_pow_right (by decide) (by omega)
    omega
theorem cMoves (y m q : Nat) (hm : m ≤ 12) (hq : 2 ^ m = q) (h0 : 1 ≤ y) (h1 : y < 2 * q) (w : World) : Calls Try.prog 33 #[.int .i64 y, .int .i64 m] w fun e w' => e = .returned (.int .i64 (movN m y)) ∧ w' = w := by
  have hf := mov_facts hm hq h0 h1
  have hq4 : q ≤ 4096 := by rw [← hq]; exact Nat.pow_le_pow_right (by decide) hm
  have c1 := fun w => Try.bits_Len y w (by omega) (by omega)
  rw [Int.toNat_natCast] at c1
  have C1 := Lib.hid c1
  have hmv : movN m y = m + 1 - Lib.bitLen y := rfl
  obtain ⟨b, hb⟩ : ∃ b, Lib.bitLen y = b := ⟨_, rfl⟩
  rw [hb] at C1 hmv hf
  obtain ⟨K, hK⟩ : ∃ K, movN m y = K := ⟨_, rfl⟩
  rw [hK] at hmv ⊢
  have hbm := hf.2.2.2.2.2
  have hu : IntKind.u64.wrap (y : Int) = (y : Int) := IntWalk.u64_in _ (by omega)
  have hw1 : IntKind.i64.wrap ((m : Int) + 1) = (m : Int) + 1 := by rw [IntKind.wrap_i64]; omega
  have hw2 : IntKind.i64.wrap ((m : Int) + 1 - (b : Int)) = (K : Int) := by rw [IntKind.wrap_i64]; omega
  clear hf c1 hmv hb hK hq
  go_enter Try.func33, Try.ntmps33
  go_wp2_with fail
  refine (C1.out _).mono ?_; rintro e w1 ⟨rfl, rfl⟩
  go_wp2_with fail
  go_ret
  exact ⟨rfl, rfl⟩
/-- What is decoded: symbols, numbers by their states. -/
def decS (sy : Nat → Int) (nu : Nat → Nat) (m q : Nat) (bits : List Bool) : Nat → Nat → Nat → List Int → Option (List Int × Nat × Nat)
  | 0, t, x, acc => some (acc, t, x)
  | k + 1, t, x, acc =>
    if bits.length < t + movN m (nu x) then none
    else decS sy nu m q bits k (t + movN m (nu x)) (nu x * 2 ^ movN m (nu x) + peek (bits.drop t) (movN m (nu x)) - q) (acc ++ [sy x])
def okL (r : List Bool) : Bool := decide (r.length < 8) && r.all (fun b => !b)
def decF (bits : List Bool) : Option (List Int × Nat × Nat) → List Int × Int
  | none => ([], 3)
  | some (o, t, x) => if x = 0 ∧ okL (bits.drop t) = true then (o, 0) else ([], 4)
def decV (l : List Int) (m q : Nat) (bits : List Bool) (many : Nat) : List Int × Int :=
  if bits.length < m then ([], 3) else decF bits (decS (fun x => (sprL l q).getD x 0) (fun x => (numL (sprL l q) l x).toNat) m q bits many m (peek bits m) [])
theorem word_zero : ∀ r : List Bool, wordOf r = 0 ↔ r.all (fun b => !b) = true
  | [] => by simp [wordOf]
  | b :: r => by
    have ih := word_zero r
    have e : wordOf (b :: r) = (if b then 1 else 0) + 2 * wordOf r := rfl
    rw [e, List.all_cons, Bool.and_eq_true, ← ih]
    cases b <;> simp <;> omega
theorem okL_peek (r : List Bool) : okL r = true ↔ r.length < 8 ∧ peek r r.length = 0 := by
  unfold okL peek
  rw [List.take_length, word_zero, Bool.and_eq_true, decide_eq_true_eq]
theorem num_bd {l : List Int} {q : Nat} (hS : Sp l q) (hf : ∀ i, i < l.length → 0 ≤ l.getD i 0 ∧ l.getD i 0 ≤ (q : Int)) (x : Nat) (hx : x < q) : 1 ≤ (numL (sprL l q) l x).toNat ∧ (numL (sprL l q) l x).toNat < 2 * q ∧ numL (sprL l q) l x = ((numL (sprL l q) l x).toNat : Nat) := by
  obtain ⟨i, h1, h2, h3⟩ := hS.sym x hx
  have h4 := hf i h1
  have h5 := befTo_le (sprL l q) ((sprL l q).getD x 0) x
  unfold numL
  rw [h2, Int.toNat_natCast] at *
  omega
end Go.Proofs.Ytplopddlpoffoaa
