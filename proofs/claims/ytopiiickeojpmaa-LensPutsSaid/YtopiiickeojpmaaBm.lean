
/- Bits and bytes, plainly. -/
namespace Go.Proofs.Ytopiiickeojpmaa.Bits
/-- The lowest n bits of x, the lowest one first. -/
def bitsOf (x : Nat) : Nat → List Bool
  | 0 => []
  | n + 1 => (x % 2 == 1) :: bitsOf (x / 2) n
/-- The word of bits, the first one lowest. -/
def wordOf : List Bool → Nat
  | [] => 0
  | b :: l => (if b then 1 else 0) + 2 * wordOf l
theorem bitsOf_length (x n : Nat) : (bitsOf x n).length = n := by
  induction n generalizing x with
  | zero => rfl
  | succ n ih => simp [bitsOf, ih]
theorem bitsOf_add (x n m : Nat) : bitsOf x (n + m) = bitsOf x n ++ bitsOf (x / 2 ^ n) m := by
  induction n generalizing x with
  | zero => simp [bitsOf]
  | succ n ih => rw [show n + 1 + m = (n + m) + 1 from by omega]; simp only [bitsOf, ih, List.cons_append]; rw [Nat.div_div_eq_div_mul, show 2 * 2 ^ n = 2 ^ (n + 1) from by rw [Nat.pow_succ]; omega]
theorem bitsOf_mod (x n : Nat) : bitsOf (x % 2 ^ n) n = bitsOf x n := by
  induction n generalizing x with
  | zero => rfl
  | succ n ih =>
    simp only [bitsOf]
    have h1 : x % 2 ^ (n + 1) % 2 = x % 2 := Nat.mod_mod_of_dvd _ ⟨2 ^ n, by rw [Nat.pow_succ]; omega⟩
    have h2 : x % 2 ^ (n + 1) / 2 = x / 2 % 2 ^ n := by
      rw [Nat.pow_succ, Nat.mul_comm, Nat.mod_mul_right_div_self]
    rw [h1, h2, ih]
theorem bitsOf_join (r x n m : Nat) (h : r < 2 ^ n) : bitsOf (r + x * 2 ^ n) (n + m) = bitsOf r n ++ bitsOf x m := by
  rw [bitsOf_add]
  have hp : 0 < 2 ^ n := Nat.two_pow_pos n
  congr 1
  · rw [← bitsOf_mod (r + x * 2 ^ n), Nat.add_mul_mod_self_right, bitsOf_mod]
  · rw [Nat.add_mul_div_right _ _ hp, Nat.div_eq_of_lt h, Nat.zero_add]
theorem wordOf_lt (l : List Bool) : wordOf l < 2 ^ l.length := by
  induction l with
  | nil => simp [wordOf]
  | cons b l ih => simp only [wordOf, List.length_cons, Nat.pow_succ]; split <;> omega
theorem wordOf_bitsOf (x n : Nat) : wordOf (bitsOf x n) = x % 2 ^ n := by
  induction n generalizing x with
  | zero => simp [bitsOf, wordOf, Nat.mod_one]
  | succ n ih =>
    simp only [bitsOf, wordOf, ih]
    rw [Nat.pow_succ, Nat.mul_comm (2 ^ n) 2, Nat.mod_mul]
    have : x % 2 = 0 ∨ x % 2 = 1 := by omega
    rcases this with h | h <;> simp [h]
theorem bitsOf_wordOf (l : List Bool) : bitsOf (wordOf l) l.length = l := by
  induction l with
  | nil => rfl
  | cons b l ih =>
    simp only [wordOf, List.length_cons, bitsOf]
    congr 1
    · cases b <;> simp <;> omega
    · rw [show ((if b = true then 1 else 0) + 2 * wordOf l) / 2 = wordOf l from by split <;> omega, ih]
theorem wordOf_append (a b : List Bool) : wordOf (a ++ b) = wordOf a + 2 ^ a.length * wordOf b := by
  induction a with
  | nil => simp [wordOf]
  | cons c a ih => simp only [List.cons_append, wordOf, ih, List.length_cons, Nat.pow_succ, Nat.mul_add]; rw [Nat.mul_comm (2 ^ a.length) 2, Nat.mul_assoc]; omega
theorem wordOf_take (l : List Bool) (n : Nat) : wordOf (l.take n) = wordOf l % 2 ^ n := by
  induction n generalizing l with
  | zero => simp [wordOf, Nat.mod_one]
  | succ n ih =>
    cases l with
    | nil => simp [wordOf]
    | cons b l =>
      simp only [List.take_succ_cons, wordOf, ih]
      rw [Nat.pow_succ, Nat.mul_comm (2 ^ n) 2, Nat.mod_mul]
      have e1 : ((if b = true then 1 else 0) + 2 * wordOf l) % 2 = if b = true then 1 else 0 := by split <;> omega
      have e2 : ((if b = true then 1 else 0) + 2 * wordOf l) / 2 = wordOf l := by split <;> omega
      rw [e1, e2]
theorem wordOf_drop (l : List Bool) (n : Nat) : wordOf (l.drop n) = wordOf l / 2 ^ n := by
  induction n generalizing l with
  | zero => simp
  | succ n ih =>
    cases l with
    | nil => simp [wordOf]
    | cons b l =>
      simp only [List.drop_succ_cons, wordOf, ih]
      rw [Nat.pow_succ, Nat.mul_comm (2 ^ n) 2, ← Nat.div_div_eq_div_mul]
      rw [show ((if b = true then 1 else 0) + 2 * wordOf l) / 2 = wordOf l from by split <;> omega]
/-- Bits as bytes, eight to a byte, the first one lowest; what lacks of the last one is 0. -/
def packF : Nat → List Bool → List UInt8
  | 0, _ => []
  | f + 1, l => if l = [] then [] else UInt8.ofNat (wordOf (l.take 8)) :: packF f (l.drop 8)
def pack (l : List Bool) : List UInt8 := packF l.length l
/-- The bits of bytes. -/
def spread : List UInt8 → List Bool
  | [] => []
  | b :: l => bitsOf b.toNat 8 ++ spread l
theorem spread_append (a b : List UInt8) : spread (a ++ b) = spread a ++ spread b := by
  induction a with
  | nil => rfl
  | cons c a ih => simp [spread, ih]
theorem spread_length (l : List UInt8) : (spread l).length = 8 * l.length := by
  induction l with
  | nil => rfl
  | cons c a ih => simp [spread, ih, bitsOf_length]; omega
theorem packF_nil (f : Nat) : packF f [] = [] := by cases f <;> simp [packF]
theorem packF_enough (f g : Nat) (l : List Bool) (h : l.length ≤ f) (k : l.length ≤ g) : packF f l = packF g l := by
  induction f generalizing g l with
  | zero => obtain rfl := List.eq_nil_of_length_eq_zero (l := l) (by omega); rw [packF_nil, packF_nil]
  | succ f ih =>
    cases g with
    | zero => obtain rfl := List.eq_nil_of_length_eq_zero (l := l) (by omega); rw [packF_nil, packF_nil]
    | succ g =>
      simp only [packF]
      split
      · rfl
      · rename_i hne
        have : 0 < l.length := List.length_pos_iff.2 hne
        rw [ih g (l.drop 8) (by simp; omega) (by simp; omega)]
theorem pack_nil : pack [] = [] := rfl
theorem pack_step (l : List Bool) (h : l ≠ []) : pack l = UInt8.ofNat (wordOf (l.take 8)) :: pack (l.drop 8) := by
  have hp : 0 < l.length := List.length_pos_iff.2 h
  unfold pack
  obtain ⟨n, hn⟩ : ∃ n, l.length = n + 1 := ⟨l.length - 1, by omega⟩
  rw [hn]
  simp only [packF, if_neg h]
  rw [packF_enough n (l.drop 8).length (l.drop 8) (by simp; omega) (by simp)]
theorem pack_byte (b : UInt8) (l : List Bool) : pack (bitsOf b.toNat 8 ++ l) = b :: pack l := by
  have h8 := bitsOf_length b.toNat 8
  rw [pack_step _ (by intro h; have := congrArg List.length h; simp [h8] at this)]
  rw [List.take_left' h8, List.drop_left' h8, wordOf_bitsOf, Nat.mod_eq_of_lt (by have := b.toNat_lt; omega)]
  simp
theorem pack_spread (bs : List UInt8) (l : List Bool) : pack (spread bs ++ l) = bs ++ pack l := by
  induction bs with
  | nil => rfl
  | cons b bs ih => simp only [spread, List.append_assoc, pack_byte, ih, List.cons_append]
theorem pack_few (l : List Bool) (h : l ≠ []) (h8 : l.length ≤ 8) : pack l = [UInt8.ofNat (wordOf l)] := by
  rw [pack_step l h, List.take_of_length_le h8, List.drop_eq_nil_of_le h8, pack_nil]
theorem pack_length (l : List Bool) : (pack l).length = (l.length + 7) / 8 := by
  generalize hn : l.length = n
  induction n using Nat.strongRecOn generalizing l with
  | _ n ih =>
    by_cases h : l = []
    · subst h; simp at hn; subst hn; rfl
    · have hp : 0 < l.length := List.length_pos_iff.2 h
      rw [pack_step l h, List.length_cons, ih (l.drop 8).length (by simp; omega) _ rfl]
      simp only [List.length_drop]; omega
/-- What bits are lacking of the last byte. -/
theorem spread_pack (l : List Bool) : ∃ k, k < 8 ∧ spread (pack l) = l ++ List.replicate k false ∧ (l.length + k) % 8 = 0 := by
  generalize hn : l.length = n
  induction n using Nat.strongRecOn generalizing l with
  | _ n ih =>
    by_cases h : l = []
    · subst h; simp at hn; subst hn; exact ⟨0, by omega, rfl, rfl⟩
    · have hp : 0 < l.length := List.length_pos_iff.2 h
      by_cases h8 : 8 ≤ l.length
      · obtain ⟨k, hk, e, hm⟩ := ih (l.drop 8).length (by simp; omega) (l.drop 8) rfl
        refine ⟨k, hk, ?_, by simp at hm; omega⟩
        rw [pack_step l h, spread, e]
        have hlt : wordOf (l.take 8) < 256 := by have := wordOf_lt (l.take 8); rw [List.length_take_of_le h8] at this; exact this
        rw [show (UInt8.ofNat (wordOf (l.take 8))).toNat = wordOf (l.take 8) from by simp; omega]
        have := bitsOf_wordOf (l.take 8)
        rw [List.length_take_of_le h8] at this
        rw [this, ← List.append_assoc, List.take_append_drop]
      · refine ⟨8 - l.length, by omega, ?_, by omega⟩
        have hlt : wordOf l < 2 ^ l.length := wordOf_lt l
        have hle : 2 ^ l.length ≤ 2 ^ 8 := Nat.pow_le_pow_right (by omega) (by omega)
        rw [pack_few l h (by omega), spread, spread, List.append_nil]
        rw [show (UInt8.ofNat (wordOf l)).toNat = wordOf l from by simp; omega]
        have e8 : 8 = l.length + (8 - l.length) := by omega
        conv => lhs; rw [e8]
        rw [bitsOf_add, bitsOf_wordOf, Nat.div_eq_of_lt hlt]
        congr 1
        generalize 8 - l.length = m
        clear e8
        induction m with
        | zero => rfl
        | succ m ih => simp [bitsOf, List.replicate_succ, ih]
end Go.Proofs.Ytopiiickeojpmaa.Bits
namespace Go.Proofs.Ytopiiickeojpmaa.Bits
theorem wordOf_spread_lt (bs : List UInt8) : wordOf (spread bs) < 2 ^ (8 * bs.length) := by have := wordOf_lt (spread bs); rwa [spread_length] at this
theorem wordOf_spread_snoc (bs : List UInt8) (b : UInt8) : wordOf (spread (bs ++ [b])) = wordOf (spread bs) + 2 ^ (8 * bs.length) * b.toNat := by
  rw [spread_append, wordOf_append, spread_length]
  simp only [spread, List.append_nil]
  rw [wordOf_bitsOf, Nat.mod_eq_of_lt (by have := b.toNat_lt; omega)]
theorem spread_take (bs : List UInt8) (n : Nat) : spread (bs.take n) = (spread bs).take (8 * n) := by
  induction n generalizing bs with
  | zero => simp [spread]
  | succ n ih =>
    cases bs with
    | nil => simp [spread]
    | cons b bs =>
      simp only [List.take_succ_cons, spread, ih]
      rw [List.take_append, bitsOf_length, List.take_of_length_le (l := bitsOf b.toNat 8) (by rw [bitsOf_length]; omega), show 8 * (n + 1) - 8 = 8 * n from by omega]
theorem spread_drop (bs : List UInt8) (n : Nat) : spread (bs.drop n) = (spread bs).drop (8 * n) := by
  induction n generalizing bs with
  | zero => simp
  | succ n ih =>
    cases bs with
    | nil => simp [spread]
    | cons b bs =>
      simp only [List.drop_succ_cons, spread, ih]
      rw [List.drop_append, bitsOf_length, List.drop_eq_nil_of_le («as» := bitsOf b.toNat 8) (by rw [bitsOf_length]; omega), List.nil_append, show 8 * (n + 1) - 8 = 8 * n from by omega]
/-- The word that a look at the next n bits tells: what lacks is 0. -/
def peek (l : List Bool) (n : Nat) : Nat := wordOf (l.take n)
theorem peek_lt (l : List Bool) (n : Nat) : peek l n < 2 ^ n := by
  have := wordOf_lt (l.take n)
  exact Nat.lt_of_lt_of_le this (Nat.pow_le_pow_right (by omega) (by simp; omega))
theorem mod_div_mod (W u n m : Nat) (h : u + n ≤ m) : W % 2 ^ m / 2 ^ u % 2 ^ n = W / 2 ^ u % 2 ^ n := by
  obtain ⟨k, rfl⟩ : ∃ k, m = u + n + k := ⟨m - (u + n), by omega⟩
  rw [Nat.pow_add, Nat.pow_add, Nat.mul_assoc, Nat.mod_mul_right_div_self, Nat.mod_mod_of_dvd _ ⟨2 ^ k, rfl⟩]
theorem peek_bytes (bs : List UInt8) (u n : Nat) (h : u + n ≤ 64) : wordOf (spread (bs.take 8)) / 2 ^ u % 2 ^ n = peek ((spread bs).drop u) n := by
  unfold peek
  rw [wordOf_take, wordOf_drop, spread_take, wordOf_take]
  exact mod_div_mod _ _ _ _ h
theorem spread_at (bs : List UInt8) (a : Nat) : (spread bs).drop a = (spread (bs.drop (a / 8))).drop (a % 8) := by
  rw [spread_drop, List.drop_drop]; congr 1; omega
end Go.Proofs.Ytopiiickeojpmaa.Bits
