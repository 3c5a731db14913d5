
/- Lengths of codes, plainly. -/
namespace Go.Proofs.YtipcdkemokkdfaaGreat.KraftMath
/-- How many are above 0. -/
def used : List Int → Nat
  | [] => 0
  | n :: l => (if 0 < n then 1 else 0) + used l
/-- What one length takes up of the codes of m bits. -/
def part (m : Nat) (n : Int) : Nat := if 1 ≤ n ∧ n ≤ m then 2 ^ (m - n.toNat) else 0
def ksum (m : Nat) : List Int → Nat
  | [] => 0
  | n :: l => part m n + ksum m l
def bad (m : Nat) (n : Int) : Bool := decide (n < 0) || decide ((m : Int) < n)
def check (l : List Int) (limit : Int) : Int :=
  if limit < 1 ∨ 16 < limit then 1 else if 1024 < l.length then 5 else if l.any (bad limit.toNat) then 2
  else if used l = 0 then 7 else if used l = 1 then (if ksum limit.toNat l = 2 ^ limit.toNat / 2 then 0 else 6)
  else if ksum limit.toNat l = 2 ^ limit.toNat then 0 else 6
theorem used_append (a b : List Int) : used (a ++ b) = used a + used b := by
  induction a with
  | nil => simp [used]
  | cons n a ih => simp only [List.cons_append, used, ih]; omega
theorem ksum_append (m : Nat) (a b : List Int) : ksum m (a ++ b) = ksum m a + ksum m b := by
  induction a with
  | nil => simp [ksum]
  | cons n a ih => simp only [List.cons_append, ksum, ih]; omega
theorem used_le (l : List Int) : used l ≤ l.length := by
  induction l with
  | nil => simp [used]
  | cons n l ih => simp only [used, List.length_cons]; split <;> omega
theorem part_le (m : Nat) (n : Int) (hm : m ≤ 16) : part m n ≤ 32768 := by
  unfold part; split
  · rename_i h
    exact Nat.le_trans (Nat.pow_le_pow_right (by omega) (show m - n.toNat ≤ 15 by omega)) (by decide)
  · omega
theorem ksum_le (m : Nat) (l : List Int) (hm : m ≤ 16) : ksum m l ≤ 32768 * l.length := by
  induction l with
  | nil => simp [ksum]
  | cons n l ih => have := part_le m n hm; simp only [ksum, List.length_cons]; omega
/-- The last one that is above 0; 0 if there is none. -/
def sole : Int → List Int → Int
  | s, [] => s
  | s, n :: l => sole (if n = 0 then s else n) l
theorem sole_zero (s : Int) (l : List Int) (h : used l = 0) (hb : ∀ n ∈ l, 0 ≤ n) : sole s l = s := by
  induction l generalizing s with
  | nil => rfl
  | cons n l ih =>
    simp only [used] at h
    have h0 := hb n (List.mem_cons_self ..)
    have hn : n = 0 := by split at h <;> omega
    simp only [sole, hn, if_true]
    exact ih s (by omega) (fun x hx => hb x (List.mem_cons_of_mem _ hx))
theorem ksum_zero (m : Nat) (l : List Int) (h : used l = 0) (hb : ∀ n ∈ l, 0 ≤ n) : ksum m l = 0 := by
  induction l with
  | nil => rfl
  | cons n l ih =>
    simp only [used] at h
    have h0 := hb n (List.mem_cons_self ..)
    have hn : n = 0 := by split at h <;> omega
    simp only [ksum, hn]
    rw [ih (by omega) (fun x hx => hb x (List.mem_cons_of_mem _ hx))]
    unfold part; simp
theorem ksum_one (m : Nat) (s : Int) (l : List Int) (h : used l = 1) (hb : ∀ n ∈ l, 0 ≤ n ∧ n ≤ m) : 1 ≤ sole s l ∧ sole s l ≤ m ∧ ksum m l = 2 ^ (m - (sole s l).toNat) := by
  induction l generalizing s with
  | nil => simp [used] at h
  | cons n l ih =>
    simp only [used] at h
    obtain ⟨h0, h1⟩ := hb n (List.mem_cons_self ..)
    have hbl : ∀ n ∈ l, 0 ≤ n ∧ n ≤ (m : Int) := fun x hx => hb x (List.mem_cons_of_mem _ hx)
    by_cases hn : 0 < n
    · rw [if_pos hn] at h
      have hz : used l = 0 := by omega
      simp only [sole, ksum]
      rw [if_neg (by omega), sole_zero n l hz (fun x hx => (hbl x hx).1), ksum_zero m l hz (fun x hx => (hbl x hx).1)]
      unfold part; rw [if_pos ⟨by omega, h1⟩]
      exact ⟨by omega, h1, by omega⟩
    · rw [if_neg hn] at h
      have hn0 : n = 0 := by omega
      simp only [sole, ksum, hn0, if_true]
      obtain ⟨g1, g2, g3⟩ := ih s (by omega) hbl
      refine ⟨g1, g2, ?_⟩
      rw [g3]; unfold part; simp
theorem pow_half (m k : Nat) (hk : 1 ≤ k) (hkm : k ≤ m) : 2 ^ (m - k) = 2 ^ m / 2 ↔ k = 1 := by
  obtain ⟨j, rfl⟩ : ∃ j, m = j + 1 := ⟨m - 1, by omega⟩
  rw [Nat.pow_succ, Nat.mul_div_cancel _ (by decide)]
  constructor
  · intro h
    rcases Nat.lt_trichotomy (j + 1 - k) j with g | g | g
    · have := Nat.pow_lt_pow_right (a := 2) (by decide) g; omega
    · omega
    · have := Nat.pow_lt_pow_right (a := 2) (by decide) g; omega
  · rintro rfl; rfl
theorem any_bad (m : Nat) (l : List Int) : l.any (bad m) = false ↔ ∀ n ∈ l, 0 ≤ n ∧ n ≤ m := by
  rw [List.any_eq_false]
  constructor
  · intro h n hn; have := h n hn; simp [bad] at this; omega
  · intro h n hn; have := h n hn; simp [bad]; omega
/-- What 'check' says of good lengths. -/
theorem check_ok (l : List Int) (m : Nat) : check l m = 0 ↔ 1 ≤ m ∧ m ≤ 16 ∧ l.length ≤ 1024 ∧ (∀ n ∈ l, 0 ≤ n ∧ n ≤ m) ∧ ((used l = 1 ∧ ksum m l = 2 ^ m / 2) ∨ (2 ≤ used l ∧ ksum m l = 2 ^ m)) := by
  unfold check
  rw [← any_bad]
  simp only [Int.toNat_natCast]
  by_cases h1 : (m : Int) < 1 ∨ 16 < (m : Int)
  · rw [if_pos h1]; simp; omega
  rw [if_neg h1]
  by_cases h2 : 1024 < l.length
  · rw [if_pos h2]; simp; omega
  rw [if_neg h2]
  by_cases h3 : l.any (bad m) = true
  · rw [if_pos h3]; simp [h3]
  rw [if_neg h3]
  by_cases h4 : used l = 0
  · rw [if_pos h4]; simp; omega
  rw [if_neg h4]
  have h3' : l.any (bad m) = false := by simpa using h3
  by_cases h5 : used l = 1
  · rw [if_pos h5]
    by_cases h6 : ksum m l = 2 ^ m / 2
    · rw [if_pos h6]; simp only [true_iff]; exact ⟨by omega, by omega, by omega, h3', .inl ⟨h5, h6⟩⟩
    · rw [if_neg h6]; simp; intros; omega
  · rw [if_neg h5]
    by_cases h6 : ksum m l = 2 ^ m
    · rw [if_pos h6]; simp only [true_iff]; exact ⟨by omega, by omega, by omega, h3', .inr ⟨by omega, h6⟩⟩
    · rw [if_neg h6]; simp; intros; omega
/-- One length parted in two that are one longer. -/
def parted (l : List Int) (k : Nat) : List Int := l.take k ++ (l.getD k 0 + 1) :: l.drop (k + 1) ++ [l.getD k 0 + 1]
end Go.Proofs.YtipcdkemokkdfaaGreat.KraftMath
