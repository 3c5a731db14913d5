/- Runs of noughts as signs, plainly. -/
namespace Go.Proofs.Ytekageibffhloaa.ZerosMath
/-- The signs of a run of n noughts, with fuel; 0 is one, 1 is two of what the sign counts. -/
def signsF : Nat → Nat → List Int
  | 0, _ => []
  | f + 1, n => if n = 0 then [] else (((n - 1) % 2 : Nat) : Int) :: signsF f ((n - 1) / 2)
def signs (n : Nat) : List Int := signsF n n
theorem signsF_enough (f g n : Nat) (h : n ≤ f) (k : n ≤ g) : signsF f n = signsF g n := by
  induction f generalizing g n with
  | zero => obtain rfl : n = 0 := by omega
            cases g <;> simp [signsF]
  | succ f ih =>
    cases g with
    | zero => obtain rfl : n = 0 := by omega
              simp [signsF]
    | succ g =>
      simp only [signsF]
      by_cases h0 : n = 0
      · rw [if_pos h0, if_pos h0]
      · rw [if_neg h0, if_neg h0, ih g _ (by omega) (by omega)]
theorem signs_zero : signs 0 = [] := rfl
theorem signs_step (n : Nat) (h : 0 < n) : signs n = (((n - 1) % 2 : Nat) : Int) :: signs ((n - 1) / 2) := by
  unfold signs
  obtain ⟨m, rfl⟩ : ∃ m, n = m + 1 := ⟨n - 1, by omega⟩
  rw [show signsF (m + 1) (m + 1) = (((m + 1 - 1) % 2 : Nat) : Int) :: signsF m ((m + 1 - 1) / 2) from by simp [signsF]]
  rw [signsF_enough m ((m + 1 - 1) / 2) _ (by omega) (by omega)]
theorem signs_length (n : Nat) : (signs n).length ≤ n := by
  induction n using Nat.strongRecOn with
  | _ n ih =>
    by_cases h : 0 < n
    · rw [signs_step n h, List.length_cons]; have := ih ((n - 1) / 2) (by omega); omega
    · obtain rfl : n = 0 := by omega
      simp [signs_zero]
theorem signs_digit (n : Nat) : ∀ d ∈ signs n, d = 0 ∨ d = 1 := by
  induction n using Nat.strongRecOn with
  | _ n ih =>
    by_cases h : 0 < n
    · rw [signs_step n h]
      intro d hd
      rcases List.mem_cons.1 hd with rfl | hd
      · omega
      · exact ih _ (by omega) d hd
    · obtain rfl : n = 0 := by omega
      simp [signs_zero]
/-- How many noughts signs are. -/
def val : List Int → Nat
  | [] => 0
  | d :: l => (d.toNat + 1) + 2 * val l
theorem val_signs (n : Nat) : val (signs n) = n := by
  induction n using Nat.strongRecOn with
  | _ n ih =>
    by_cases h : 0 < n
    · rw [signs_step n h, val, ih _ (by omega)]; omega
    · obtain rfl : n = 0 := by omega
      rfl
theorem signs_val (l : List Int) (h : ∀ d ∈ l, d = 0 ∨ d = 1) : signs (val l) = l := by
  induction l with
  | nil => rfl
  | cons d l ih =>
    have hd := h d (List.mem_cons_self ..)
    rw [val, signs_step _ (by omega), show (d.toNat + 1 + 2 * val l - 1) / 2 = val l from by omega, ih (fun x hx => h x (List.mem_cons_of_mem _ hx))]
    congr 1; omega
theorem val_append (a b : List Int) : val (a ++ b) = val a + 2 ^ a.length * val b := by
  induction a with
  | nil => simp [val]
  | cons d a ih => simp only [List.cons_append, val, ih, List.length_cons, Nat.pow_succ, Nat.mul_add]; rw [Nat.mul_comm (2 ^ a.length) 2, Nat.mul_assoc]; omega
/-- Numbers with their runs of noughts as signs, n noughts ahead; numbers that signs mean, with what the next sign of a run counts. -/
def packL : Nat → List Int → List Int
  | n, [] => signs n
  | n, x :: l => if x = 0 then packL (n + 1) l else signs n ++ (x + 1) :: packL 0 l
def unpackL : Nat → List Int → List Int
  | _, [] => []
  | p, x :: l => if x ≤ 1 then List.replicate (p * (x.toNat + 1)) 0 ++ unpackL (p * 2) l else (x - 1) :: unpackL 1 l
theorem packL_length (n : Nat) (l : List Int) : (packL n l).length ≤ n + l.length := by
  induction l generalizing n with
  | nil => have := signs_length n; simp [packL]; omega
  | cons x l ih =>
    simp only [packL]
    split
    · have := ih (n + 1); simp; omega
    · have := ih 0; have := signs_length n; simp; omega
theorem unpack_signs (p n : Nat) (t : List Int) : unpackL p (signs n ++ t) = List.replicate (p * n) 0 ++ unpackL (p * 2 ^ (signs n).length) t := by
  induction n using Nat.strongRecOn generalizing p with
  | _ n ih =>
    by_cases h : 0 < n
    · rw [signs_step n h, List.cons_append, unpackL, if_pos (by omega), ih ((n - 1) / 2) (by omega), ← List.append_assoc, List.replicate_append_replicate, List.length_cons, Nat.pow_succ]
      congr 2
      · rw [show p * 2 * ((n - 1) / 2) = p * (2 * ((n - 1) / 2)) from by rw [Nat.mul_assoc], ← Nat.mul_add]; congr 1; omega
      · rw [Nat.mul_assoc]; congr 1; exact Nat.mul_comm _ _
    · obtain rfl : n = 0 := by omega
      simp [signs_zero]
theorem unpack_over (p q : Nat) (x : Int) (l : List Int) (h : 1 < x) : unpackL p (x :: l) = unpackL q (x :: l) := by simp only [unpackL]; rw [if_neg (by omega), if_neg (by omega)]
theorem unpack_pack (n : Nat) (l : List Int) (h : ∀ x ∈ l, 0 ≤ x) : unpackL 1 (packL n l) = List.replicate n 0 ++ l := by
  induction l generalizing n with
  | nil =>
    have := unpack_signs 1 n []
    rw [List.append_nil] at this
    simp only [packL]; rw [this]; simp [unpackL]
  | cons x l ih =>
    have hx := h x (List.mem_cons_self ..)
    have hl : ∀ x ∈ l, 0 ≤ x := fun y hy => h y (List.mem_cons_of_mem _ hy)
    simp only [packL]
    by_cases h0 : x = 0
    · rw [if_pos h0, ih (n + 1) hl, h0, List.replicate_succ']; simp
    · rw [if_neg h0, unpack_signs, unpack_over _ 1 (x + 1) _ (by omega), unpackL, if_neg (by omega), ih 0 hl]; simp
theorem pack_noughts (n k : Nat) (l : List Int) : packL n (List.replicate k 0 ++ l) = packL (n + k) l := by
  induction k generalizing n with
  | zero => simp
  | succ k ih => rw [List.replicate_succ, List.cons_append, packL, if_pos rfl, ih]; congr 1; omega
theorem pack_unpack (ds b : List Int) (hd : ∀ d ∈ ds, d = 0 ∨ d = 1) (hb : ∀ x ∈ b, 0 ≤ x) : packL (val ds) (unpackL (2 ^ ds.length) b) = ds ++ b := by
  induction b generalizing ds with
  | nil => simp only [unpackL, packL, signs_val ds hd, List.append_nil]
  | cons x b ih =>
    have hx := hb x (List.mem_cons_self ..)
    have hl : ∀ x ∈ b, 0 ≤ x := fun y hy => hb y (List.mem_cons_of_mem _ hy)
    simp only [unpackL]
    by_cases h1 : x ≤ 1
    · rw [if_pos h1, pack_noughts]
      have := ih (ds ++ [x]) (by
        intro d h'
        rcases List.mem_append.1 h' with h' | h'
        · exact hd d h'
        · rw [List.mem_singleton.1 h']; omega) hl
      rw [val_append, List.length_append, Nat.pow_add, List.append_assoc] at this
      simpa [val] using this
    · rw [if_neg h1, packL, if_neg (by omega), signs_val ds hd]
      have := ih [] (by simp) hl
      simp only [val, List.length_nil, Nat.pow_zero, List.nil_append] at this
      rw [this]; congr 2; omega
end Go.Proofs.Ytekageibffhloaa.ZerosMath
