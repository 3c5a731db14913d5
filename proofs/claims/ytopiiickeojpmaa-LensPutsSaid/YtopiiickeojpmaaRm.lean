
/- Runs of lengths, plainly. -/
namespace Go.Proofs.Ytopiiickeojpmaa.RunsMath
abbrev Run := Int × Int
def extra (sym : Int) : Nat := if sym = 16 then 2 else if sym = 17 then 3 else if sym = 18 then 7 else 0
def fine (r : Run) : Bool := decide (0 ≤ r.1 ∧ r.1 ≤ 18 ∧ 0 ≤ r.2 ∧ r.2 < 2 ^ extra r.1)
def many (r : Run) : Nat := if r.1 = 16 ∨ r.1 = 17 then 3 + r.2.toNat else if r.1 = 18 then 11 + r.2.toNat else 1
/-- Which length a run has, behind the length ahead. -/
def what (ahead : Int) (r : Run) : Int := if r.1 = 17 ∨ r.1 = 18 then 0 else if r.1 = 16 then ahead else r.1
/-- The lengths of runs behind others: the error's number, and the lengths. -/
def unp (n : Nat) : List Int → Int → List Run → Int × List Int
  | out, _, [] => if out.length < n then (3, []) else (0, out)
  | out, a, r :: l => if fine r = false then (2, []) else if n < out.length + many r then (4, []) else unp n (out ++ List.replicate (many r) (what a r)) (what a r) l
def unpack (l : List Run) (n : Int) : Int × List Int := if n < 0 ∨ 1024 < n then (1, []) else unp n.toNat [] 0 l
/-- How many of the same x a row begins with. -/
def same (x : Int) : List Int → Nat
  | [] => 0
  | y :: l => if y = x then same x l + 1 else 0
theorem same_le (x : Int) (l : List Int) : same x l ≤ l.length := by
  induction l with
  | nil => simp [same]
  | cons y l ih => simp only [same, List.length_cons]; split <;> omega
theorem same_take (x : Int) (l : List Int) : l.take (same x l) = List.replicate (same x l) x := by
  induction l with
  | nil => simp [same]
  | cons y l ih =>
    simp only [same]
    by_cases h : y = x
    · rw [if_pos h, List.take_succ_cons, ih, h, List.replicate_succ]
    · rw [if_neg h]; simp
theorem same_few (x : Int) (l : List Int) (k : Nat) (h : k ≤ same x l) : l.take k = List.replicate k x := by
  have := congrArg (List.take k) (same_take x l)
  rwa [List.take_take, Nat.min_eq_left h, List.take_replicate, Nat.min_eq_left h] at this
/-- The run that a row begins with, behind the length ahead (none: -1). -/
def firstRun (a x : Int) (k : Nat) : Run :=
  if x = 0 ∧ 11 ≤ k then (18, (min k 138 : Nat) - 11) else if x = 0 ∧ 3 ≤ k then (17, (min k 10 : Nat) - 3)
  else if x ≠ 0 ∧ a = x ∧ 3 ≤ k then (16, (min k 6 : Nat) - 3) else (x, 0)
theorem first_many (a x : Int) (k : Nat) (hx : 0 ≤ x ∧ x ≤ 15) (hk : 1 ≤ k) : 1 ≤ many (firstRun a x k) ∧ many (firstRun a x k) ≤ k := by
  unfold firstRun many
  by_cases h1 : x = 0 ∧ 11 ≤ k
  · rw [if_pos h1]; simp; omega
  rw [if_neg h1]
  by_cases h2 : x = 0 ∧ 3 ≤ k
  · rw [if_pos h2]; simp; omega
  rw [if_neg h2]
  by_cases h3 : x ≠ 0 ∧ a = x ∧ 3 ≤ k
  · rw [if_pos h3]; simp; omega
  rw [if_neg h3, if_neg (by simp; omega), if_neg (by simp; omega)]; omega
theorem first_fine (a x : Int) (k : Nat) (hx : 0 ≤ x ∧ x ≤ 15) (_hk : 1 ≤ k) : fine (firstRun a x k) = true := by
  unfold firstRun fine extra
  rw [decide_eq_true_eq]
  by_cases h1 : x = 0 ∧ 11 ≤ k
  · rw [if_pos h1]; simp; omega
  rw [if_neg h1]
  by_cases h2 : x = 0 ∧ 3 ≤ k
  · rw [if_pos h2]; simp; omega
  rw [if_neg h2]
  by_cases h3 : x ≠ 0 ∧ a = x ∧ 3 ≤ k
  · rw [if_pos h3]; simp; omega
  rw [if_neg h3, if_neg (by simp; omega), if_neg (by simp; omega), if_neg (by simp; omega)]; simp; omega
theorem first_what (a x : Int) (k : Nat) (hx : 0 ≤ x ∧ x ≤ 15) : what a (firstRun a x k) = x := by
  unfold firstRun what
  by_cases h1 : x = 0 ∧ 11 ≤ k
  · rw [if_pos h1]; simp; omega
  rw [if_neg h1]
  by_cases h2 : x = 0 ∧ 3 ≤ k
  · rw [if_pos h2]; simp; omega
  rw [if_neg h2]
  by_cases h3 : x ≠ 0 ∧ a = x ∧ 3 ≤ k
  · rw [if_pos h3]; simp; omega
  rw [if_neg h3, if_neg (by simp; omega), if_neg (by simp; omega)]
/-- The runs of lengths from 0 to 15, behind the length ahead. -/
def packF : Nat → Int → List Int → List Run
  | 0, _, _ => []
  | _ + 1, _, [] => []
  | f + 1, a, x :: l => firstRun a x (same x (x :: l)) :: packF f x ((x :: l).drop (many (firstRun a x (same x (x :: l)))))
theorem unp_pack (n : Nat) (f : Nat) (out : List Int) (a a' : Int) (l : List Int) (hf : l.length ≤ f) (hl : ∀ x ∈ l, 0 ≤ x ∧ x ≤ 15) (hn : out.length + l.length = n)
    (ha : a' = a ∨ (a = -1)) : unp n out a' (packF f a l) = (0, out ++ l) := by
  induction f generalizing out a a' l with
  | zero =>
    obtain rfl := List.eq_nil_of_length_eq_zero (l := l) (by omega)
    simp only [packF, unp]; rw [if_neg (by simp at hn; omega)]; simp
  | succ f ih =>
    cases l with
    | nil => simp only [packF, unp]; rw [if_neg (by simp at hn; omega)]; simp
    | cons x l =>
      have hx := hl x (List.mem_cons_self ..)
      have hs : same x (x :: l) = same x l + 1 := by simp [same]
      have hs1 : 1 ≤ same x (x :: l) := by omega
      obtain ⟨m1, m2⟩ := first_many a x (same x (x :: l)) hx hs1
      have hle := same_le x (x :: l)
      have hw : what a' (firstRun a x (same x (x :: l))) = x := by
        rcases ha with rfl | rfl
        · exact first_what _ x _ hx
        · unfold firstRun what
          by_cases h1 : x = 0 ∧ 11 ≤ same x (x :: l)
          · rw [if_pos h1]; simp; omega
          rw [if_neg h1]
          by_cases h2 : x = 0 ∧ 3 ≤ same x (x :: l)
          · rw [if_pos h2]; simp; omega
          have h3 : ¬ (x ≠ 0 ∧ (-1 : Int) = x ∧ 3 ≤ same x (x :: l)) := by omega
          rw [if_neg h2, if_neg h3, if_neg (by simp; omega), if_neg (by simp; omega)]
      have ht := same_few x (x :: l) (many (firstRun a x (same x (x :: l)))) m2
      simp only [packF, unp]
      rw [first_fine a x _ hx hs1, hw]
      generalize hm : many (firstRun a x (same x (x :: l))) = m at *
      simp only [Bool.true_eq_false, if_false]
      rw [if_neg (by omega)]
      have hd : ((x :: l).drop m).length = (x :: l).length - m := List.length_drop ..
      rw [ih (out ++ List.replicate m x) x x ((x :: l).drop m) (by rw [hd]; omega) (fun y hy => hl y (List.mem_of_mem_drop hy)) (by rw [hd, List.length_append, List.length_replicate]; omega) (.inl rfl)]
      rw [List.append_assoc, ← ht, List.take_append_drop]
theorem pack_length (f : Nat) (a : Int) (l : List Int) (hf : l.length ≤ f) (hl : ∀ x ∈ l, 0 ≤ x ∧ x ≤ 15) : (packF f a l).length ≤ l.length := by
  induction f generalizing a l with
  | zero => simp [packF]
  | succ f ih =>
    cases l with
    | nil => simp [packF]
    | cons x l =>
      have hx := hl x (List.mem_cons_self ..)
      have hs : same x (x :: l) = same x l + 1 := by simp [same]
      obtain ⟨m1, m2⟩ := first_many a x (same x (x :: l)) hx (by omega)
      have hle := same_le x (x :: l)
      simp only [packF, List.length_cons]
      generalize hm : many (firstRun a x (same x (x :: l))) = m at *
      have := ih x ((x :: l).drop m) (by rw [List.length_drop]; simp only [List.length_cons] at *; omega) (fun y hy => hl y (List.mem_of_mem_drop hy))
      rw [List.length_drop] at this
      simp only [List.length_cons] at *
      omega
end Go.Proofs.Ytopiiickeojpmaa.RunsMath
