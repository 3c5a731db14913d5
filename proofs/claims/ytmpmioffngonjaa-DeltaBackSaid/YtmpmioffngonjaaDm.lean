/- Differences and sums of bytes, plainly. -/
namespace Go.Proofs.Ytmpmioffngonjaa.DeltaMath
theorem getD_left {α : Type} (a b : List α) (i : Nat) (x : α) (h : i < a.length) : (a ++ b).getD i x = a.getD i x := by
  simp [List.getD_eq_getElem?_getD, List.getElem?_append_left h]
theorem getD_right {α : Type} (a b : List α) (i : Nat) (x : α) (h : a.length ≤ i) : (a ++ b).getD i x = b.getD (i - a.length) x := by
  simp [List.getD_eq_getElem?_getD, List.getElem?_append_right h]
/-- The differences of the first k bytes: of each it less the one d ahead of it. -/
def diffTo (l : List UInt8) (d : Nat) : Nat → List UInt8
  | 0 => []
  | i + 1 => diffTo l d i ++ [if d ≤ i then l.getD i 0 - l.getD (i - d) 0 else l.getD i 0]
/-- The sums of the first k bytes. -/
def sumTo (l : List UInt8) (d : Nat) : Nat → List UInt8
  | 0 => []
  | i + 1 => sumTo l d i ++ [if d ≤ i then l.getD i 0 + (sumTo l d i).getD (i - d) 0 else l.getD i 0]
theorem diffTo_length (l : List UInt8) (d k : Nat) : (diffTo l d k).length = k := by
  induction k with
  | zero => rfl
  | succ k ih => simp [diffTo, ih]
theorem sumTo_length (l : List UInt8) (d k : Nat) : (sumTo l d k).length = k := by
  induction k with
  | zero => rfl
  | succ k ih => simp [sumTo, ih]
theorem diffTo_get (l : List UInt8) (d k i : Nat) (h : i < k) : (diffTo l d k).getD i 0 = if d ≤ i then l.getD i 0 - l.getD (i - d) 0 else l.getD i 0 := by
  induction k with
  | zero => omega
  | succ k ih =>
    simp only [diffTo]
    by_cases hk : i < k
    · rw [getD_left _ _ _ _ (by rw [diffTo_length]; exact hk), ih hk]
    · obtain rfl : i = k := by omega
      rw [getD_right _ _ _ _ (by rw [diffTo_length]; omega), diffTo_length]
      simp
theorem sumTo_stable (l : List UInt8) (d k m i : Nat) (h : i < k) (hm : k ≤ m) : (sumTo l d m).getD i 0 = (sumTo l d k).getD i 0 := by
  induction m with
  | zero => omega
  | succ m ih =>
    by_cases e : k = m + 1
    · rw [e]
    · simp only [sumTo]
      rw [getD_left _ _ _ _ (by rw [sumTo_length]; omega), ih (by omega)]
theorem sumTo_get (l : List UInt8) (d k i : Nat) (h : i < k) (hd : 0 < d) : (sumTo l d k).getD i 0 = if d ≤ i then l.getD i 0 + (sumTo l d k).getD (i - d) 0 else l.getD i 0 := by
  rw [sumTo_stable l d (i + 1) k i (by omega) h]
  simp only [sumTo]
  rw [getD_right _ _ _ _ (by rw [sumTo_length]; omega), sumTo_length]
  simp only [Nat.sub_self, List.getD_cons_zero]
  by_cases hi : d ≤ i
  · rw [if_pos hi, if_pos hi, sumTo_stable l d i k (i - d) (by omega) (by omega)]
  · rw [if_neg hi, if_neg hi]
theorem ext_getD {a b : List UInt8} (hl : a.length = b.length) (h : ∀ i, i < a.length → a.getD i 0 = b.getD i 0) : a = b := by
  refine List.ext_getElem hl fun i h1 h2 => ?_
  have := h i h1
  rwa [List.getD_eq_getElem?_getD, List.getElem?_eq_getElem h1, List.getD_eq_getElem?_getD, List.getElem?_eq_getElem h2] at this
theorem sub_add (a b : UInt8) : a - b + b = a := by simp
theorem add_sub (a b : UInt8) : a + b - b = a := by simp
theorem back_of_diff (l : List UInt8) (d : Nat) (hd : 0 < d) : sumTo (diffTo l d l.length) d l.length = l := by
  have key : ∀ i, i < l.length → (sumTo (diffTo l d l.length) d l.length).getD i 0 = l.getD i 0 := by
    intro i
    induction i using Nat.strongRecOn with
    | _ i ih =>
      intro hi
      rw [sumTo_get _ _ _ _ hi hd, diffTo_get _ _ _ _ hi]
      by_cases h : d ≤ i
      · rw [if_pos h, if_pos h, ih (i - d) (by omega) (by omega), sub_add]
      · rw [if_neg h, if_neg h]
  exact ext_getD (sumTo_length _ _ _) fun i hi => key i (by rwa [sumTo_length] at hi)
theorem diff_of_back (l : List UInt8) (d : Nat) (hd : 0 < d) : diffTo (sumTo l d l.length) d l.length = l := by
  refine ext_getD (diffTo_length _ _ _) fun i hi => ?_
  rw [diffTo_length] at hi
  rw [diffTo_get _ _ _ _ hi]
  by_cases h : d ≤ i
  · rw [if_pos h, sumTo_get _ _ _ _ hi hd, if_pos h, add_sub]
  · rw [if_neg h, sumTo_get _ _ _ _ hi hd, if_neg h]
/-- Ahead of d nothing turns. -/
theorem diffTo_ahead (l : List UInt8) (d k : Nat) (h : k ≤ d) (hl : k ≤ l.length) : diffTo l d k = l.take k := by
  refine ext_getD (by rw [diffTo_length, List.length_take]; omega) fun i hi => ?_
  rw [diffTo_length] at hi
  rw [diffTo_get _ _ _ _ hi, if_neg (by omega)]
  simp [List.getD_eq_getElem?_getD, hi]
theorem sumTo_ahead (l : List UInt8) (d k : Nat) (h : k ≤ d) (hd : 0 < d) (hl : k ≤ l.length) : sumTo l d k = l.take k := by
  refine ext_getD (by rw [sumTo_length, List.length_take]; omega) fun i hi => ?_
  rw [sumTo_length] at hi
  rw [sumTo_get _ _ _ _ hi hd, if_neg (by omega)]
  simp [List.getD_eq_getElem?_getD, hi]
def zeroB (b : UInt8) : Bool := b.toNat == 0
def noughts (l : List UInt8) : Nat := (l.filter zeroB).length
theorem noughts_snoc (l : List UInt8) (b : UInt8) : noughts (l ++ [b]) = noughts l + if b.toNat = 0 then 1 else 0 := by
  unfold noughts
  rw [List.filter_append, List.length_append]
  by_cases h : b.toNat = 0 <;> simp [zeroB, h]
theorem noughts_le (l : List UInt8) : noughts l ≤ l.length := List.length_filter_le _ _
/-- How many noughts the differences leave; of 0 those of the bytes as they are. -/
def left (l : List UInt8) (d : Nat) : Nat := if d = 0 then noughts l else noughts (diffTo l d l.length)
/-- The first number up to k that leaves the most noughts, and how many these are. -/
def best (l : List UInt8) : Nat → Nat × Nat
  | 0 => (0, noughts l)
  | d + 1 => let p := best l d; if p.2 < left l (d + 1) then (d + 1, left l (d + 1)) else p
end Go.Proofs.Ytmpmioffngonjaa.DeltaMath
