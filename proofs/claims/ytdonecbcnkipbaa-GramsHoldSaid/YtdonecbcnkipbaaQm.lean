/- Places of a pattern, and a sum that moves along, plainly. -/
namespace Go.Proofs.Ytdonecbcnkipbaa.RollMath
/-- n is how many of p's first are the last of t, at most; none that are more are. -/
def Best (p t : List UInt8) (n : Nat) : Prop := p.take n <:+ t ∧ n ≤ p.length ∧ ∀ m, m ≤ p.length → p.take m <:+ t → m ≤ n
/-- n is the border of p's first k. -/
def Bor (p : List UInt8) (k n : Nat) : Prop := n < k ∧ p.take n <:+ p.take k ∧ ∀ m, m < k → p.take m <:+ p.take k → m ≤ n
/-- n is not below any that c goes on. -/
def Cand (p t : List UInt8) (c : UInt8) (n : Nat) : Prop := p.take n <:+ t ∧ n ≤ p.length ∧ ∀ j, p[j]? = some c → p.take j <:+ t → j ≤ n
theorem best_nil (p : List UInt8) : Best p [] 0 := by
  refine ⟨by simp, Nat.zero_le _, fun m hm h => ?_⟩
  have := h.length_le
  rw [List.length_take] at this
  simp only [List.length_nil] at this
  omega
theorem best_cand {p t : List UInt8} {n : Nat} (h : Best p t n) (c : UInt8) : Cand p t c n :=
  ⟨h.1, h.2.1, fun j hj hs => h.2.2 j (Nat.le_of_lt (List.getElem?_eq_some_iff.1 hj).1) hs⟩
theorem cand_fall {p t : List UInt8} {c : UInt8} {n b : Nat} (h : Cand p t c n) (hb : Bor p n b) (hf : p[n]? ≠ some c) : Cand p t c b := by
  refine ⟨hb.2.1.trans h.1, by have := hb.1; have := h.2.1; omega, fun j hj hs => ?_⟩
  have hjn := h.2.2 j hj hs
  have hne : j ≠ n := by rintro rfl; exact hf hj
  have hjl : j < p.length := (List.getElem?_eq_some_iff.1 hj).1
  have : p.take j <:+ p.take n := List.suffix_of_suffix_length_le hs h.1 (by rw [List.length_take, List.length_take]; omega)
  exact hb.2.2 j (by omega) this
theorem suffix_snoc (a b : List UInt8) (x y : UInt8) : a ++ [x] <:+ b ++ [y] ↔ a <:+ b ∧ x = y := by
  constructor
  · rintro ⟨r, hr⟩
    rw [← List.append_assoc] at hr
    have := List.append_inj' hr rfl
    exact ⟨⟨r, this.1⟩, by simpa using this.2⟩
  · rintro ⟨⟨r, hr⟩, rfl⟩
    exact ⟨r, by rw [← List.append_assoc, hr]⟩
theorem take_snoc (p : List UInt8) (j : Nat) (c : UInt8) (h : p[j]? = some c) : p.take (j + 1) = p.take j ++ [c] := by
  obtain ⟨hl, e⟩ := List.getElem?_eq_some_iff.1 h
  rw [List.take_succ_eq_append_getElem hl, e]
theorem suffix_step {p t : List UInt8} {c : UInt8} {m : Nat} (h0 : 0 < m) (hm : m ≤ p.length) (h : p.take m <:+ t ++ [c]) : p[m - 1]? = some c ∧ p.take (m - 1) <:+ t := by
  obtain ⟨k, rfl⟩ : ∃ k, m = k + 1 := ⟨m - 1, by omega⟩
  have hx : p[k]? = some p[k] := List.getElem?_eq_getElem (by omega)
  rw [take_snoc p k _ hx, suffix_snoc] at h
  exact ⟨by rw [Nat.add_sub_cancel, hx, h.2], h.1⟩
theorem cand_hit {p t : List UInt8} {c : UInt8} {n : Nat} (h : Cand p t c n) (hc : p[n]? = some c) : Best p (t ++ [c]) (n + 1) := by
  have hl := (List.getElem?_eq_some_iff.1 hc).1
  refine ⟨by rw [take_snoc p n c hc, suffix_snoc]; exact ⟨h.1, rfl⟩, by omega, fun m hm hs => ?_⟩
  rcases Nat.eq_zero_or_pos m with h0 | h0
  · omega
  · obtain ⟨h1, h2⟩ := suffix_step h0 hm hs
    have := h.2.2 _ h1 h2
    omega
theorem cand_miss {p t : List UInt8} {c : UInt8} (h : Cand p t c 0) (hc : p[0]? ≠ some c) : Best p (t ++ [c]) 0 := by
  refine ⟨by simp, by omega, fun m hm hs => ?_⟩
  rcases Nat.eq_zero_or_pos m with h0 | h0
  · omega
  · obtain ⟨h1, h2⟩ := suffix_step h0 hm hs
    have h3 := h.2.2 _ h1 h2
    have : m - 1 = 0 := by omega
    rw [this] at h1
    exact absurd h1 hc
theorem best_bor {p : List UInt8} {k n : Nat} (hk : 1 ≤ k) (hkl : k ≤ p.length) (h : Best p ((p.take k).drop 1) n) : Bor p k n := by
  have hl : ((p.take k).drop 1).length = k - 1 := by rw [List.length_drop, List.length_take]; omega
  have hn := h.1.length_le
  rw [hl, List.length_take] at hn
  have hnp := h.2.1
  refine ⟨by omega, h.1.trans (List.drop_suffix 1 _), fun m hm hs => h.2.2 m (by omega) ?_⟩
  exact List.suffix_of_suffix_length_le hs (List.drop_suffix 1 _) (by rw [hl, List.length_take]; omega)
theorem drop_take_snoc (p : List UInt8) (k : Nat) (hk : 1 ≤ k) (c : UInt8) (h : p[k]? = some c) : (p.take (k + 1)).drop 1 = (p.take k).drop 1 ++ [c] := by
  have hl := (List.getElem?_eq_some_iff.1 h).1
  rw [take_snoc p k c h, List.drop_append_of_le_length (by rw [List.length_take]; omega)]
theorem best_unique {p t : List UInt8} {n m : Nat} (h : Best p t n) (h' : Best p t m) : n = m := by
  have := h.2.2 m h'.2.1 h'.1
  have := h'.2.2 n h.2.1 h.1
  omega
theorem best_full {p t : List UInt8} {n : Nat} (h : Best p t n) : n = p.length ↔ p <:+ t := by
  constructor
  · rintro rfl; have := h.1; rwa [List.take_length] at this
  · intro hs
    have := h.2.2 p.length (Nat.le_refl _) (by rwa [List.take_length])
    have := h.2.1
    omega
/-- The places below k at which p stands in s. -/
def findTo (s p : List UInt8) : Nat → List Int
  | 0 => []
  | k + 1 => if (s.drop k).take p.length = p then findTo s p k ++ [(k : Int)] else findTo s p k
def findL (s p : List UInt8) : List Int := if p.length ≤ s.length then findTo s p (s.length + 1 - p.length) else []
theorem suffix_at (s p : List UInt8) (i : Nat) (hi : i ≤ s.length) (hp : p.length ≤ i) : p <:+ s.take i ↔ (s.drop (i - p.length)).take p.length = p := by
  have e : (s.drop (i - p.length)).take p.length = (s.take i).drop (i - p.length) := by
    rw [List.drop_take]; congr 1; omega
  rw [e]
  constructor
  · intro h
    obtain ⟨r, hr⟩ := h
    have hlen := congrArg List.length hr
    rw [List.length_append, List.length_take] at hlen
    rw [← hr]
    have : i - p.length = r.length := by omega
    rw [this, List.drop_left]
  · intro h
    rw [← h]
    exact List.drop_suffix _ _
theorem suffix_short (s p : List UInt8) (i : Nat) (hp : i < p.length) : ¬ p <:+ s.take i := by
  intro h; have := h.length_le; rw [List.length_take] at this; omega
/-- The places that are told behind the first i bytes. -/
def toldTo (s p : List UInt8) (i : Nat) : List Int := findTo s p (i + 1 - p.length)
theorem told_start (s p : List UInt8) (hp : 0 < p.length) : toldTo s p 0 = [] := by
  unfold toldTo; rw [show 0 + 1 - p.length = 0 by omega]; rfl
theorem told_hit (s p : List UInt8) (i : Nat) (hi : i < s.length) (h : p <:+ s.take (i + 1)) : toldTo s p (i + 1) = toldTo s p i ++ [((i + 1 - p.length : Nat) : Int)] := by
  have hp : p.length ≤ i + 1 := by
    rcases Nat.lt_or_ge (i + 1) p.length with h1 | h1
    · exact absurd h (suffix_short s p _ h1)
    · exact h1
  have := (suffix_at s p (i + 1) (by omega) hp).1 h
  unfold toldTo
  rw [show i + 1 + 1 - p.length = (i + 1 - p.length) + 1 by omega, findTo, if_pos this]
theorem told_miss (s p : List UInt8) (i : Nat) (hi : i < s.length) (h : ¬ p <:+ s.take (i + 1)) : toldTo s p (i + 1) = toldTo s p i := by
  rcases Nat.lt_or_ge (i + 1) p.length with h1 | h1
  · unfold toldTo; rw [show i + 1 + 1 - p.length = 0 by omega, show i + 1 - p.length = 0 by omega]
  · have h2 : ¬ (s.drop (i + 1 - p.length)).take p.length = p := fun e => h ((suffix_at s p (i + 1) (by omega) h1).2 e)
    unfold toldTo
    rw [show i + 1 + 1 - p.length = (i + 1 - p.length) + 1 by omega, findTo, if_neg h2]
theorem told_end (s p : List UInt8) (h : p.length ≤ s.length) : toldTo s p s.length = findL s p := by
  unfold toldTo findL; rw [if_pos h]
theorem findTo_len (s p : List UInt8) (k : Nat) : (findTo s p k).length ≤ k := by
  induction k with
  | zero => simp [findTo]
  | succ k ih => simp only [findTo]; split <;> first | (simp; omega) | omega
theorem findTo_nil (s : List UInt8) (k : Nat) : findTo s [] (k + 1) = findTo s [] k ++ [(k : Int)] := by
  simp [findTo]

/-- The sum. -/
def P : Nat := 2147483647
def hashL (l : List UInt8) : Nat := l.foldl (fun h b => (257 * h + b.toNat + 1) % P) 0
def hashF (h : Nat) (l : List UInt8) : Nat := l.foldl (fun h b => (257 * h + b.toNat + 1) % P) h
theorem hashL_snoc (l : List UInt8) (b : UInt8) : hashL (l ++ [b]) = (257 * hashL l + b.toNat + 1) % P := by simp [hashL]
theorem hashL_lt (l : List UInt8) : hashL l < P := by
  unfold hashL
  suffices h : ∀ a, a < P → l.foldl (fun h b => (257 * h + b.toNat + 1) % P) a < P from h 0 (by decide)
  induction l with
  | nil => intro a h; exact h
  | cons b l ih => intro a _; exact ih _ (Nat.mod_lt _ (by decide))
theorem hashF_eq (h : Nat) (l : List UInt8) : hashF h l % P = (h * 257 ^ l.length + hashF 0 l) % P := by
  induction l generalizing h with
  | nil => simp [hashF]
  | cons b l ih =>
    have e1 : hashF h (b :: l) = hashF ((257 * h + b.toNat + 1) % P) l := rfl
    have e2 : hashF 0 (b :: l) = hashF ((257 * 0 + b.toNat + 1) % P) l := rfl
    rw [e1, ih, List.length_cons, Nat.add_mod, Nat.mul_mod, Nat.mod_mod, ← Nat.mul_mod, ← Nat.add_mod]
    have h2 := ih ((257 * 0 + b.toNat + 1) % P)
    rw [← e2, Nat.add_mod, Nat.mul_mod, Nat.mod_mod, ← Nat.mul_mod, ← Nat.add_mod] at h2
    rw [Nat.add_mod (h * 257 ^ (l.length + 1)), h2, ← Nat.add_mod, Nat.pow_succ]
    congr 1
    generalize 257 ^ l.length = Q
    simp only [Nat.mul_zero, Nat.zero_add, Nat.add_mul, Nat.one_mul]
    rw [Nat.mul_comm Q 257, ← Nat.mul_assoc, Nat.mul_comm h 257]
    omega
theorem hashL_cons (b : UInt8) (l : List UInt8) : hashL (b :: l) = ((b.toNat + 1) * 257 ^ l.length + hashL l) % P := by
  have h := hashF_eq ((257 * 0 + b.toNat + 1) % P) l
  have e : hashF ((257 * 0 + b.toNat + 1) % P) l = hashL (b :: l) := rfl
  rw [e, Nat.mod_eq_of_lt (hashL_lt _)] at h
  rw [h, Nat.add_mod, Nat.mul_mod, Nat.mod_mod, ← Nat.mul_mod, ← Nat.add_mod]
  simp only [Nat.mul_zero, Nat.zero_add]
  rfl
/-- What the sum is that moves along. -/
theorem roll_eq (a c : UInt8) (l : List UInt8) (F : Nat) (hF : F = (a.toNat + 1) * (257 ^ l.length % P) % P) :
    (257 * ((hashL (a :: l) + P - F) % P) + c.toNat + 1) % P = hashL (l ++ [c]) := by
  rw [hashL_snoc]
  have hF2 : F = (a.toNat + 1) * 257 ^ l.length % P := by rw [hF, Nat.mul_mod, Nat.mod_mod, ← Nat.mul_mod]
  have hFl : F < P := by rw [hF2]; exact Nat.mod_lt _ (by decide)
  have key : (hashL (a :: l) + P - F) % P = hashL l := by
    have h1 : hashL (a :: l) = (F + hashL l) % P := by
      rw [hashL_cons, hF2, Nat.add_mod, Nat.mod_eq_of_lt (hashL_lt l), Nat.add_mod ((a.toNat + 1) * 257 ^ l.length % P), Nat.mod_mod, Nat.mod_eq_of_lt (hashL_lt l)]
    have h2 := hashL_lt l
    rw [h1]
    have key : ∀ F H : Nat, F < 2147483647 → H < 2147483647 → ((F + H) % 2147483647 + 2147483647 - F) % 2147483647 = H := by intro F H h h'; omega
    exact key F _ hFl h2
  rw [key]
end Go.Proofs.Ytdonecbcnkipbaa.RollMath
