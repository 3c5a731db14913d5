import Derived.Test.YtopiiickeojpmaaE3
import Derived.Test.YtopiiickeojpmaaCn
import Derived.Test.YtopiiickeojpmaaJ12
/- Layer 9: bits as numbers; codes that may be leave no gap. -/
namespace Go.Proofs.Ytopiiickeojpmaa
set_option linter.unusedVariables false
set_option maxRecDepth 100000
open KraftMath CanonMath
theorem rev_ind {α : Type} {P : List α → Prop} (h0 : P []) (hs : ∀ r b, P r → P (r ++ [b])) (r : List α) : P r := by
  have key : ∀ (n : Nat) (r : List α), r.length = n → P r := by
    intro n
    induction n with
    | zero => intro r h; rw [List.length_eq_zero_iff.1 h]; exact h0
    | succ n ih =>
      intro r h
      have hne : r ≠ [] := by rintro rfl; simp at h
      rw [← List.dropLast_concat_getLast hne]
      exact hs _ _ (ih _ (by rw [List.length_dropLast, h]; rfl))
  exact key _ r rfl
def val (r : List Bool) : Nat := r.foldl (fun v b => 2 * v + b.toNat) 0
theorem val_snoc (r : List Bool) (b : Bool) : val (r ++ [b]) = 2 * val r + b.toNat := by simp [val]
theorem val_lt (r : List Bool) : val r < 2 ^ r.length := by
  induction r using rev_ind with
  | h0 => decide
  | hs r b ih =>
    rw [val_snoc, List.length_append, List.length_singleton, Nat.pow_succ]
    cases b <;> simp <;> omega
theorem msb_mod (c n : Nat) : ∀ k, n ≤ k → msb (c % 2 ^ k) n = msb c n := by
  intro k
  induction n with
  | zero => intro _; rfl
  | succ n ih =>
    intro h
    have e : c % 2 ^ k / 2 ^ n % 2 = c / 2 ^ n % 2 := by
      obtain ⟨d, rfl⟩ : ∃ d, k = n + 1 + d := ⟨k - (n + 1), by omega⟩
      rw [Nat.pow_add, Nat.pow_succ, Nat.mul_assoc, Nat.mod_mul_right_div_self, Nat.mod_mul_right_mod]
    rw [msb, msb, e, ih (by omega)]
theorem msb_snoc (c n : Nat) : msb c (n + 1) = msb (c / 2) n ++ [c % 2 == 1] := by
  induction n with
  | zero => simp [msb]
  | succ n ih =>
    rw [msb, ih, msb]
    have : c / 2 / 2 ^ n = c / 2 ^ (n + 1) := by rw [Nat.div_div_eq_div_mul, Nat.pow_succ, Nat.mul_comm]
    rw [this]; rfl
theorem msb_val (r : List Bool) : msb (val r) r.length = r := by
  induction r using rev_ind with
  | h0 => rfl
  | hs r b ih =>
    rw [val_snoc, List.length_append, List.length_singleton, msb_snoc]
    have e1 : (2 * val r + b.toNat) / 2 = val r := by cases b <;> simp <;> omega
    have e2 : ((2 * val r + b.toNat) % 2 == 1) = b := by cases b <;> simp <;> omega
    rw [e1, e2, ih]
theorem val_msb (c n : Nat) (h : c < 2 ^ n) : val (msb c n) = c := by
  induction n generalizing c with
  | zero => obtain rfl : c = 0 := by rw [Nat.pow_zero] at h; omega
            rfl
  | succ n ih =>
    rw [msb_snoc, val_snoc, ih (c / 2) (by rw [Nat.pow_succ] at h; omega)]
    by_cases h2 : c % 2 = 1
    · rw [h2]; show 2 * (c / 2) + 1 = c; omega
    · have h3 : c % 2 = 0 := by omega
      rw [h3]; show 2 * (c / 2) + 0 = c; omega
theorem msb_take (c n : Nat) : ∀ k, k ≤ n → (msb c n).take k = msb (c / 2 ^ (n - k)) k := by
  induction n generalizing c with
  | zero => intro k hk; obtain rfl : k = 0 := by omega
            rfl
  | succ n ih =>
    intro k hk
    by_cases h : k = n + 1
    · subst h; rw [Nat.sub_self, Nat.pow_zero, Nat.div_one, List.take_of_length_le (by rw [msb_len]; exact Nat.le_refl _)]
    · rw [msb_snoc, List.take_append_of_le_length (by rw [msb_len]; omega), ih (c / 2) k (by omega), Nat.div_div_eq_div_mul, show n + 1 - k = (n - k) + 1 by omega, Nat.pow_succ, Nat.mul_comm]
theorem begL_code {row : List Bool} {c n : Nat} (hc : c < 2 ^ n) : begL row (msb c n) = true ↔ n ≤ row.length ∧ val (row.take n) = c := by
  unfold begL
  rw [msb_len, Bool.and_eq_true, decide_eq_true_iff, decide_eq_true_iff]
  constructor
  · rintro ⟨h1, h2⟩
    exact ⟨h1, by rw [h2, val_msb c n hc]⟩
  · rintro ⟨h1, h2⟩
    refine ⟨h1, ?_⟩
    have hl : (row.take n).length = n := by rw [List.length_take]; omega
    have := msb_val (row.take n)
    rw [hl, h2] at this
    exact this.symm
theorem begL_row {row : List Bool} {c n : Nat} : begL (msb c n) row = true ↔ row.length ≤ n ∧ msb (c / 2 ^ (n - row.length)) row.length = row := by
  unfold begL
  rw [msb_len, Bool.and_eq_true, decide_eq_true_iff, decide_eq_true_iff]
  constructor
  · rintro ⟨h1, h2⟩
    rw [msb_take c n _ h1] at h2
    exact ⟨h1, h2⟩
  · rintro ⟨h1, h2⟩
    rw [← msb_take c n _ h1] at h2
    exact ⟨h1, h2⟩
/-- A row begins with the code of s. -/
def Hit (l : List Int) (row : List Bool) (s : Nat) : Prop := s < l.length ∧ len l s ≠ 0 ∧ begL row (msb (code l s) (len l s)) = true
theorem ok_b {l : List Int} (h : check l 16 = 0) : ∀ s, s < l.length → 0 ≤ l.getD s 0 ∧ len l s ≤ 16 := by
  intro s hs
  have := ((check_ok l 16).1 h).2.2.2.1 (l.getD s 0) (by simp [List.getD_eq_getElem?_getD, hs])
  unfold len; omega
theorem ok_k {l : List Int} (h : check l 16 = 0) : ksum 16 l ≤ 65536 := by
  rcases ((check_ok l 16).1 h).2.2.2.2 with ⟨-, h⟩ | ⟨-, h⟩ <;> rw [h] <;> decide
theorem ok_c {l : List Int} (h : check l 16 = 0) {s : Nat} (hs : s < l.length) : code l s < 2 ^ len l s := code_fits l s hs (ok_b h s hs).1 (ok_b h s hs).2 (ok_k h)
theorem hit_iff {l : List Int} (h : check l 16 = 0) {row : List Bool} {s : Nat} : Hit l row s ↔ s < l.length ∧ len l s ≠ 0 ∧ len l s ≤ row.length ∧ val (row.take (len l s)) = code l s := by
  unfold Hit
  constructor
  · rintro ⟨h1, h2, h3⟩
    exact ⟨h1, h2, (begL_code (ok_c h h1)).1 h3⟩
  · rintro ⟨h1, h2, h3⟩
    exact ⟨h1, h2, (begL_code (ok_c h h1)).2 h3⟩
theorem val_take (row : List Bool) (n m : Nat) (h : n ≤ m) (hm : m ≤ row.length) : val (row.take m) / 2 ^ (m - n) = val (row.take n) := by
  have h1 := msb_val (row.take m)
  have hl : (row.take m).length = m := by rw [List.length_take]; omega
  rw [hl] at h1
  have h2 := msb_take (val (row.take m)) m n h
  rw [h1, List.take_take, Nat.min_eq_left h] at h2
  have h3 : val (row.take m) / 2 ^ (m - n) < 2 ^ n := by
    have := val_lt (row.take m)
    rw [hl] at this
    rw [Nat.div_lt_iff_lt_mul (Nat.pow_pos (by decide)), ← Nat.pow_add, show n + (m - n) = m by omega]
    exact this
  rw [h2, val_msb _ _ h3]
theorem hit_one {l : List Int} (h : check l 16 = 0) {row : List Bool} {s t : Nat} (h1 : Hit l row s) (h2 : Hit l row t) : s = t := by
  rw [hit_iff h] at h1 h2
  refine Decidable.byContradiction fun hne => ?_
  have key : ∀ i k, i ≠ k → i < l.length → k < l.length → len l i ≠ 0 → len l i ≤ len l k → len l k ≤ row.length → val (row.take (len l i)) = code l i → val (row.take (len l k)) = code l k → False := by
    intro i k hne hi hk h0 hle hr vi vk
    refine code_free l i k hne hi hk (ok_b h i hi).1 (ok_b h k hk).1 (by omega) hle (ok_b h k hk).2 ?_
    rw [← vi, ← vk]
    exact val_take row _ _ hle hr
  rcases Nat.le_total (len l s) (len l t) with hle | hle
  · exact key s t hne h1.1 h2.1 h1.2.1 hle h2.2.2.1 h1.2.2.2 h2.2.2.2
  · exact key t s (Ne.symm hne) h2.1 h1.1 h2.2.1 hle h1.2.2.1 h2.2.2.2 h1.2.2.2
/-- A point of 16 bits lies within the code of some symbol, if the codes leave no gap. -/
theorem within (l : List Int) (x : Nat) (hx : x < takes l (ord l)) : ∃ s, s ∈ ord l ∧ code l s * 2 ^ (16 - len l s) ≤ x ∧ x < (code l s + 1) * 2 ^ (16 - len l s) := by
  have key : ∀ k, k ≤ (ord l).length → x < takes l ((ord l).take k) → ∃ s, s ∈ ord l ∧ code l s * 2 ^ (16 - len l s) ≤ x ∧ x < (code l s + 1) * 2 ^ (16 - len l s) := by
    intro k
    induction k with
    | zero => intro _ h; simp [takes] at h
    | succ k ih =>
      intro hk h
      by_cases h2 : x < takes l ((ord l).take k)
      · exact ih (by omega) h2
      · have hkl : k < (ord l).length := by omega
        obtain ⟨s, hs⟩ : ∃ s, (ord l)[k]? = some s := ⟨_, List.getElem?_eq_getElem hkl⟩
        have hget : (ord l)[k] = s := (List.getElem?_eq_some_iff.1 hs).2
        obtain ⟨a1, a2, a3, a4, a5⟩ := pos_of_get l k s hs
        have e := takes_pos l s a1 a2 a3
        rw [a5] at e
        rw [List.take_succ_eq_append_getElem hkl, hget, takes_append, e] at h
        have ht : takes l [s] = 2 ^ (16 - len l s) := by simp [takes]
        rw [ht] at h
        rw [e] at h2
        exact ⟨s, List.mem_of_getElem? hs, Nat.le_of_not_lt h2, by rw [Nat.add_mul, Nat.one_mul]; exact h⟩
  have := key (ord l).length (Nat.le_refl _)
  rw [List.take_length] at this
  exact this hx
theorem no_gap {l : List Int} (h : check l 16 = 0) {row : List Bool} (hn : ∀ s, ¬ Hit l row s) (hm : ∃ s, s < l.length ∧ row.length < len l s) : ∃ s, s < l.length ∧ len l s ≠ 0 ∧ begL (msb (code l s) (len l s)) row = true := by
  obtain ⟨s0, hs0, hlt⟩ := hm
  obtain ⟨-, -, -, hb, hks⟩ := (check_ok l 16).1 h
  by_cases h0 : row.length = 0
  · have : row = [] := List.length_eq_zero_iff.1 h0
    subst this
    exact ⟨s0, hs0, by omega, begL_row.2 ⟨Nat.zero_le _, rfl⟩⟩
  · have hord := ord_length l hb
    have htk : takes l (ord l) = ksum 16 l := by unfold ord; rw [takes_upto, ksum_below]
    rcases hks with ⟨hu, hk⟩ | ⟨hu, hk⟩
    · exfalso
      have hm0 : s0 ∈ ord l := (mem_ord l s0).2 ⟨hs0, by omega, (ok_b h s0 hs0).2, by unfold len at hlt; omega⟩
      rw [hu] at hord
      obtain ⟨z, hz⟩ := List.length_eq_one_iff.1 hord
      rw [hz, List.mem_singleton] at hm0
      rw [hz, hk, ← hm0] at htk
      simp only [takes, Nat.add_zero] at htk
      have h16 := (ok_b h s0 hs0).2
      have : 2 ^ (16 - len l s0) ≤ 2 ^ 14 := Nat.pow_le_pow_right (by decide) (by omega)
      omega
    · rw [hk] at htk
      have hr16 : row.length ≤ 16 := by have := (ok_b h s0 hs0).2; omega
      have hv := val_lt row
      have hp : 2 ^ row.length * 2 ^ (16 - row.length) = 2 ^ 16 := by rw [← Nat.pow_add, show row.length + (16 - row.length) = 16 by omega]
      have hq : 0 < 2 ^ (16 - row.length) := Nat.pow_pos (by decide)
      have hx : val row * 2 ^ (16 - row.length) < takes l (ord l) := by
        rw [htk, ← hp]; exact Nat.mul_lt_mul_of_pos_right hv hq
      obtain ⟨s, hs, lo, hi⟩ := within l _ hx
      obtain ⟨m1, m2, m3, m4⟩ := (mem_ord l s).1 hs
      by_cases hle : len l s ≤ row.length
      · refine absurd ?_ (hn s)
        rw [hit_iff h]
        refine ⟨m1, by omega, hle, ?_⟩
        have e1 : 2 ^ (16 - len l s) = 2 ^ (row.length - len l s) * 2 ^ (16 - row.length) := by rw [← Nat.pow_add, show row.length - len l s + (16 - row.length) = 16 - len l s by omega]
        rw [e1, ← Nat.mul_assoc] at lo hi
        have lo2 := Nat.le_of_mul_le_mul_right lo hq
        have hi2 := Nat.lt_of_mul_lt_mul_right hi
        have hv2 := val_take row (len l s) row.length hle (Nat.le_refl _)
        rw [List.take_length] at hv2
        rw [← hv2]
        exact Nat.div_eq_of_lt_le lo2 hi2
      · refine ⟨s, m1, by omega, begL_row.2 ⟨by omega, ?_⟩⟩
        have e1 : 2 ^ (16 - row.length) = 2 ^ (len l s - row.length) * 2 ^ (16 - len l s) := by rw [← Nat.pow_add, show len l s - row.length + (16 - len l s) = 16 - row.length by omega]
        have hq2 : 0 < 2 ^ (16 - len l s) := Nat.pow_pos (by decide)
        rw [e1, ← Nat.mul_assoc] at lo hi
        have lo2 := Nat.le_of_mul_le_mul_right lo hq2
        have hi2 := Nat.lt_of_mul_lt_mul_right hi
        have e2 : code l s = val row * 2 ^ (len l s - row.length) := by omega
        rw [e2, Nat.mul_div_cancel _ (Nat.pow_pos (by decide)), msb_val]
end Go.Proofs.Ytopiiickeojpmaa
