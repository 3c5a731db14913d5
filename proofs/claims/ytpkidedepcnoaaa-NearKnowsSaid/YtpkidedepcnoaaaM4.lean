/- Layer 41: chains of places that begin with the same two bytes (mathematics). -/
import Derived.Test.YtpkidedepcnoaaaM3
namespace Go.Proofs.Ytpkidedepcnoaaa
open Go.ChangeShapes Go.WideShapes Go.ChangeAt Go.RowKit
set_option linter.unusedVariables false
set_option linter.unusedSimpArgs false
set_option maxRecDepth 100000
/-- The two bytes at a place, as a number. -/
def pairAt (L : List UInt8) (p : Nat) : Nat := (L.getD p 0).toNat * 256 + (L.getD (p + 1) 0).toNat
theorem pairAt_lt (L : List UInt8) (p : Nat) : pairAt L p < 65536 := by
  have h1 := (L.getD p 0).toNat_lt
  have h2 := (L.getD (p + 1) 0).toNat_lt
  unfold pairAt; omega
/-- One more than the last place ahead of i that begins with these two bytes; 0: there is none. -/
def lastP (L : List UInt8) (t : Nat) : Nat → Nat
  | 0 => 0
  | i + 1 => if i + 1 < L.length ∧ pairAt L i = t then i + 1 else lastP L t i
theorem lastP_le (L : List UInt8) (t : Nat) : ∀ i, lastP L t i ≤ i
  | 0 => Nat.le_refl _
  | i + 1 => by
    have := lastP_le L t i
    rw [lastP]
    split <;> omega
theorem lastP_hit (L : List UInt8) (t : Nat) : ∀ i j, lastP L t i = j + 1 → j < i ∧ j + 1 < L.length ∧ pairAt L j = t
  | 0, j, h => by simp [lastP] at h
  | i + 1, j, h => by
    rw [lastP] at h
    split at h
    · rename_i h1
      have : i = j := by omega
      subst this
      exact ⟨Nat.lt_succ_self _, h1.1, h1.2⟩
    · obtain ⟨h1, h2, h3⟩ := lastP_hit L t i j h
      exact ⟨by omega, h2, h3⟩
theorem lastP_miss (L : List UInt8) (t : Nat) : ∀ i p, lastP L t i ≤ p → p < i → p + 1 < L.length → pairAt L p ≠ t
  | 0, p, _, h, _ => by omega
  | i + 1, p, h, h2, h3 => by
    rw [lastP] at h
    split at h
    · omega
    · rename_i h1
      by_cases e : p = i
      · subst e; exact fun e => h1 ⟨h3, e⟩
      · exact lastP_miss L t i p h (by omega) h3
theorem com_two (L : List UInt8) (i p : Nat) (h : 2 ≤ comAt L i p) : i + 1 < L.length ∧ p + 1 < L.length ∧ pairAt L i = pairAt L p := by
  have h0 := (comAt_iff L i p 0 (by omega)).1 (by omega)
  have h1 := (comAt_iff L i p 1 (by omega)).1 (by omega)
  refine ⟨by omega, by omega, ?_⟩
  unfold pairAt
  have e0 := h0.2.2
  simp only [Nat.add_zero] at e0
  rw [e0, h1.2.2]
theorem nAt_few (L : List UInt8) (i most d : Nat) (h : i - d + 1 < L.length → pairAt L (i - d) ≠ pairAt L i) : nAt L i most d ≤ 1 := by
  have hc : comAt L i (i - d) ≤ 1 := by
    apply Classical.byContradiction
    intro h2
    have h3 := com_two L i (i - d) (by omega)
    exact h h3.2.1 h3.2.2.symm
  unfold nAt; omega
theorem nAt_top (L : List UInt8) (i most d : Nat) : nAt L i most d ≤ most ∧ nAt L i most d ≤ L.length - i ∧ nAt L i most d ≤ 258 := by
  have := (comAt_le L i (i - d)).1
  unfold nAt; omega
theorem atS_one (L : List UInt8) (i most : Nat) : ∀ D, 1 ≤ (atS L i most D).1
  | 0 => Nat.le_refl _
  | D + 1 => by
    have := atS_one L i most D
    rw [atS]
    split
    · show 1 ≤ nAt L i most (D + 1); omega
    · exact this
theorem atS_skip (L : List UInt8) (i most D : Nat) : ∀ n, (∀ d, D < d → d ≤ D + n → nAt L i most d ≤ (atS L i most D).1) → atS L i most (D + n) = atS L i most D
  | 0, _ => rfl
  | n + 1, h => by
    have ih := atS_skip L i most D n (fun d h1 h2 => h d h1 (by omega))
    rw [← Nat.add_assoc, atS, ih, if_neg]
    have := h (D + n + 1) (by omega) (by omega)
    omega
/-- From one place of the chain to the one ahead: nothing between them counts. -/
theorem atS_chain (L : List UInt8) (i most j D : Nat) (hj : j ≤ i) (hD : D = i - j) (n : Nat) (hn : D + n ≤ i - lastP L (pairAt L i) j) : atS L i most (D + n) = atS L i most D := by
  refine atS_skip L i most D n (fun d h1 h2 => ?_)
  have hl := lastP_le L (pairAt L i) j
  have h3 : nAt L i most d ≤ 1 := nAt_few L i most d (fun h4 => lastP_miss L (pairAt L i) j (i - d) (by omega) (by omega) h4)
  exact Nat.le_trans h3 (atS_one L i most D)
/-- As long as can be: nothing further back counts. -/
theorem atS_full (L : List UInt8) (i most D n : Nat) (h : min most (L.length - i) ≤ (atS L i most D).1) : atS L i most (D + n) = atS L i most D :=
  atS_skip L i most D n (fun d _ _ => by have := nAt_top L i most d; omega)
/-- What the chain's finder knows ahead of place i. -/
structure Knows (L : List UInt8) (m i : Nat) (la ah : List Int) : Prop where
  ll : la.length = 65536
  al : ah.length = m
  la_at : ∀ t, t < 65536 → la.getD t 0 = (lastP L t i : Nat)
  ah_at : ∀ p, p < i → p + 1 < L.length → i ≤ p + m → ah.getD (p % m) 0 = (lastP L (pairAt L p) p : Nat)
theorem set_getD (l : List Int) (a b : Nat) (x : Int) (ha : a < l.length) : (l.set a x).getD b 0 = if a = b then x else l.getD b 0 := by
  simp only [List.getD_eq_getElem?_getD, List.getElem?_set]
  by_cases h : a = b
  · subst h; simp [ha]
  · simp [h]
theorem mod_ne {p i m : Nat} (hm : 0 < m) (h1 : p < i) (h2 : i < p + m) : i % m ≠ p % m := by
  intro h
  have e1 := Nat.div_add_mod i m
  have e2 := Nat.div_add_mod p m
  rw [h] at e1
  have : m * (i / m) - m * (p / m) = i - p := by omega
  rw [← Nat.mul_sub] at this
  by_cases hz : i / m - p / m = 0
  · rw [hz] at this; simp at this; omega
  · have : m * 1 ≤ m * (i / m - p / m) := Nat.mul_le_mul_left _ (by omega)
    omega
theorem Knows.next {L : List UInt8} {m i : Nat} {la ah : List Int} (h : Knows L m i la ah) (hm : 0 < m) (hi : i + 1 < L.length) : Knows L m (i + 1) (la.set (pairAt L i) ((i : Int) + 1)) (ah.set (i % m) (la.getD (pairAt L i) 0)) := by
  have hp := pairAt_lt L i
  refine ⟨by rw [List.length_set]; exact h.ll, by rw [List.length_set]; exact h.al, fun t ht => ?_, fun p hp1 hp2 hp3 => ?_⟩
  · rw [set_getD _ _ _ _ (by rw [h.ll]; exact hp), lastP]
    by_cases e : pairAt L i = t
    · rw [if_pos e, if_pos ⟨hi, e⟩]; simp
    · rw [if_neg e, if_neg (fun h2 => e h2.2), h.la_at t ht]
  · rw [set_getD _ _ _ _ (by rw [h.al]; exact Nat.mod_lt _ hm)]
    by_cases e : p = i
    · subst e
      rw [if_pos rfl, h.la_at _ hp]
    · rw [if_neg (mod_ne hm (by omega) (by omega)), h.ah_at p (by omega) hp2 (by omega)]
theorem Knows.last {L : List UInt8} {m i : Nat} {la ah : List Int} (h : Knows L m i la ah) (hi : L.length ≤ i + 1) : Knows L m (i + 1) la ah := by
  refine ⟨h.ll, h.al, fun t ht => ?_, fun p hp1 hp2 hp3 => h.ah_at p (by omega) hp2 (by omega)⟩
  rw [lastP, if_neg (by omega), h.la_at t ht]
theorem Knows.start (L : List UInt8) (m : Nat) : Knows L m 0 (List.replicate 65536 0) (List.replicate m 0) := by
  refine ⟨List.length_replicate, List.length_replicate, fun t ht => ?_, fun p hp => by omega⟩
  rw [List.getD_eq_getElem?_getD, List.getElem?_replicate, if_pos ht]; rfl
end Go.Proofs.Ytpkidedepcnoaaa
