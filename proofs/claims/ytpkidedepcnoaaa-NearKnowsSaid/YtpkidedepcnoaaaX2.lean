/- Layer 20: how much neighbours share (mathematics). -/
import Derived.Test.YtpkidedepcnoaaaX1
namespace Go.Proofs.Ytpkidedepcnoaaa
open Go.ChangeShapes Go.WideShapes Go.ChangeAt Go.RowKit
set_option linter.unusedVariables false
set_option linter.unusedSimpArgs false
set_option maxRecDepth 100000
theorem com_sym : ∀ a b : List UInt8, com a b = com b a
  | [], [] => rfl
  | [], b :: ys => rfl
  | a :: xs, [] => rfl
  | a :: xs, b :: ys => by
    rw [com, com, com_sym xs ys]
    by_cases h : a = b
    · rw [if_pos h, if_pos h.symm]
    · rw [if_neg h, if_neg (fun e => h e.symm)]
theorem comAt_sym (L : List UInt8) (i k : Nat) : comAt L i k = comAt L k i := com_sym _ _
theorem com_key (L : List UInt8) (p i : Nat) : ∀ k, p + k ≤ L.length → i + k ≤ L.length → (key L p k = key L i k ↔ k ≤ comAt L p i)
  | 0, _, _ => by simp [key]
  | k + 1, hp, hi => by
    have ih := com_key L p i k (by omega) (by omega)
    have h2 := key_eq2 L p i k 1
    rw [key_one, key_one, dg_in L _ (by omega), dg_in L _ (by omega)] at h2
    have h3 := comAt_iff L p i k
    constructor
    · intro h
      obtain ⟨h4, h5⟩ := h2.1 h
      have h6 := ih.1 h4
      exact (h3 h6).2 ⟨by omega, by omega, UInt8.toNat_inj.1 (by omega)⟩
    · intro h
      obtain ⟨-, -, h7⟩ := (h3 (by omega)).1 (by omega)
      exact h2.2 ⟨ih.2 (by omega), by rw [h7]⟩
theorem key_room (L : List UInt8) (q i k : Nat) (hq : q ≤ L.length) (hi : i + k ≤ L.length) (h : key L q k = key L i k) : q + k ≤ L.length := by
  cases k with
  | zero => exact hq
  | succ k =>
    have h2 := ((key_eq2 L q i k 1).1 h).2
    rw [key_one, key_one, dg_in L (i + k) (by omega)] at h2
    apply Classical.byContradiction
    intro hn
    rw [dg_out L (q + k) (by omega)] at h2
    omega
theorem key_le_down (L : List UInt8) (p q k m : Nat) (hk : k ≤ m) (h : key L p m ≤ key L q m) : key L p k ≤ key L q k := by
  apply Classical.byContradiction
  intro hn
  have := key_up L q p k m hk (by omega)
  omega
/-- What lies between two ends shares with each as much as they do. -/
theorem com_mid (L : List UInt8) (p q i : Nat) (hp : p ≤ L.length) (hq : q ≤ L.length) (hi : i ≤ L.length) (h1 : key L p L.length ≤ key L q L.length) (h2 : key L q L.length ≤ key L i L.length) : comAt L p i ≤ comAt L q i ∧ comAt L p i ≤ comAt L p q := by
  obtain ⟨k, hk⟩ : ∃ k, comAt L p i = k := ⟨_, rfl⟩
  have hc := comAt_le L p i
  have e := (com_key L p i k (by omega) (by omega)).2 (by omega)
  have g1 := key_le_down L p q k L.length (by omega) h1
  have g2 := key_le_down L q i k L.length (by omega) h2
  have e2 : key L q k = key L i k := by omega
  have hr := key_room L q i k hq (by omega) e2
  rw [hk]
  exact ⟨(com_key L q i k hr (by omega)).1 e2, (com_key L p q k (by omega) hr).1 (by omega)⟩
theorem com_trans (L : List UInt8) (p q i : Nat) (hp : p ≤ L.length) (hq : q ≤ L.length) (hi : i ≤ L.length) : min (comAt L p q) (comAt L q i) ≤ comAt L p i := by
  obtain ⟨k, hk⟩ : ∃ k, min (comAt L p q) (comAt L q i) = k := ⟨_, rfl⟩
  have h1 := comAt_le L p q
  have h2 := comAt_le L q i
  have e1 := (com_key L p q k (by omega) (by omega)).2 (by omega)
  have e2 := (com_key L q i k (by omega) (by omega)).2 (by omega)
  rw [hk]
  exact (com_key L p i k (by omega) (by omega)).1 (by omega)
/-- Of any two places, where they may lie outside. -/
def ofZ (L : List UInt8) (i k : Int) : Nat := if (0 ≤ i ∧ i ≤ L.length) ∧ (0 ≤ k ∧ k ≤ L.length) then comAt L i.toNat k.toNat else 0
/-- What each shares with the one ahead. -/
def rowL (L : List UInt8) (a : List Nat) : List Nat := (List.range a.length).map (fun j => if j = 0 then 0 else comAt L (a.getD (j - 1) 0) (a.getD j 0))
theorem rowL_len (L : List UInt8) (a : List Nat) : (rowL L a).length = a.length := by simp [rowL]
theorem rowL_getD (L : List UInt8) (a : List Nat) (j : Nat) (hj : j < a.length) : (rowL L a).getD j 0 = if j = 0 then 0 else comAt L (a.getD (j - 1) 0) (a.getD j 0) := by
  simp [rowL, List.getD_eq_getElem?_getD, hj]
/-- The end one place on shares one byte less at least with the one ahead of it. -/
theorem kasai {L : List UInt8} {a : List Nat} (h : IsSuf L a) (j j' : Nat) (hj0 : 0 < j) (hj : j < a.length) (hj0' : 0 < j') (hj' : j' < a.length) (hn : a.getD j' 0 = a.getD j 0 + 1) : comAt L (a.getD j 0) (a.getD (j - 1) 0) - 1 ≤ comAt L (a.getD j' 0) (a.getD (j' - 1) 0) := by
  have hal := h.len
  have gl : ∀ j, j < a.length → a.getD j 0 < L.length := fun j hj => h.lt _ (getD_mem a j hj)
  obtain ⟨i, hi⟩ : ∃ i, a.getD j 0 = i := ⟨_, rfl⟩
  obtain ⟨p, hp⟩ : ∃ p, a.getD (j - 1) 0 = p := ⟨_, rfl⟩
  obtain ⟨q, hq⟩ : ∃ q, a.getD (j' - 1) 0 = q := ⟨_, rfl⟩
  have lp := gl (j - 1) (by omega)
  have lq := gl (j' - 1) (by omega)
  have li := gl j hj
  have li' := gl j' hj'
  have hpi := pw_getD h.inc (j - 1) j (by omega) hj
  have hqi := pw_getD h.inc (j' - 1) j' (by omega) hj'
  rw [hn] at hqi li' ⊢
  rw [hi] at hpi hqi li li' ⊢
  rw [hp] at lp hpi ⊢
  rw [hq] at lq hqi ⊢
  by_cases hc : comAt L i p ≤ 1
  · omega
  have hcl := comAt_le L i p
  obtain ⟨c, hcc⟩ : ∃ c, comAt L i p = c + 1 := ⟨comAt L i p - 1, by omega⟩
  rw [hcc]
  -- the ends one place on
  have e1 := (com_key L i p (c + 1) (by omega) (by omega)).2 (by omega)
  have e2 := key_eq2 L i p 1 c
  rw [Nat.add_comm 1 c] at e2
  obtain ⟨e3, e4⟩ := e2.1 e1
  have hcom : c ≤ comAt L (i + 1) (p + 1) := (com_key L (i + 1) (p + 1) c (by omega) (by omega)).1 e4
  obtain ⟨n, hn1⟩ : ∃ n, L.length = n + 1 := ⟨L.length - 1, by omega⟩
  have g1 := key_cmp2 L p i 1 n
  rw [Nat.add_comm 1 n, ← hn1] at g1
  have g2 : key L (p + 1) n < key L (i + 1) n := by
    rcases g1.1 hpi with g | g
    · omega
    · exact g.2
  have g3 := key_up L _ _ n L.length (by omega) g2
  -- where the end behind p stands
  obtain ⟨r, hr, er⟩ := List.getElem_of_mem (h.mem (p + 1) (by omega))
  have gr : a.getD r 0 = p + 1 := by rw [List.getD_eq_getElem?_getD, List.getElem?_eq_getElem hr, Option.getD_some, er]
  have hrj : r ≤ j' - 1 := by
    apply Classical.byContradiction
    intro hx
    by_cases f : r = j'
    · subst f; rw [gr] at hn; rw [hi] at hn; rw [hn] at g3; omega
    · have := pw_getD h.inc j' r (by omega) hr
      rw [gr, hn, hi] at this; omega
  have g4 : key L (p + 1) L.length ≤ key L q L.length := by
    by_cases f : r = j' - 1
    · rw [← hq, ← f, gr]; exact Nat.le_refl _
    · have := pw_getD h.inc r (j' - 1) (by omega) (by omega)
      rw [gr, hq] at this; omega
  have := (com_mid L (p + 1) q (i + 1) (by omega) (by omega) (by omega) g4 (by omega)).1
  have s1 := comAt_sym L (p + 1) (i + 1)
  have s2 := comAt_sym L q (i + 1)
  omega
/-- The least of what neighbours share. -/
def mnR (L : List UInt8) (a : List Nat) (x : Nat) : Nat → Nat
  | 0 => L.length
  | d + 1 => min (mnR L a x d) (comAt L (a.getD (x + d) 0) (a.getD (x + d + 1) 0))
theorem mnR_le (L : List UInt8) (a : List Nat) (x : Nat) : ∀ d, mnR L a x d ≤ L.length
  | 0 => Nat.le_refl _
  | d + 1 => by have := mnR_le L a x d; rw [mnR]; omega
theorem mnR_com {L : List UInt8} {a : List Nat} (h : IsSuf L a) (x : Nat) : ∀ d, x + d + 1 < a.length → mnR L a x (d + 1) = comAt L (a.getD x 0) (a.getD (x + d + 1) 0)
  | 0, hx => by
    rw [mnR, mnR, Nat.add_zero]
    have := (comAt_le L (a.getD x 0) (a.getD (x + 1) 0)).1
    omega
  | d + 1, hx => by
    have ih := mnR_com h x d (by omega)
    have gl : ∀ j, j < a.length → a.getD j 0 < L.length := fun j hj => h.lt _ (getD_mem a j hj)
    rw [mnR, ih]
    have k1 := pw_getD h.inc x (x + d + 1) (by omega) (by omega)
    have k2 := pw_getD h.inc (x + d + 1) (x + (d + 1) + 1) (by omega) hx
    have l1 := gl x (by omega)
    have l2 := gl (x + d + 1) (by omega)
    have l3 := gl (x + (d + 1) + 1) hx
    have m := com_mid L (a.getD x 0) (a.getD (x + d + 1) 0) (a.getD (x + (d + 1) + 1) 0) (by omega) (by omega) (by omega) (by omega) (by omega)
    have t := com_trans L (a.getD x 0) (a.getD (x + d + 1) 0) (a.getD (x + (d + 1) + 1) 0) (by omega) (by omega) (by omega)
    rw [show x + (d + 1) = x + d + 1 by omega] at m t ⊢
    omega
end Go.Proofs.Ytpkidedepcnoaaa
