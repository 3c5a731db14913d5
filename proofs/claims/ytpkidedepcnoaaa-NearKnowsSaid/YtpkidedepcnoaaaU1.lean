/- Layer 19: ends in order (mathematics). -/
import Derived.Test.YtpkidedepcnoaaaM1
namespace Go.Proofs.Ytpkidedepcnoaaa
open Go.ChangeShapes Go.WideShapes Go.ChangeAt Go.RowKit
set_option linter.unusedVariables false
set_option linter.unusedSimpArgs false
set_option maxRecDepth 100000
/-- A byte's digit; 0 behind the end. -/
def dg (L : List UInt8) (j : Nat) : Nat := if j < L.length then (L.getD j 0).toNat + 1 else 0
theorem dg_lt (L : List UInt8) (j : Nat) : dg L j < 257 := by
  have := (L.getD j 0).toNat_lt
  unfold dg; split <;> omega
theorem dg_in (L : List UInt8) (j : Nat) (h : j < L.length) : dg L j = (L.getD j 0).toNat + 1 := if_pos h
theorem dg_out (L : List UInt8) (j : Nat) (h : L.length ≤ j) : dg L j = 0 := if_neg (by omega)
/-- The first digits of an end, as a number. -/
def key (L : List UInt8) (p : Nat) : Nat → Nat
  | 0 => 0
  | k + 1 => key L p k * 257 + dg L (p + k)
theorem key_lt (L : List UInt8) (p : Nat) : ∀ k, key L p k < 257 ^ k
  | 0 => by simp [key]
  | k + 1 => by
    have := key_lt L p k
    have := dg_lt L (p + k)
    rw [key, Nat.pow_succ]; omega
theorem key_add (L : List UInt8) (p k : Nat) : ∀ m, key L p (k + m) = key L p k * 257 ^ m + key L (p + k) m
  | 0 => by simp [key]
  | m + 1 => by
    rw [← Nat.add_assoc, key, key_add L p k m, key, Nat.pow_succ, Nat.add_assoc p k m, Nat.add_mul, Nat.mul_assoc]; omega
theorem lex_lt {a b c d X : Nat} (hb : b < X) (hd : d < X) : a * X + b < c * X + d ↔ a < c ∨ (a = c ∧ b < d) := by
  rcases Nat.lt_trichotomy a c with h | h | h
  · have : (a + 1) * X ≤ c * X := Nat.mul_le_mul_right _ h
    rw [Nat.add_mul] at this
    constructor
    · intro _; exact .inl h
    · intro _; omega
  · subst h
    constructor
    · intro h2; exact .inr ⟨rfl, by omega⟩
    · rintro (h2 | ⟨-, h2⟩) <;> omega
  · have : (c + 1) * X ≤ a * X := Nat.mul_le_mul_right _ h
    rw [Nat.add_mul] at this
    constructor
    · intro _; omega
    · rintro (h2 | ⟨h2, -⟩) <;> omega
theorem key_cmp2 (L : List UInt8) (p q k m : Nat) : key L p (k + m) < key L q (k + m) ↔ key L p k < key L q k ∨ (key L p k = key L q k ∧ key L (p + k) m < key L (q + k) m) := by
  rw [key_add, key_add]
  exact lex_lt (key_lt _ _ _) (key_lt _ _ _)
theorem key_eq2 (L : List UInt8) (p q k m : Nat) : key L p (k + m) = key L q (k + m) ↔ key L p k = key L q k ∧ key L (p + k) m = key L (q + k) m := by
  have h1 := key_cmp2 L p q k m
  have h2 := key_cmp2 L q p k m
  constructor
  · intro h
    rcases Nat.lt_trichotomy (key L p k) (key L q k) with e | e | e
    · have := h1.2 (.inl e); omega
    · refine ⟨e, ?_⟩
      rcases Nat.lt_trichotomy (key L (p + k) m) (key L (q + k) m) with f | f | f
      · have := h1.2 (.inr ⟨e, f⟩); omega
      · exact f
      · have := h2.2 (.inr ⟨e.symm, f⟩); omega
    · have := h2.2 (.inl e); omega
  · rintro ⟨e, f⟩
    rw [key_add, key_add, e, f]
theorem key_up (L : List UInt8) (p q k m : Nat) (hk : k ≤ m) (h : key L p k < key L q k) : key L p m < key L q m := by
  have := (key_cmp2 L p q k (m - k)).2 (.inl h)
  rwa [show k + (m - k) = m by omega] at this
theorem key_down (L : List UInt8) (p q k m : Nat) (hk : k ≤ m) (h : key L p m = key L q m) : key L p k = key L q k := by
  have h2 := key_eq2 L p q k (m - k)
  rw [show k + (m - k) = m by omega] at h2
  exact (h2.1 h).1
theorem key_one (L : List UInt8) (p : Nat) : key L p 1 = dg L p := by simp [key]
theorem key_out (L : List UInt8) (p : Nat) (h : L.length ≤ p) : ∀ k, key L p k = 0
  | 0 => rfl
  | k + 1 => by rw [key, key_out L p h k, dg_out L _ (by omega)]
/-- Two ends that are alike are one. -/
theorem key_inj (L : List UInt8) (p q m : Nat) (hp : p ≤ L.length) (hq : q ≤ L.length) (hm : L.length ≤ m) (h : key L p m = key L q m) : p = q := by
  have main : ∀ p q, p < q → q ≤ L.length → key L p m ≠ key L q m := by
    intro p q hlt hq h
    have h1 := key_down L p q (L.length - q + 1) m (by omega) h
    have h2 := (key_eq2 L p q (L.length - q) 1).1 h1
    rw [key_one, key_one, show q + (L.length - q) = L.length by omega, dg_out L L.length (Nat.le_refl _), dg_in L _ (by omega)] at h2
    omega
  rcases Nat.lt_trichotomy p q with h1 | h1 | h1
  · exact absurd h (main p q h1 hq)
  · exact h1
  · exact absurd h.symm (main q p h1 hp)
/-- All places, once each. -/
theorem pig : ∀ (n : Nat) (l : List Nat), l.Nodup → (∀ x ∈ l, x < n) → l.length ≤ n ∧ (l.length = n → ∀ x, x < n → x ∈ l)
  | 0, l, hn, hl => by
    have : l = [] := List.eq_nil_iff_forall_not_mem.2 (fun x hx => by have := hl x hx; omega)
    subst this
    exact ⟨Nat.le_refl _, fun _ x hx => by omega⟩
  | n + 1, l, hn, hl => by
    by_cases h : n ∈ l
    · have ih := pig n (l.erase n) (hn.erase n) (fun x hx => by
        have h1 := (hn.mem_erase_iff).1 hx
        have := hl x h1.2
        have := h1.1
        omega)
      have hlen := List.length_erase_of_mem h
      have hpos : 0 < l.length := List.length_pos_of_mem h
      refine ⟨by omega, fun he x hx => ?_⟩
      by_cases e : x = n
      · rw [e]; exact h
      · exact List.mem_of_mem_erase (ih.2 (by omega) x (by omega))
    · have ih := pig n l hn (fun x hx => by
        have := hl x hx
        have : x ≠ n := fun e => h (e ▸ hx)
        omega)
      exact ⟨by omega, fun he => by omega⟩
/-- All ends of a text, in order. -/
structure IsSuf (L : List UInt8) (a : List Nat) : Prop where
  len : a.length = L.length
  lt : ∀ x ∈ a, x < L.length
  inc : a.Pairwise (fun p q => key L p L.length < key L q L.length)
theorem IsSuf.nodup {L : List UInt8} {a : List Nat} (h : IsSuf L a) : a.Nodup := h.inc.imp (fun hpq e => by rw [e] at hpq; exact Nat.lt_irrefl _ hpq)
theorem IsSuf.mem {L : List UInt8} {a : List Nat} (h : IsSuf L a) (x : Nat) (hx : x < L.length) : x ∈ a := (pig L.length a h.nodup h.lt).2 h.len x hx
theorem inc_eq (f : Nat → Nat) : ∀ a b : List Nat, a.Pairwise (fun p q => f p < f q) → b.Pairwise (fun p q => f p < f q) → (∀ x, x ∈ a ↔ x ∈ b) → a = b
  | [], [], _, _, _ => rfl
  | [], y :: b, _, _, h => by have := (h y).2 (List.mem_cons_self ..); cases this
  | x :: a, [], _, _, h => by have := (h x).1 (List.mem_cons_self ..); cases this
  | x :: a, y :: b, ha, hb, h => by
    rw [List.pairwise_cons] at ha hb
    have hxy : x = y := by
      rcases List.mem_cons.1 ((h x).1 (List.mem_cons_self ..)) with e | e
      · exact e
      · rcases List.mem_cons.1 ((h y).2 (List.mem_cons_self ..)) with e2 | e2
        · exact e2.symm
        · have := hb.1 x e; have := ha.1 y e2; omega
    subst hxy
    rw [inc_eq f a b ha.2 hb.2 (fun z => ?_)]
    constructor
    · intro hz
      rcases List.mem_cons.1 ((h z).1 (List.mem_cons_of_mem _ hz)) with e | e
      · subst e; exact absurd (ha.1 _ hz) (Nat.lt_irrefl _)
      · exact e
    · intro hz
      rcases List.mem_cons.1 ((h z).2 (List.mem_cons_of_mem _ hz)) with e | e
      · subst e; exact absurd (hb.1 _ hz) (Nat.lt_irrefl _)
      · exact e
theorem IsSuf.unique {L : List UInt8} {a b : List Nat} (ha : IsSuf L a) (hb : IsSuf L b) : a = b :=
  inc_eq _ a b ha.inc hb.inc (fun x => ⟨fun h => hb.mem x (ha.lt x h), fun h => ha.mem x (hb.lt x h)⟩)
/-- Places in order by their first k digits, and the rank of each. -/
structure Rkd (L : List UInt8) (k : Nat) (a rank : List Nat) : Prop where
  al : a.length = L.length
  lt : ∀ x ∈ a, x < L.length
  nd : a.Nodup
  inc : a.Pairwise (fun p q => key L p k ≤ key L q k)
  rl : rank.length = L.length
  rk : ∀ i j, i < L.length → j < L.length → (rank.getD i 0 < rank.getD j 0 ↔ key L i k < key L j k)
  r0 : 0 < L.length → rank.getD (a.getD 0 0) 0 = 0
  r1 : ∀ j, j + 1 < L.length → rank.getD (a.getD (j + 1) 0) 0 ≤ rank.getD (a.getD j 0) 0 + 1
theorem getD_mem (a : List Nat) (j : Nat) (h : j < a.length) : a.getD j 0 ∈ a := by
  rw [List.getD_eq_getElem?_getD, List.getElem?_eq_getElem h]; exact List.getElem_mem h
theorem pw_getD {R : Nat → Nat → Prop} {a : List Nat} (h : a.Pairwise R) (i j : Nat) (hij : i < j) (hj : j < a.length) : R (a.getD i 0) (a.getD j 0) := by
  have := List.pairwise_iff_getElem.1 h i j (by omega) hj hij
  rw [List.getD_eq_getElem?_getD, List.getElem?_eq_getElem (by omega), List.getD_eq_getElem?_getD, List.getElem?_eq_getElem hj]
  exact this
theorem pw_of_getD {R : Nat → Nat → Prop} {a : List Nat} (h : ∀ i j, i < j → j < a.length → R (a.getD i 0) (a.getD j 0)) : a.Pairwise R := by
  rw [List.pairwise_iff_getElem]
  intro i j hi hj hij
  have := h i j hij hj
  rwa [List.getD_eq_getElem?_getD, List.getElem?_eq_getElem (by omega), List.getD_eq_getElem?_getD, List.getElem?_eq_getElem hj] at this
theorem Rkd.rank_le {L : List UInt8} {k : Nat} {a rank : List Nat} (h : Rkd L k a rank) : ∀ j, j < L.length → rank.getD (a.getD j 0) 0 ≤ j
  | 0, hj => by rw [h.r0 hj]; exact Nat.le_refl _
  | j + 1, hj => by have := h.rank_le j (by omega); have := h.r1 j hj; omega
theorem Rkd.rank_lt {L : List UInt8} {k : Nat} {a rank : List Nat} (h : Rkd L k a rank) (i : Nat) (hi : i < L.length) : rank.getD i 0 < L.length := by
  have hm := (pig L.length a h.nd h.lt).2 h.al i hi
  obtain ⟨j, hj, e⟩ := List.getElem_of_mem hm
  have := h.rank_le j (by have := h.al; omega)
  rw [List.getD_eq_getElem?_getD (l := a), List.getElem?_eq_getElem hj] at this
  simp only [Option.getD_some, e] at this
  have := h.al
  omega
/-- All told apart, or as many digits as there are: then all is in order. -/
theorem Rkd.suf {L : List UInt8} {k : Nat} {a rank : List Nat} (h : Rkd L k a rank) (hd : L.length ≤ k ∨ L.length - 1 ≤ rank.getD (a.getD (L.length - 1) 0) 0) : IsSuf L a := by
  refine ⟨h.al, h.lt, pw_of_getD (fun i j hij hj => ?_)⟩
  have hal := h.al
  have li := h.lt _ (getD_mem a i (by omega))
  have lj := h.lt _ (getD_mem a j hj)
  have hle := pw_getD h.inc i j hij hj
  have hne : a.getD i 0 ≠ a.getD j 0 := pw_getD h.nd i j hij hj
  by_cases hk : L.length ≤ k
  · have h1 : key L (a.getD i 0) L.length ≠ key L (a.getD j 0) L.length := fun e => hne (key_inj L _ _ L.length (by omega) (by omega) (Nat.le_refl _) e)
    rcases Nat.lt_trichotomy (key L (a.getD i 0) L.length) (key L (a.getD j 0) L.length) with e | e | e
    · exact e
    · exact absurd e h1
    · have := key_up L _ _ L.length k hk e; omega
  · have hd : L.length - 1 ≤ rank.getD (a.getD (L.length - 1) 0) 0 := by rcases hd with hd | hd <;> omega
    have all : ∀ d j, j + d = L.length - 1 → j < L.length → j ≤ rank.getD (a.getD j 0) 0 := by
      intro d
      induction d with
      | zero => intro j hj _; have : j = L.length - 1 := by omega
                subst this; exact hd
      | succ d ih =>
        intro j hj hl
        have h1 := ih (j + 1) (by omega) (by omega)
        have h2 := h.r1 j (by omega)
        omega
    have e1 := all (L.length - 1 - i) i (by omega) (by omega)
    have e2 := all (L.length - 1 - j) j (by omega) (by omega)
    have e3 := h.rank_le i (by omega)
    exact key_up L _ _ k L.length (by omega) ((h.rk _ _ li lj).1 (by omega))
end Go.Proofs.Ytpkidedepcnoaaa
