import Derived.Test.YtedmnlfbmmlcbaaJ15
import Derived.Laws.IdiomStrings
/- Layers 19 and 21, the document's: how much two ends share. -/
namespace Go.Proofs.Ytedmnlfbmmlcbaa
open Go.ChangeShapes Go.WideShapes Go.ChangeAt Go.RowKit
set_option linter.unusedVariables false
set_option linter.unusedSimpArgs false
set_option maxRecDepth 100000
def sM (l : List UInt8) : ByteArray := ⟨l.toArray⟩
theorem sM_size (l : List UInt8) : (sM l).size = l.length := by unfold sM; simp [ByteArray.size]
theorem sM_list (l : List UInt8) : (sM l).data.toList = l := by unfold sM; simp
theorem sM_self (s : ByteArray) : sM s.data.toList = s := by unfold sM; cases s; rfl
/-- How many bytes two rows share. -/
def com : List UInt8 → List UInt8 → Nat
  | a :: xs, b :: ys => if a = b then com xs ys + 1 else 0
  | _, _ => 0
theorem com_le : ∀ a b : List UInt8, com a b ≤ a.length ∧ com a b ≤ b.length
  | [], b => by simp [com]
  | a :: xs, [] => by simp [com]
  | a :: xs, b :: ys => by
    have := com_le xs ys
    rw [com]
    split <;> simp <;> omega
theorem com_iff : ∀ (a b : List UInt8) (n : Nat), n ≤ com a b → (n < com a b ↔ n < a.length ∧ n < b.length ∧ a.getD n 0 = b.getD n 0)
  | [], b, n, h => by simp [com]
  | a :: xs, [], n, h => by simp [com]
  | a :: xs, b :: ys, n, h => by
    rw [com] at h ⊢
    by_cases e : a = b
    · rw [if_pos e] at h ⊢
      cases n with
      | zero => simp [e]
      | succ n =>
        have := com_iff xs ys n (by omega)
        simp only [List.length_cons, List.getD_cons_succ]
        rw [show n + 1 < com xs ys + 1 ↔ n < com xs ys by omega, this]
        simp only [Nat.add_lt_add_iff_right]
    · rw [if_neg e] at h ⊢
      have : n = 0 := by omega
      subst this
      simp [e]
theorem drop_getD8 (l : List UInt8) (i n : Nat) : (l.drop i).getD n 0 = l.getD (i + n) 0 := by simp [List.getD_eq_getElem?_getD, List.getElem?_drop]
/-- How many bytes the ends at two places share. -/
def comAt (L : List UInt8) (i k : Nat) : Nat := com (L.drop i) (L.drop k)
theorem comAt_iff (L : List UInt8) (i k n : Nat) (h : n ≤ comAt L i k) : n < comAt L i k ↔ i + n < L.length ∧ k + n < L.length ∧ L.getD (i + n) 0 = L.getD (k + n) 0 := by
  unfold comAt at h ⊢
  rw [com_iff _ _ n h, drop_getD8, drop_getD8, List.length_drop, List.length_drop]
  constructor <;> rintro ⟨h1, h2, h3⟩ <;> exact ⟨by omega, by omega, h3⟩
theorem comAt_le (L : List UInt8) (i k : Nat) : comAt L i k ≤ L.length - i ∧ comAt L i k ≤ L.length - k := by
  have := com_le (L.drop i) (L.drop k)
  rw [List.length_drop, List.length_drop] at this
  exact this
theorem ixM (L : List UInt8) (i : Int) (n : Nat) (hi : i = n) (hn : n < L.length) (W : World) : (Instr.index 9 (.string (sM L)) (.int .i64 i)).run Try.prog W = .ok (.int .u8 ((L.getD n 0).toNat : Int)) W := by
  subst hi
  have hsz := sM_size L
  rw [run_index_string (h := Try.underlying9), dif_pos ⟨by omega, by omega⟩]
  have : (sM L)[((n : Int)).toNat]'(by omega) = L.getD n 0 := by
    show (sM L).data[((n : Int)).toNat]'_ = _
    simp [sM, List.getD_eq_getElem?_getD, hn]
  rw [this]
end Go.Proofs.Ytedmnlfbmmlcbaa

/- Layer 19: ends in order (mathematics). -/
namespace Go.Proofs.Ytedmnlfbmmlcbaa
open Go.ChangeShapes Go.WideShapes Go.ChangeAt Go.RowKit
set_option linter.unusedVariables false
set_option linter.unusedSimpArgs false
set_option maxRecDepth 100000
/-- A byte's digit; 0 behind the end. -/
def dg (L : List UInt8) (j : Nat) : Nat := if j < L.length then (L.getD j 0).toNat + 1 else 0
theorem dg_lt (L : List UInt8) (j : Nat) : dg L j < 257 := by
  have := (L.getD j 0).toNat_lt
  unfold dg; split <;> omega
theorem dg_in (L : List UInt8) (j : Nat) (h : j < L.length) : dg L j = (L.getD j 0).toNat + 1 := if_pos h
theorem dg_out (L : List UInt8) (j : Nat) (h : L.length ≤ j) : dg L j = 0 := if_neg (by omega)
/-- The first digits of an end, as a number. -/
def key (L : List UInt8) (p : Nat) : Nat → Nat
  | 0 => 0
  | k + 1 => key L p k * 257 + dg L (p + k)
theorem key_lt (L : List UInt8) (p : Nat) : ∀ k, key L p k < 257 ^ k
  | 0 => by simp [key]
  | k + 1 => by
    have := key_lt L p k
    have := dg_lt L (p + k)
    rw [key, Nat.pow_succ]; omega
theorem key_add (L : List UInt8) (p k : Nat) : ∀ m, key L p (k + m) = key L p k * 257 ^ m + key L (p + k) m
  | 0 => by simp [key]
  | m + 1 => by
    rw [← Nat.add_assoc, key, key_add L p k m, key, Nat.pow_succ, Nat.add_assoc p k m, Nat.add_mul, Nat.mul_assoc]; omega
theorem lex_lt {a b c d X : Nat} (hb : b < X) (hd : d < X) : a * X + b < c * X + d ↔ a < c ∨ (a = c ∧ b < d) := by
  rcases Nat.lt_trichotomy a c with h | h | h
  · have : (a + 1) * X ≤ c * X := Nat.mul_le_mul_right _ h
    rw [Nat.add_mul] at this
    constructor
    · intro _; exact .inl h
    · intro _; omega
  · subst h
    constructor
    · intro h2; exact .inr ⟨rfl, by omega⟩
    · rintro (h2 | ⟨-, h2⟩) <;> omega
  · have : (c + 1) * X ≤ a * X := Nat.mul_le_mul_right _ h
    rw [Nat.add_mul] at this
    constructor
    · intro _; omega
    · rintro (h2 | ⟨h2, -⟩) <;> omega
theorem key_cmp2 (L : List UInt8) (p q k m : Nat) : key L p (k + m) < key L q (k + m) ↔ key L p k < key L q k ∨ (key L p k = key L q k ∧ key L (p + k) m < key L (q + k) m) := by
  rw [key_add, key_add]
  exact lex_lt (key_lt _ _ _) (key_lt _ _ _)
theorem key_eq2 (L : List UInt8) (p q k m : Nat) : key L p (k + m) = key L q (k + m) ↔ key L p k = key L q k ∧ key L (p + k) m = key L (q + k) m := by
  have h1 := key_cmp2 L p q k m
  have h2 := key_cmp2 L q p k m
  constructor
  · intro h
    rcases Nat.lt_trichotomy (key L p k) (key L q k) with e | e | e
    · have := h1.2 (.inl e); omega
    · refine ⟨e, ?_⟩
      rcases Nat.lt_trichotomy (key L (p + k) m) (key L (q + k) m) with f | f | f
      · have := h1.2 (.inr ⟨e, f⟩); omega
      · exact f
      · have := h2.2 (.inr ⟨e.symm, f⟩); omega
    · have := h2.2 (.inl e); omega
  · rintro ⟨e, f⟩
    rw [key_add, key_add, e, f]
theorem key_up (L : List UInt8) (p q k m : Nat) (hk : k ≤ m) (h : key L p k < key L q k) : key L p m < key L q m := by
  have := (key_cmp2 L p q k (m - k)).2 (.inl h)
  rwa [show k + (m - k) = m by omega] at this
theorem key_down (L : List UInt8) (p q k m : Nat) (hk : k ≤ m) (h : key L p m = key L q m) : key L p k = key L q k := by
  have h2 := key_eq2 L p q k (m - k)
  rw [show k + (m - k) = m by omega] at h2
  exact (h2.1 h).1
theorem key_one (L : List UInt8) (p : Nat) : key L p 1 = dg L p := by simp [key]
theorem key_out (L : List UInt8) (p : Nat) (h : L.length ≤ p) : ∀ k, key L p k = 0
  | 0 => rfl
  | k + 1 => by rw [key, key_out L p h k, dg_out L _ (by omega)]
/-- Two ends that are alike are one. -/
theorem key_inj (L : List UInt8) (p q m : Nat) (hp : p ≤ L.length) (hq : q ≤ L.length) (hm : L.length ≤ m) (h : key L p m = key L q m) : p = q := by
  have main : ∀ p q, p < q → q ≤ L.length → key L p m ≠ key L q m := by
    intro p q hlt hq h
    have h1 := key_down L p q (L.length - q + 1) m (by omega) h
    have h2 := (key_eq2 L p q (L.length - q) 1).1 h1
    rw [key_one, key_one, show q + (L.length - q) = L.length by omega, dg_out L L.length (Nat.le_refl _), dg_in L _ (by omega)] at h2
    omega
  rcases Nat.lt_trichotomy p q with h1 | h1 | h1
  · exact absurd h (main p q h1 hq)
  · exact h1
  · exact absurd h.symm (main q p h1 hp)
/-- All places, once each. -/
theorem pig : ∀ (n : Nat) (l : List Nat), l.Nodup → (∀ x ∈ l, x < n) → l.length ≤ n ∧ (l.length = n → ∀ x, x < n → x ∈ l)
  | 0, l, hn, hl => by
    have : l = [] := List.eq_nil_iff_forall_not_mem.2 (fun x hx => by have := hl x hx; omega)
    subst this
    exact ⟨Nat.le_refl _, fun _ x hx => by omega⟩
  | n + 1, l, hn, hl => by
    by_cases h : n ∈ l
    · have ih := pig n (l.erase n) (hn.erase n) (fun x hx => by
        have h1 := (hn.mem_erase_iff).1 hx
        have := hl x h1.2
        have := h1.1
        omega)
      have hlen := List.length_erase_of_mem h
      have hpos : 0 < l.length := List.length_pos_of_mem h
      refine ⟨by omega, fun he x hx => ?_⟩
      by_cases e : x = n
      · rw [e]; exact h
      · exact List.mem_of_mem_erase (ih.2 (by omega) x (by omega))
    · have ih := pig n l hn (fun x hx => by
        have := hl x hx
        have : x ≠ n := fun e => h (e ▸ hx)
        omega)
      exact ⟨by omega, fun he => by omega⟩
/-- All ends of a text, in order. -/
structure IsSuf (L : List UInt8) (a : List Nat) : Prop where
  len : a.length = L.length
  lt : ∀ x ∈ a, x < L.length
  inc : a.Pairwise (fun p q => key L p L.length < key L q L.length)
theorem IsSuf.nodup {L : List UInt8} {a : List Nat} (h : IsSuf L a) : a.Nodup := h.inc.imp (fun hpq e => by rw [e] at hpq; exact Nat.lt_irrefl _ hpq)
theorem IsSuf.mem {L : List UInt8} {a : List Nat} (h : IsSuf L a) (x : Nat) (hx : x < L.length) : x ∈ a := (pig L.length a h.nodup h.lt).2 h.len x hx
theorem inc_eq (f : Nat → Nat) : ∀ a b : List Nat, a.Pairwise (fun p q => f p < f q) → b.Pairwise (fun p q => f p < f q) → (∀ x, x ∈ a ↔ x ∈ b) → a = b
  | [], [], _, _, _ => rfl
  | [], y :: b, _, _, h => by have := (h y).2 (List.mem_cons_self ..); cases this
  | x :: a, [], _, _, h => by have := (h x).1 (List.mem_cons_self ..); cases this
  | x :: a, y :: b, ha, hb, h => by
    rw [List.pairwise_cons] at ha hb
    have hxy : x = y := by
      rcases List.mem_cons.1 ((h x).1 (List.mem_cons_self ..)) with e | e
      · exact e
      · rcases List.mem_cons.1 ((h y).2 (List.mem_cons_self ..)) with e2 | e2
        · exact e2.symm
        · have := hb.1 x e; have := ha.1 y e2; omega
    subst hxy
    rw [inc_eq f a b ha.2 hb.2 (fun z => ?_)]
    constructor
    · intro hz
      rcases List.mem_cons.1 ((h z).1 (List.mem_cons_of_mem _ hz)) with e | e
      · subst e; exact absurd (ha.1 _ hz) (Nat.lt_irrefl _)
      · exact e
    · intro hz
      rcases List.mem_cons.1 ((h z).2 (List.mem_cons_of_mem _ hz)) with e | e
      · subst e; exact absurd (hb.1 _ hz) (Nat.lt_irrefl _)
      · exact e
theorem IsSuf.unique {L : List UInt8} {a b : List Nat} (ha : IsSuf L a) (hb : IsSuf L b) : a = b :=
  inc_eq _ a b ha.inc hb.inc (fun x => ⟨fun h => hb.mem x (ha.lt x h), fun h => ha.mem x (hb.lt x h)⟩)
/-- Places in order by their first k digits, and the rank of each. -/
structure Rkd (L : List UInt8) (k : Nat) (a rank : List Nat) : Prop where
  al : a.length = L.length
  lt : ∀ x ∈ a, x < L.length
  nd : a.Nodup
  inc : a.Pairwise (fun p q => key L p k ≤ key L q k)
  rl : rank.length = L.length
  rk : ∀ i j, i < L.length → j < L.length → (rank.getD i 0 < rank.getD j 0 ↔ key L i k < key L j k)
  r0 : 0 < L.length → rank.getD (a.getD 0 0) 0 = 0
  r1 : ∀ j, j + 1 < L.length → rank.getD (a.getD (j + 1) 0) 0 ≤ rank.getD (a.getD j 0) 0 + 1
theorem getD_mem (a : List Nat) (j : Nat) (h : j < a.length) : a.getD j 0 ∈ a := by
  rw [List.getD_eq_getElem?_getD, List.getElem?_eq_getElem h]; exact List.getElem_mem h
theorem pw_getD {R : Nat → Nat → Prop} {a : List Nat} (h : a.Pairwise R) (i j : Nat) (hij : i < j) (hj : j < a.length) : R (a.getD i 0) (a.getD j 0) := by
  have := List.pairwise_iff_getElem.1 h i j (by omega) hj hij
  rw [List.getD_eq_getElem?_getD, List.getElem?_eq_getElem (by omega), List.getD_eq_getElem?_getD, List.getElem?_eq_getElem hj]
  exact this
theorem pw_of_getD {R : Nat → Nat → Prop} {a : List Nat} (h : ∀ i j, i < j → j < a.length → R (a.getD i 0) (a.getD j 0)) : a.Pairwise R := by
  rw [List.pairwise_iff_getElem]
  intro i j hi hj hij
  have := h i j hij hj
  rwa [List.getD_eq_getElem?_getD, List.getElem?_eq_getElem (by omega), List.getD_eq_getElem?_getD, List.getElem?_eq_getElem hj] at this
theorem Rkd.rank_le {L : List UInt8} {k : Nat} {a rank : List Nat} (h : Rkd L k a rank) : ∀ j, j < L.length → rank.getD (a.getD j 0) 0 ≤ j
  | 0, hj => by rw [h.r0 hj]; exact Nat.le_refl _
  | j + 1, hj => by have := h.rank_le j (by omega); have := h.r1 j hj; omega
theorem Rkd.rank_lt {L : List UInt8} {k : Nat} {a rank : List Nat} (h : Rkd L k a rank) (i : Nat) (hi : i < L.length) : rank.getD i 0 < L.length := by
  have hm := (pig L.length a h.nd h.lt).2 h.al i hi
  obtain ⟨j, hj, e⟩ := List.getElem_of_mem hm
  have := h.rank_le j (by have := h.al; omega)
  rw [List.getD_eq_getElem?_getD (l := a), List.getElem?_eq_getElem hj] at this
  simp only [Option.getD_some, e] at this
  have := h.al
  omega
/-- All told apart, or as many digits as there are: then all is in order. -/
theorem Rkd.suf {L : List UInt8} {k : Nat} {a rank : List Nat} (h : Rkd L k a rank) (hd : L.length ≤ k ∨ L.length - 1 ≤ rank.getD (a.getD (L.length - 1) 0) 0) : IsSuf L a := by
  refine ⟨h.al, h.lt, pw_of_getD (fun i j hij hj => ?_)⟩
  have hal := h.al
  have li := h.lt _ (getD_mem a i (by omega))
  have lj := h.lt _ (getD_mem a j hj)
  have hle := pw_getD h.inc i j hij hj
  have hne : a.getD i 0 ≠ a.getD j 0 := pw_getD h.nd i j hij hj
  by_cases hk : L.length ≤ k
  · have h1 : key L (a.getD i 0) L.length ≠ key L (a.getD j 0) L.length := fun e => hne (key_inj L _ _ L.length (by omega) (by omega) (Nat.le_refl _) e)
    rcases Nat.lt_trichotomy (key L (a.getD i 0) L.length) (key L (a.getD j 0) L.length) with e | e | e
    · exact e
    · exact absurd e h1
    · have := key_up L _ _ L.length k hk e; omega
  · have hd : L.length - 1 ≤ rank.getD (a.getD (L.length - 1) 0) 0 := by rcases hd with hd | hd <;> omega
    have all : ∀ d j, j + d = L.length - 1 → j < L.length → j ≤ rank.getD (a.getD j 0) 0 := by
      intro d
      induction d with
      | zero => intro j hj _; have : j = L.length - 1 := by omega
                subst this; exact hd
      | succ d ih =>
        intro j hj hl
        have h1 := ih (j + 1) (by omega) (by omega)
        have h2 := h.r1 j (by omega)
        omega
    have e1 := all (L.length - 1 - i) i (by omega) (by omega)
    have e2 := all (L.length - 1 - j) j (by omega) (by omega)
    have e3 := h.rank_le i (by omega)
    exact key_up L _ _ k L.length (by omega) ((h.rk _ _ li lj).1 (by omega))
end Go.Proofs.Ytedmnlfbmmlcbaa

/- Layer 19: places laid by how many are less; twice as many digits (mathematics). -/
namespace Go.Proofs.Ytedmnlfbmmlcbaa
open Go.ChangeShapes Go.WideShapes Go.ChangeAt Go.RowKit
set_option linter.unusedVariables false
set_option linter.unusedSimpArgs false
set_option maxRecDepth 100000
/-- How many have a lesser rank, and the same one. -/
def bel (rk : Nat → Nat) (l : List Nat) (r : Nat) : Nat := l.countP (fun x => decide (rk x < r))
def sam (rk : Nat → Nat) (l : List Nat) (r : Nat) : Nat := l.countP (fun x => decide (rk x = r))
theorem bel_succ (rk : Nat → Nat) (r : Nat) : ∀ l : List Nat, bel rk l (r + 1) = bel rk l r + sam rk l r
  | [] => rfl
  | x :: l => by
    have ih := bel_succ rk r l
    unfold bel sam at ih ⊢
    rw [List.countP_cons, List.countP_cons, List.countP_cons, ih]
    by_cases h1 : rk x < r
    · have h2 : rk x < r + 1 := by omega
      have h3 : ¬ rk x = r := by omega
      simp [h1, h2, h3]; omega
    · by_cases h3 : rk x = r
      · simp [h3]; omega
      · have h2 : ¬ rk x < r + 1 := by omega
        simp [h1, h2, h3]
theorem bel_zero (rk : Nat → Nat) (l : List Nat) : bel rk l 0 = 0 := by simp [bel]
theorem bel_mono (rk : Nat → Nat) (l : List Nat) (r : Nat) : ∀ d, bel rk l r ≤ bel rk l (r + d)
  | 0 => Nat.le_refl _
  | d + 1 => by
    have := bel_mono rk l r d
    have := bel_succ rk (r + d) l
    rw [← Nat.add_assoc]; omega
theorem bel_le (rk : Nat → Nat) (l : List Nat) (r : Nat) : bel rk l r ≤ l.length := List.countP_le_length
theorem takeN (l : List Nat) (k : Nat) (h : k < l.length) : l.take (k + 1) = l.take k ++ [l.getD k 0] := by
  rw [List.take_succ_eq_append_getElem h]; simp [List.getD_eq_getElem?_getD, h]
theorem sam_take (rk : Nat → Nat) (l : List Nat) (t r : Nat) (h : t < l.length) : sam rk (l.take (t + 1)) r = sam rk (l.take t) r + if rk (l.getD t 0) = r then 1 else 0 := by
  unfold sam
  rw [takeN l t h, List.countP_append]
  by_cases e : rk (l.getD t 0) = r <;> simp [e]
theorem sam_mono (rk : Nat → Nat) (l : List Nat) (r t : Nat) : ∀ d, sam rk (l.take t) r ≤ sam rk (l.take (t + d)) r
  | 0 => Nat.le_refl _
  | d + 1 => by
    have ih := sam_mono rk l r t d
    by_cases h : t + d < l.length
    · have := sam_take rk l (t + d) r h
      rw [← Nat.add_assoc]; omega
    · rw [List.take_of_length_le (show l.length ≤ t + (d + 1) by omega)]
      rw [List.take_of_length_le (show l.length ≤ t + d by omega)] at ih
      exact ih
/-- Where the place at s is laid. -/
def posn (rk : Nat → Nat) (l : List Nat) (s : Nat) : Nat := bel rk l (rk (l.getD s 0)) + sam rk (l.take s) (rk (l.getD s 0))
theorem sam_lt (rk : Nat → Nat) (l : List Nat) (s s' : Nat) (h : s < s') (hs : s < l.length) : sam rk (l.take s) (rk (l.getD s 0)) < sam rk (l.take s') (rk (l.getD s 0)) := by
  have h1 := sam_take rk l s (rk (l.getD s 0)) hs
  rw [if_pos rfl] at h1
  have h2 := sam_mono rk l (rk (l.getD s 0)) (s + 1) (s' - (s + 1))
  rw [show s + 1 + (s' - (s + 1)) = s' by omega] at h2
  omega
theorem sam_all (rk : Nat → Nat) (l : List Nat) (s : Nat) (hs : s < l.length) : sam rk (l.take s) (rk (l.getD s 0)) < sam rk l (rk (l.getD s 0)) := by
  have := sam_lt rk l s l.length hs hs
  rwa [List.take_length] at this
theorem posn_lt (rk : Nat → Nat) (l : List Nat) (s : Nat) (hs : s < l.length) : posn rk l s < l.length := by
  have h1 := sam_all rk l s hs
  have h2 := bel_succ rk (rk (l.getD s 0)) l
  have h3 := bel_le rk l (rk (l.getD s 0) + 1)
  unfold posn; omega
theorem posn_inc (rk : Nat → Nat) (l : List Nat) (s s' : Nat) (hs : s < l.length) (hs' : s' < l.length) (h : rk (l.getD s 0) < rk (l.getD s' 0) ∨ (rk (l.getD s 0) = rk (l.getD s' 0) ∧ s < s')) : posn rk l s < posn rk l s' := by
  rcases h with h | ⟨h, hlt⟩
  · have h1 := sam_all rk l s hs
    have h2 := bel_succ rk (rk (l.getD s 0)) l
    have h3 := bel_mono rk l (rk (l.getD s 0) + 1) (rk (l.getD s' 0) - (rk (l.getD s 0) + 1))
    rw [show rk (l.getD s 0) + 1 + (rk (l.getD s' 0) - (rk (l.getD s 0) + 1)) = rk (l.getD s' 0) by omega] at h3
    unfold posn; omega
  · have := sam_lt rk l s s' hlt hs
    unfold posn
    rw [← h]; omega
theorem posn_inj (rk : Nat → Nat) (l : List Nat) (s s' : Nat) (hs : s < l.length) (hs' : s' < l.length) (h : posn rk l s = posn rk l s') : s = s' := by
  rcases Nat.lt_trichotomy (rk (l.getD s 0)) (rk (l.getD s' 0)) with e | e | e
  · have := posn_inc rk l s s' hs hs' (.inl e); omega
  · rcases Nat.lt_trichotomy s s' with f | f | f
    · have := posn_inc rk l s s' hs hs' (.inr ⟨e, f⟩); omega
    · exact f
    · have := posn_inc rk l s' s hs' hs (.inr ⟨e.symm, f⟩); omega
  · have := posn_inc rk l s' s hs' hs (.inl e); omega
/-- So many places are laid. -/
structure Laid (rk : Nat → Nat) (l : List Nat) (m t : Nat) (cnt out : List Nat) : Prop where
  cl : cnt.length = m
  ol : out.length = l.length
  cn : ∀ r, r < m → cnt.getD r 0 = bel rk l r + sam rk (l.take t) r
  pl : ∀ s, s < t → s < l.length → out.getD (posn rk l s) 0 = l.getD s 0
theorem setN_getD (l : List Nat) (a b : Nat) (x : Nat) (ha : a < l.length) : (l.set a x).getD b 0 = if a = b then x else l.getD b 0 := by
  simp only [List.getD_eq_getElem?_getD, List.getElem?_set]
  by_cases h : a = b
  · subst h; simp [ha]
  · simp [h]
theorem Laid.step {rk : Nat → Nat} {l : List Nat} {m t : Nat} {cnt out : List Nat} (h : Laid rk l m t cnt out) (ht : t < l.length) (r : Nat) (hr : rk (l.getD t 0) = r) (hm : r < m) (C : Nat) (hC : cnt.getD r 0 = C) :
    C < out.length ∧ Laid rk l m (t + 1) (cnt.set r (C + 1)) (out.set C (l.getD t 0)) := by
  have e1 : C = posn rk l t := by rw [← hC, h.cn r hm, posn, hr]
  have hlt := posn_lt rk l t ht
  have hCl : C < out.length := by rw [h.ol]; omega
  refine ⟨hCl, ⟨by rw [List.length_set]; exact h.cl, by rw [List.length_set]; exact h.ol, fun q hq => ?_, fun s hs hs2 => ?_⟩⟩
  · rw [setN_getD _ _ _ _ (by rw [h.cl]; exact hm), sam_take rk l t q ht, hr]
    by_cases e : r = q
    · subst e
      have := h.cn r hm
      rw [if_pos rfl, if_pos rfl]; omega
    · rw [if_neg e, if_neg e]; exact h.cn q hq
  · rw [setN_getD _ _ _ _ hCl]
    by_cases e : s = t
    · subst e; rw [if_pos e1]
    · rw [if_neg (fun h2 => e (posn_inj rk l t s ht hs2 (by omega)).symm)]
      exact h.pl s (by omega) hs2
/-- All are laid: in order by rank, those of one rank as they were. -/
theorem Laid.done {rk : Nat → Nat} {l : List Nat} {m : Nat} {cnt out : List Nat} (h : Laid rk l m l.length cnt out) :
    (∀ j, j < l.length → ∃ s, s < l.length ∧ posn rk l s = j ∧ out.getD j 0 = l.getD s 0) := by
  intro j hj
  have hnd : ((List.range l.length).map (posn rk l)).Nodup := by
    refine List.pairwise_iff_getElem.2 (fun a b ha hb hab => ?_)
    simp only [List.length_map, List.length_range] at ha hb
    simp only [List.getElem_map, List.getElem_range]
    intro e
    have := posn_inj rk l a b ha hb e
    omega
  have hmem := (pig l.length _ hnd (fun x hx => by
    obtain ⟨s, hs, rfl⟩ := List.mem_map.1 hx
    exact posn_lt rk l s (List.mem_range.1 hs))).2 (by simp) j hj
  obtain ⟨s, hs, e⟩ := List.mem_map.1 hmem
  have hs := List.mem_range.1 hs
  exact ⟨s, hs, e, by rw [← e]; exact h.pl s hs hs⟩
theorem Laid.sorted {rk : Nat → Nat} {l : List Nat} {m : Nat} {cnt out : List Nat} (h : Laid rk l m l.length cnt out) {Q : Nat → Nat → Prop} (hQ : l.Pairwise Q) :
    out.Pairwise (fun p q => rk p < rk q ∨ (rk p = rk q ∧ Q p q)) := by
  refine pw_of_getD (fun i j hij hj => ?_)
  have hol := h.ol
  obtain ⟨s, hs, e1, e2⟩ := h.done i (by omega)
  obtain ⟨s', hs', e3, e4⟩ := h.done j (by omega)
  rw [e2, e4]
  rcases Nat.lt_trichotomy (rk (l.getD s 0)) (rk (l.getD s' 0)) with e | e | e
  · exact .inl e
  · refine .inr ⟨e, ?_⟩
    rcases Nat.lt_trichotomy s s' with f | f | f
    · exact pw_getD hQ s s' f hs'
    · subst f; omega
    · have := posn_inc rk l s' s hs' hs (.inr ⟨e.symm, f⟩); omega
  · have := posn_inc rk l s' s hs' hs (.inl e); omega
theorem Laid.mem {rk : Nat → Nat} {l : List Nat} {m : Nat} {cnt out : List Nat} (h : Laid rk l m l.length cnt out) (x : Nat) (hx : x ∈ out) : x ∈ l := by
  obtain ⟨j, hj, e⟩ := List.getElem_of_mem hx
  obtain ⟨s, hs, -, e2⟩ := h.done j (by have := h.ol; omega)
  rw [List.getD_eq_getElem?_getD, List.getElem?_eq_getElem hj, Option.getD_some, e] at e2
  rw [e2]; exact getD_mem l s hs
/-- The places by what stands so far behind them. -/
def turnL (n k : Nat) (a : List Nat) : List Nat := List.range' (n - k) k ++ (a.filter (fun i => decide (k ≤ i))).map (fun i => i - k)
theorem sub_pw (k : Nat) {R S : Nat → Nat → Prop} (a : List Nat) (h : a.Pairwise R) (hRS : ∀ p q, k ≤ p → k ≤ q → R p q → S (p - k) (q - k)) : ((a.filter (fun i => decide (k ≤ i))).map (fun i => i - k)).Pairwise S := by
  rw [List.pairwise_map]
  have h1 : (a.filter (fun i => decide (k ≤ i))).Pairwise R := h.filter _
  have h2 : (a.filter (fun i => decide (k ≤ i))).Pairwise (fun p q => k ≤ p ∧ k ≤ q) := by
    rw [List.pairwise_iff_getElem]
    intro i j hi hj _
    have m1 := List.getElem_mem hi
    have m2 := List.getElem_mem hj
    simp only [List.mem_filter, decide_eq_true_eq] at m1 m2
    exact ⟨m1.2, m2.2⟩
  exact (h1.and h2).imp (fun ⟨hr, h3, h4⟩ => hRS _ _ h3 h4 hr)
theorem turnL_ok {L : List UInt8} {k : Nat} {a : List Nat} (hal : a.length = L.length) (hlt : ∀ x ∈ a, x < L.length) (hnd : a.Nodup) (hinc : a.Pairwise (fun p q => key L p k ≤ key L q k)) (hk : 0 < k) (hkn : k < L.length) :
    (∀ x ∈ turnL L.length k a, x < L.length) ∧ (turnL L.length k a).Pairwise (fun p q => p ≠ q ∧ key L (p + k) k ≤ key L (q + k) k) := by
  refine ⟨fun x hx => ?_, ?_⟩
  · rcases List.mem_append.1 hx with h | h
    · have := List.mem_range'_1.1 h; omega
    · obtain ⟨y, hy, rfl⟩ := List.mem_map.1 h
      have := hlt y (List.mem_filter.1 hy).1
      omega
  · rw [turnL, List.pairwise_append]
    refine ⟨?_, ?_, fun x hx y hy => ?_⟩
    · rw [List.pairwise_iff_getElem]
      intro i j hi hj hij
      simp only [List.length_range'] at hi hj
      simp only [List.getElem_range', Nat.one_mul]
      exact ⟨by omega, by rw [key_out L _ (by omega), key_out L _ (by omega)]; exact Nat.le_refl _⟩
    · refine sub_pw k a (hnd.and hinc) (fun p q hp hq h => ?_)
      rw [show p - k + k = p by omega, show q - k + k = q by omega]
      exact ⟨fun e => h.1 (by omega), h.2⟩
    · have h1 := List.mem_range'_1.1 hx
      obtain ⟨z, hz, rfl⟩ := List.mem_map.1 hy
      have h2 := hlt z (List.mem_filter.1 hz).1
      have h3 : k ≤ z := by simpa using (List.mem_filter.1 hz).2
      exact ⟨by omega, by rw [key_out L _ (by omega)]; exact Nat.zero_le _⟩
theorem filter_len (k : Nat) : ∀ a : List Nat, (a.filter (fun i => decide (k ≤ i))).length + (a.filter (fun i => decide (i < k))).length = a.length
  | [] => rfl
  | x :: a => by
    have ih := filter_len k a
    by_cases h : k ≤ x
    · have h2 : ¬ x < k := by omega
      simp [h, h2]; omega
    · have h2 : x < k := by omega
      simp [h, h2]; omega
theorem turnL_len {n k : Nat} {a : List Nat} (hal : a.length = n) (hlt : ∀ x ∈ a, x < n) (hnd : a.Nodup) (hkn : k ≤ n) : (turnL n k a).length = n := by
  have h1 := filter_len k a
  have h2 : (a.filter (fun i => decide (i < k))).length ≤ k := (pig k _ (hnd.filter _) (fun x hx => by simpa using (List.mem_filter.1 hx).2)).1
  have h3 : ((a.filter (fun i => decide (k ≤ i))).map (fun i => i - k)).length ≤ n - k := by
    refine (pig (n - k) _ ?_ (fun x hx => ?_)).1
    · exact sub_pw k a hnd (fun p q hp hq h e => h (by omega))
    · obtain ⟨y, hy, rfl⟩ := List.mem_map.1 hx
      have h3 := hlt y (List.mem_filter.1 hy).1
      have h4 : k ≤ y := by simpa using (List.mem_filter.1 hy).2
      omega
  rw [List.length_map] at h3
  rw [turnL, List.length_append, List.length_map, List.length_range']
  omega
/-- The rank of an end; one behind the text is less than all. -/
def ofI (rank : List Nat) (n i : Nat) : Int := if i < n then (rank.getD i 0 : Int) else -1
theorem Rkd.of_eq {L : List UInt8} {k : Nat} {a rank : List Nat} (h : Rkd L k a rank) (hk : 0 < k) (i j : Nat) : ofI rank L.length i = ofI rank L.length j ↔ key L i k = key L j k := by
  have pos : ∀ i, i < L.length → 0 < key L i k := by
    intro i hi
    have h1 := key_add L i 1 (k - 1)
    rw [show 1 + (k - 1) = k by omega, key_one, dg_in L i hi] at h1
    have h2 : 0 < 257 ^ (k - 1) := Nat.pow_pos (by decide)
    have h3 : 1 * 257 ^ (k - 1) ≤ ((L.getD i 0).toNat + 1) * 257 ^ (k - 1) := Nat.mul_le_mul_right _ (by omega)
    omega
  unfold ofI
  by_cases hi : i < L.length
  · by_cases hj : j < L.length
    · rw [if_pos hi, if_pos hj]
      have h1 := h.rk i j hi hj
      have h2 := h.rk j i hj hi
      constructor
      · intro e; omega
      · intro e; omega
    · rw [if_pos hi, if_neg hj, key_out L j (by omega)]
      have := pos i hi
      constructor <;> intro e <;> omega
  · by_cases hj : j < L.length
    · rw [if_neg hi, if_pos hj, key_out L i (by omega)]
      have := pos j hj
      constructor <;> intro e <;> omega
    · rw [if_neg hi, if_neg hj, key_out L i (by omega), key_out L j (by omega)]
      simp
/-- New ranks: one more wherever a place is greater than the one ahead. -/
def chg (c : Nat → Nat → Bool) (b : List Nat) : Nat → Nat
  | 0 => 0
  | j + 1 => chg c b j + if c (b.getD j 0) (b.getD (j + 1) 0) = true then 1 else 0
theorem chg_mono (c : Nat → Nat → Bool) (b : List Nat) (i : Nat) : ∀ d, chg c b i ≤ chg c b (i + d)
  | 0 => Nat.le_refl _
  | d + 1 => by have := chg_mono c b i d; rw [← Nat.add_assoc, chg]; omega
theorem chg_lt (K : Nat → Nat) (c : Nat → Nat → Bool) (hc : ∀ p q, c p q = true ↔ K p ≠ K q) (b : List Nat) (hb : b.Pairwise (fun p q => K p ≤ K q)) : ∀ d i, i + d < b.length → (chg c b i < chg c b (i + d) ↔ K (b.getD i 0) < K (b.getD (i + d) 0))
  | 0, i, h => by simp
  | d + 1, i, h => by
    have ih := chg_lt K c hc b hb d i (by omega)
    have hm := chg_mono c b i d
    have k1 : K (b.getD (i + d) 0) ≤ K (b.getD (i + d + 1) 0) := pw_getD hb _ _ (Nat.lt_succ_self _) (by omega)
    have k2 : K (b.getD i 0) ≤ K (b.getD (i + d) 0) := by
      by_cases e : d = 0
      · subst e; exact Nat.le_refl _
      · exact pw_getD hb _ _ (by omega) (by omega)
    rw [← Nat.add_assoc, chg]
    by_cases e : K (b.getD (i + d) 0) = K (b.getD (i + d + 1) 0)
    · have : ¬ c (b.getD (i + d) 0) (b.getD (i + d + 1) 0) = true := fun h2 => (hc _ _).1 h2 e
      rw [if_neg this, Nat.add_zero, ih]; omega
    · rw [if_pos ((hc _ _).2 e)]
      constructor <;> intro _ <;> omega
/-- Twice as many digits. -/
theorem Rkd.twice {L : List UInt8} {k : Nat} {a rank b next : List Nat} (h : Rkd L k a rank) (hk : 0 < k) (hb : b.length = L.length) (hlt : ∀ x ∈ b, x < L.length)
    (hs : b.Pairwise (fun p q => rank.getD p 0 < rank.getD q 0 ∨ (rank.getD p 0 = rank.getD q 0 ∧ (p ≠ q ∧ key L (p + k) k ≤ key L (q + k) k))))
    (hn : next.length = L.length) (c : Nat → Nat → Bool) (hc : ∀ p q, c p q = decide (ofI rank L.length p ≠ ofI rank L.length q ∨ ofI rank L.length (p + k) ≠ ofI rank L.length (q + k))) (hx : ∀ j, j < L.length → next.getD (b.getD j 0) 0 = chg c b j) : Rkd L (k * 2) b next := by
  have e2 : k * 2 = k + k := by omega
  rw [e2]
  have hnd : b.Nodup := hs.imp (fun h e => by
    rcases h with h | h
    · rw [e] at h; omega
    · exact h.2.1 e)
  have hall := (pig L.length b hnd hlt).2 hb
  have hinc : b.Pairwise (fun p q => key L p (k + k) ≤ key L q (k + k)) := by
    refine pw_of_getD (fun i j hij hj => ?_)
    have li := hlt _ (getD_mem b i (by omega))
    have lj := hlt _ (getD_mem b j hj)
    have h1 := pw_getD hs i j hij hj
    have h2 := key_cmp2 L (b.getD j 0) (b.getD i 0) k k
    have h3 := h.rk _ _ li lj
    have h4 := h.rk _ _ lj li
    apply Classical.byContradiction
    intro hn
    rcases h2.1 (by omega) with h5 | ⟨h5, h6⟩
    · have := h4.2 h5; omega
    · omega
  have hcK : ∀ p q, c p q = true ↔ key L p (k + k) ≠ key L q (k + k) := by
    intro p q
    have h1 := h.of_eq hk p q
    have h2 := h.of_eq hk (p + k) (q + k)
    have h3 := key_eq2 L p q k k
    rw [hc, decide_eq_true_iff]
    constructor
    · rintro (h4 | h4) e
      · exact h4 (h1.2 (h3.1 e).1)
      · exact h4 (h2.2 (h3.1 e).2)
    · intro h4
      by_cases h5 : ofI rank L.length p = ofI rank L.length q
      · exact .inr (fun h6 => h4 (h3.2 ⟨h1.1 h5, h2.1 h6⟩))
      · exact .inl h5
  refine ⟨hb, hlt, hnd, hinc, hn, fun i j hi hj => ?_, fun h0 => hx 0 h0, fun j hj => ?_⟩
  · obtain ⟨x, hxl, ex⟩ := List.getElem_of_mem (hall i hi)
    obtain ⟨y, hyl, ey⟩ := List.getElem_of_mem (hall j hj)
    have gx : b.getD x 0 = i := by rw [List.getD_eq_getElem?_getD, List.getElem?_eq_getElem hxl, Option.getD_some, ex]
    have gy : b.getD y 0 = j := by rw [List.getD_eq_getElem?_getD, List.getElem?_eq_getElem hyl, Option.getD_some, ey]
    have hx1 := hx x (by omega)
    have hy1 := hx y (by omega)
    rw [gx] at hx1
    rw [gy] at hy1
    rw [hx1, hy1]
    by_cases hxy : x ≤ y
    · have := chg_lt (fun p => key L p (k + k)) c hcK b hinc (y - x) x (by omega)
      rw [show x + (y - x) = y by omega, gx, gy] at this
      exact this
    · have h1 := chg_mono c b y (x - y)
      rw [show y + (x - y) = x by omega] at h1
      have h2 := pw_getD hinc y x (by omega) hxl
      rw [gx, gy] at h2
      constructor <;> intro _ <;> omega
  · rw [hx (j + 1) hj, hx j (by omega), chg]
    split <;> omega
end Go.Proofs.Ytedmnlfbmmlcbaa
