/- Layer 19: places laid by how many are less; twice as many digits (mathematics). -/
import Derived.Test.YtpkidedepcnoaaaU1
namespace Go.Proofs.Ytpkidedepcnoaaa
open Go.ChangeShapes Go.WideShapes Go.ChangeAt Go.RowKit
set_option linter.unusedVariables false
set_option linter.unusedSimpArgs false
set_option maxRecDepth 100000
/-- How many have a lesser rank, and the same one. -/
def bel (rk : Nat → Nat) (l : List Nat) (r : Nat) : Nat := l.countP (fun x => decide (rk x < r))
def sam (rk : Nat → Nat) (l : List Nat) (r : Nat) : Nat := l.countP (fun x => decide (rk x = r))
theorem bel_succ (rk : Nat → Nat) (r : Nat) : ∀ l : List Nat, bel rk l (r + 1) = bel rk l r + sam rk l r
  | [] => rfl
  | x :: l => by
    have ih := bel_succ rk r l
    unfold bel sam at ih ⊢
    rw [List.countP_cons, List.countP_cons, List.countP_cons, ih]
    by_cases h1 : rk x < r
    · have h2 : rk x < r + 1 := by omega
      have h3 : ¬ rk x = r := by omega
      simp [h1, h2, h3]; omega
    · by_cases h3 : rk x = r
      · simp [h3]; omega
      · have h2 : ¬ rk x < r + 1 := by omega
        simp [h1, h2, h3]
theorem bel_zero (rk : Nat → Nat) (l : List Nat) : bel rk l 0 = 0 := by simp [bel]
theorem bel_mono (rk : Nat → Nat) (l : List Nat) (r : Nat) : ∀ d, bel rk l r ≤ bel rk l (r + d)
  | 0 => Nat.le_refl _
  | d + 1 => by
    have := bel_mono rk l r d
    have := bel_succ rk (r + d) l
    rw [← Nat.add_assoc]; omega
theorem bel_le (rk : Nat → Nat) (l : List Nat) (r : Nat) : bel rk l r ≤ l.length := List.countP_le_length
theorem takeN (l : List Nat) (k : Nat) (h : k < l.length) : l.take (k + 1) = l.take k ++ [l.getD k 0] := by
  rw [List.take_succ_eq_append_getElem h]; simp [List.getD_eq_getElem?_getD, h]
theorem sam_take (rk : Nat → Nat) (l : List Nat) (t r : Nat) (h : t < l.length) : sam rk (l.take (t + 1)) r = sam rk (l.take t) r + if rk (l.getD t 0) = r then 1 else 0 := by
  unfold sam
  rw [takeN l t h, List.countP_append]
  by_cases e : rk (l.getD t 0) = r <;> simp [e]
theorem sam_mono (rk : Nat → Nat) (l : List Nat) (r t : Nat) : ∀ d, sam rk (l.take t) r ≤ sam rk (l.take (t + d)) r
  | 0 => Nat.le_refl _
  | d + 1 => by
    have ih := sam_mono rk l r t d
    by_cases h : t + d < l.length
    · have := sam_take rk l (t + d) r h
      rw [← Nat.add_assoc]; omega
    · rw [List.take_of_length_le (show l.length ≤ t + (d + 1) by omega)]
      rw [List.take_of_length_le (show l.length ≤ t + d by omega)] at ih
      exact ih
/-- Where the place at s is laid. -/
def posn (rk : Nat → Nat) (l : List Nat) (s : Nat) : Nat := bel rk l (rk (l.getD s 0)) + sam rk (l.take s) (rk (l.getD s 0))
theorem sam_lt (rk : Nat → Nat) (l : List Nat) (s s' : Nat) (h : s < s') (hs : s < l.length) : sam rk (l.take s) (rk (l.getD s 0)) < sam rk (l.take s') (rk (l.getD s 0)) := by
  have h1 := sam_take rk l s (rk (l.getD s 0)) hs
  rw [if_pos rfl] at h1
  have h2 := sam_mono rk l (rk (l.getD s 0)) (s + 1) (s' - (s + 1))
  rw [show s + 1 + (s' - (s + 1)) = s' by omega] at h2
  omega
theorem sam_all (rk : Nat → Nat) (l : List Nat) (s : Nat) (hs : s < l.length) : sam rk (l.take s) (rk (l.getD s 0)) < sam rk l (rk (l.getD s 0)) := by
  have := sam_lt rk l s l.length hs hs
  rwa [List.take_length] at this
theorem posn_lt (rk : Nat → Nat) (l : List Nat) (s : Nat) (hs : s < l.length) : posn rk l s < l.length := by
  have h1 := sam_all rk l s hs
  have h2 := bel_succ rk (rk (l.getD s 0)) l
  have h3 := bel_le rk l (rk (l.getD s 0) + 1)
  unfold posn; omega
theorem posn_inc (rk : Nat → Nat) (l : List Nat) (s s' : Nat) (hs : s < l.length) (hs' : s' < l.length) (h : rk (l.getD s 0) < rk (l.getD s' 0) ∨ (rk (l.getD s 0) = rk (l.getD s' 0) ∧ s < s')) : posn rk l s < posn rk l s' := by
  rcases h with h | ⟨h, hlt⟩
  · have h1 := sam_all rk l s hs
    have h2 := bel_succ rk (rk (l.getD s 0)) l
    have h3 := bel_mono rk l (rk (l.getD s 0) + 1) (rk (l.getD s' 0) - (rk (l.getD s 0) + 1))
    rw [show rk (l.getD s 0) + 1 + (rk (l.getD s' 0) - (rk (l.getD s 0) + 1)) = rk (l.getD s' 0) by omega] at h3
    unfold posn; omega
  · have := sam_lt rk l s s' hlt hs
    unfold posn
    rw [← h]; omega
theorem posn_inj (rk : Nat → Nat) (l : List Nat) (s s' : Nat) (hs : s < l.length) (hs' : s' < l.length) (h : posn rk l s = posn rk l s') : s = s' := by
  rcases Nat.lt_trichotomy (rk (l.getD s 0)) (rk (l.getD s' 0)) with e | e | e
  · have := posn_inc rk l s s' hs hs' (.inl e); omega
  · rcases Nat.lt_trichotomy s s' with f | f | f
    · have := posn_inc rk l s s' hs hs' (.inr ⟨e, f⟩); omega
    · exact f
    · have := posn_inc rk l s' s hs' hs (.inr ⟨e.symm, f⟩); omega
  · have := posn_inc rk l s' s hs' hs (.inl e); omega
/-- So many places are laid. -/
structure Laid (rk : Nat → Nat) (l : List Nat) (m t : Nat) (cnt out : List Nat) : Prop where
  cl : cnt.length = m
  ol : out.length = l.length
  cn : ∀ r, r < m → cnt.getD r 0 = bel rk l r + sam rk (l.take t) r
  pl : ∀ s, s < t → s < l.length → out.getD (posn rk l s) 0 = l.getD s 0
theorem setN_getD (l : List Nat) (a b : Nat) (x : Nat) (ha : a < l.length) : (l.set a x).getD b 0 = if a = b then x else l.getD b 0 := by
  simp only [List.getD_eq_getElem?_getD, List.getElem?_set]
  by_cases h : a = b
  · subst h; simp [ha]
  · simp [h]
theorem Laid.step {rk : Nat → Nat} {l : List Nat} {m t : Nat} {cnt out : List Nat} (h : Laid rk l m t cnt out) (ht : t < l.length) (r : Nat) (hr : rk (l.getD t 0) = r) (hm : r < m) (C : Nat) (hC : cnt.getD r 0 = C) :
    C < out.length ∧ Laid rk l m (t + 1) (cnt.set r (C + 1)) (out.set C (l.getD t 0)) := by
  have e1 : C = posn rk l t := by rw [← hC, h.cn r hm, posn, hr]
  have hlt := posn_lt rk l t ht
  have hCl : C < out.length := by rw [h.ol]; omega
  refine ⟨hCl, ⟨by rw [List.length_set]; exact h.cl, by rw [List.length_set]; exact h.ol, fun q hq => ?_, fun s hs hs2 => ?_⟩⟩
  · rw [setN_getD _ _ _ _ (by rw [h.cl]; exact hm), sam_take rk l t q ht, hr]
    by_cases e : r = q
    · subst e
      have := h.cn r hm
      rw [if_pos rfl, if_pos rfl]; omega
    · rw [if_neg e, if_neg e]; exact h.cn q hq
  · rw [setN_getD _ _ _ _ hCl]
    by_cases e : s = t
    · subst e; rw [if_pos e1]
    · rw [if_neg (fun h2 => e (posn_inj rk l t s ht hs2 (by omega)).symm)]
      exact h.pl s (by omega) hs2
/-- All are laid: in order by rank, those of one rank as they were. -/
theorem Laid.done {rk : Nat → Nat} {l : List Nat} {m : Nat} {cnt out : List Nat} (h : Laid rk l m l.length cnt out) :
    (∀ j, j < l.length → ∃ s, s < l.length ∧ posn rk l s = j ∧ out.getD j 0 = l.getD s 0) := by
  intro j hj
  have hnd : ((List.range l.length).map (posn rk l)).Nodup := by
    refine List.pairwise_iff_getElem.2 (fun a b ha hb hab => ?_)
    simp only [List.length_map, List.length_range] at ha hb
    simp only [List.getElem_map, List.getElem_range]
    intro e
    have := posn_inj rk l a b ha hb e
    omega
  have hmem := (pig l.length _ hnd (fun x hx => by
    obtain ⟨s, hs, rfl⟩ := List.mem_map.1 hx
    exact posn_lt rk l s (List.mem_range.1 hs))).2 (by simp) j hj
  obtain ⟨s, hs, e⟩ := List.mem_map.1 hmem
  have hs := List.mem_range.1 hs
  exact ⟨s, hs, e, by rw [← e]; exact h.pl s hs hs⟩
theorem Laid.sorted {rk : Nat → Nat} {l : List Nat} {m : Nat} {cnt out : List Nat} (h : Laid rk l m l.length cnt out) {Q : Nat → Nat → Prop} (hQ : l.Pairwise Q) :
    out.Pairwise (fun p q => rk p < rk q ∨ (rk p = rk q ∧ Q p q)) := by
  refine pw_of_getD (fun i j hij hj => ?_)
  have hol := h.ol
  obtain ⟨s, hs, e1, e2⟩ := h.done i (by omega)
  obtain ⟨s', hs', e3, e4⟩ := h.done j (by omega)
  rw [e2, e4]
  rcases Nat.lt_trichotomy (rk (l.getD s 0)) (rk (l.getD s' 0)) with e | e | e
  · exact .inl e
  · refine .inr ⟨e, ?_⟩
    rcases Nat.lt_trichotomy s s' with f | f | f
    · exact pw_getD hQ s s' f hs'
    · subst f; omega
    · have := posn_inc rk l s' s hs' hs (.inr ⟨e.symm, f⟩); omega
  · have := posn_inc rk l s' s hs' hs (.inl e); omega
theorem Laid.mem {rk : Nat → Nat} {l : List Nat} {m : Nat} {cnt out : List Nat} (h : Laid rk l m l.length cnt out) (x : Nat) (hx : x ∈ out) : x ∈ l := by
  obtain ⟨j, hj, e⟩ := List.getElem_of_mem hx
  obtain ⟨s, hs, -, e2⟩ := h.done j (by have := h.ol; omega)
  rw [List.getD_eq_getElem?_getD, List.getElem?_eq_getElem hj, Option.getD_some, e] at e2
  rw [e2]; exact getD_mem l s hs
/-- The places by what stands so far behind them. -/
def turnL (n k : Nat) (a : List Nat) : List Nat := List.range' (n - k) k ++ (a.filter (fun i => decide (k ≤ i))).map (fun i => i - k)
theorem sub_pw (k : Nat) {R S : Nat → Nat → Prop} (a : List Nat) (h : a.Pairwise R) (hRS : ∀ p q, k ≤ p → k ≤ q → R p q → S (p - k) (q - k)) : ((a.filter (fun i => decide (k ≤ i))).map (fun i => i - k)).Pairwise S := by
  rw [List.pairwise_map]
  have h1 : (a.filter (fun i => decide (k ≤ i))).Pairwise R := h.filter _
  have h2 : (a.filter (fun i => decide (k ≤ i))).Pairwise (fun p q => k ≤ p ∧ k ≤ q) := by
    rw [List.pairwise_iff_getElem]
    intro i j hi hj _
    have m1 := List.getElem_mem hi
    have m2 := List.getElem_mem hj
    simp only [List.mem_filter, decide_eq_true_eq] at m1 m2
    exact ⟨m1.2, m2.2⟩
  exact (h1.and h2).imp (fun ⟨hr, h3, h4⟩ => hRS _ _ h3 h4 hr)
theorem turnL_ok {L : List UInt8} {k : Nat} {a : List Nat} (hal : a.length = L.length) (hlt : ∀ x ∈ a, x < L.length) (hnd : a.Nodup) (hinc : a.Pairwise (fun p q => key L p k ≤ key L q k)) (hk : 0 < k) (hkn : k < L.length) :
    (∀ x ∈ turnL L.length k a, x < L.length) ∧ (turnL L.length k a).Pairwise (fun p q => p ≠ q ∧ key L (p + k) k ≤ key L (q + k) k) := by
  refine ⟨fun x hx => ?_, ?_⟩
  · rcases List.mem_append.1 hx with h | h
    · have := List.mem_range'_1.1 h; omega
    · obtain ⟨y, hy, rfl⟩ := List.mem_map.1 h
      have := hlt y (List.mem_filter.1 hy).1
      omega
  · rw [turnL, List.pairwise_append]
    refine ⟨?_, ?_, fun x hx y hy => ?_⟩
    · rw [List.pairwise_iff_getElem]
      intro i j hi hj hij
      simp only [List.length_range'] at hi hj
      simp only [List.getElem_range', Nat.one_mul]
      exact ⟨by omega, by rw [key_out L _ (by omega), key_out L _ (by omega)]; exact Nat.le_refl _⟩
    · refine sub_pw k a (hnd.and hinc) (fun p q hp hq h => ?_)
      rw [show p - k + k = p by omega, show q - k + k = q by omega]
      exact ⟨fun e => h.1 (by omega), h.2⟩
    · have h1 := List.mem_range'_1.1 hx
      obtain ⟨z, hz, rfl⟩ := List.mem_map.1 hy
      have h2 := hlt z (List.mem_filter.1 hz).1
      have h3 : k ≤ z := by simpa using (List.mem_filter.1 hz).2
      exact ⟨by omega, by rw [key_out L _ (by omega)]; exact Nat.zero_le _⟩
theorem filter_len (k : Nat) : ∀ a : List Nat, (a.filter (fun i => decide (k ≤ i))).length + (a.filter (fun i => decide (i < k))).length = a.length
  | [] => rfl
  | x :: a => by
    have ih := filter_len k a
    by_cases h : k ≤ x
    · have h2 : ¬ x < k := by omega
      simp [h, h2]; omega
    · have h2 : x < k := by omega
      simp [h, h2]; omega
theorem turnL_len {n k : Nat} {a : List Nat} (hal : a.length = n) (hlt : ∀ x ∈ a, x < n) (hnd : a.Nodup) (hkn : k ≤ n) : (turnL n k a).length = n := by
  have h1 := filter_len k a
  have h2 : (a.filter (fun i => decide (i < k))).length ≤ k := (pig k _ (hnd.filter _) (fun x hx => by simpa using (List.mem_filter.1 hx).2)).1
  have h3 : ((a.filter (fun i => decide (k ≤ i))).map (fun i => i - k)).length ≤ n - k := by
    refine (pig (n - k) _ ?_ (fun x hx => ?_)).1
    · exact sub_pw k a hnd (fun p q hp hq h e => h (by omega))
    · obtain ⟨y, hy, rfl⟩ := List.mem_map.1 hx
      have h3 := hlt y (List.mem_filter.1 hy).1
      have h4 : k ≤ y := by simpa using (List.mem_filter.1 hy).2
      omega
  rw [List.length_map] at h3
  rw [turnL, List.length_append, List.length_map, List.length_range']
  omega
/-- The rank of an end; one behind the text is less than all. -/
def ofI (rank : List Nat) (n i : Nat) : Int := if i < n then (rank.getD i 0 : Int) else -1
theorem Rkd.of_eq {L : List UInt8} {k : Nat} {a rank : List Nat} (h : Rkd L k a rank) (hk : 0 < k) (i j : Nat) : ofI rank L.length i = ofI rank L.length j ↔ key L i k = key L j k := by
  have pos : ∀ i, i < L.length → 0 < key L i k := by
    intro i hi
    have h1 := key_add L i 1 (k - 1)
    rw [show 1 + (k - 1) = k by omega, key_one, dg_in L i hi] at h1
    have h2 : 0 < 257 ^ (k - 1) := Nat.pow_pos (by decide)
    have h3 : 1 * 257 ^ (k - 1) ≤ ((L.getD i 0).toNat + 1) * 257 ^ (k - 1) := Nat.mul_le_mul_right _ (by omega)
    omega
  unfold ofI
  by_cases hi : i < L.length
  · by_cases hj : j < L.length
    · rw [if_pos hi, if_pos hj]
      have h1 := h.rk i j hi hj
      have h2 := h.rk j i hj hi
      constructor
      · intro e; omega
      · intro e; omega
    · rw [if_pos hi, if_neg hj, key_out L j (by omega)]
      have := pos i hi
      constructor <;> intro e <;> omega
  · by_cases hj : j < L.length
    · rw [if_neg hi, if_pos hj, key_out L i (by omega)]
      have := pos j hj
      constructor <;> intro e <;> omega
    · rw [if_neg hi, if_neg hj, key_out L i (by omega), key_out L j (by omega)]
      simp
/-- New ranks: one more wherever a place is greater than the one ahead. -/
def chg (c : Nat → Nat → Bool) (b : List Nat) : Nat → Nat
  | 0 => 0
  | j + 1 => chg c b j + if c (b.getD j 0) (b.getD (j + 1) 0) = true then 1 else 0
theorem chg_mono (c : Nat → Nat → Bool) (b : List Nat) (i : Nat) : ∀ d, chg c b i ≤ chg c b (i + d)
  | 0 => Nat.le_refl _
  | d + 1 => by have := chg_mono c b i d; rw [← Nat.add_assoc, chg]; omega
theorem chg_lt (K : Nat → Nat) (c : Nat → Nat → Bool) (hc : ∀ p q, c p q = true ↔ K p ≠ K q) (b : List Nat) (hb : b.Pairwise (fun p q => K p ≤ K q)) : ∀ d i, i + d < b.length → (chg c b i < chg c b (i + d) ↔ K (b.getD i 0) < K (b.getD (i + d) 0))
  | 0, i, h => by simp
  | d + 1, i, h => by
    have ih := chg_lt K c hc b hb d i (by omega)
    have hm := chg_mono c b i d
    have k1 : K (b.getD (i + d) 0) ≤ K (b.getD (i + d + 1) 0) := pw_getD hb _ _ (Nat.lt_succ_self _) (by omega)
    have k2 : K (b.getD i 0) ≤ K (b.getD (i + d) 0) := by
      by_cases e : d = 0
      · subst e; exact Nat.le_refl _
      · exact pw_getD hb _ _ (by omega) (by omega)
    rw [← Nat.add_assoc, chg]
    by_cases e : K (b.getD (i + d) 0) = K (b.getD (i + d + 1) 0)
    · have : ¬ c (b.getD (i + d) 0) (b.getD (i + d + 1) 0) = true := fun h2 => (hc _ _).1 h2 e
      rw [if_neg this, Nat.add_zero, ih]; omega
    · rw [if_pos ((hc _ _).2 e)]
      constructor <;> intro _ <;> omega
/-- Twice as many digits. -/
theorem Rkd.twice {L : List UInt8} {k : Nat} {a rank b next : List Nat} (h : Rkd L k a rank) (hk : 0 < k) (hb : b.length = L.length) (hlt : ∀ x ∈ b, x < L.length)
    (hs : b.Pairwise (fun p q => rank.getD p 0 < rank.getD q 0 ∨ (rank.getD p 0 = rank.getD q 0 ∧ (p ≠ q ∧ key L (p + k) k ≤ key L (q + k) k))))
    (hn : next.length = L.length) (c : Nat → Nat → Bool) (hc : ∀ p q, c p q = decide (ofI rank L.length p ≠ ofI rank L.length q ∨ ofI rank L.length (p + k) ≠ ofI rank L.length (q + k))) (hx : ∀ j, j < L.length → next.getD (b.getD j 0) 0 = chg c b j) : Rkd L (k * 2) b next := by
  have e2 : k * 2 = k + k := by omega
  rw [e2]
  have hnd : b.Nodup := hs.imp (fun h e => by
    rcases h with h | h
    · rw [e] at h; omega
    · exact h.2.1 e)
  have hall := (pig L.length b hnd hlt).2 hb
  have hinc : b.Pairwise (fun p q => key L p (k + k) ≤ key L q (k + k)) := by
    refine pw_of_getD (fun i j hij hj => ?_)
    have li := hlt _ (getD_mem b i (by omega))
    have lj := hlt _ (getD_mem b j hj)
    have h1 := pw_getD hs i j hij hj
    have h2 := key_cmp2 L (b.getD j 0) (b.getD i 0) k k
    have h3 := h.rk _ _ li lj
    have h4 := h.rk _ _ lj li
    apply Classical.byContradiction
    intro hn
    rcases h2.1 (by omega) with h5 | ⟨h5, h6⟩
    · have := h4.2 h5; omega
    · omega
  have hcK : ∀ p q, c p q = true ↔ key L p (k + k) ≠ key L q (k + k) := by
    intro p q
    have h1 := h.of_eq hk p q
    have h2 := h.of_eq hk (p + k) (q + k)
    have h3 := key_eq2 L p q k k
    rw [hc, decide_eq_true_iff]
    constructor
    · rintro (h4 | h4) e
      · exact h4 (h1.2 (h3.1 e).1)
      · exact h4 (h2.2 (h3.1 e).2)
    · intro h4
      by_cases h5 : ofI rank L.length p = ofI rank L.length q
      · exact .inr (fun h6 => h4 (h3.2 ⟨h1.1 h5, h2.1 h6⟩))
      · exact .inl h5
  refine ⟨hb, hlt, hnd, hinc, hn, fun i j hi hj => ?_, fun h0 => hx 0 h0, fun j hj => ?_⟩
  · obtain ⟨x, hxl, ex⟩ := List.getElem_of_mem (hall i hi)
    obtain ⟨y, hyl, ey⟩ := List.getElem_of_mem (hall j hj)
    have gx : b.getD x 0 = i := by rw [List.getD_eq_getElem?_getD, List.getElem?_eq_getElem hxl, Option.getD_some, ex]
    have gy : b.getD y 0 = j := by rw [List.getD_eq_getElem?_getD, List.getElem?_eq_getElem hyl, Option.getD_some, ey]
    have hx1 := hx x (by omega)
    have hy1 := hx y (by omega)
    rw [gx] at hx1
    rw [gy] at hy1
    rw [hx1, hy1]
    by_cases hxy : x ≤ y
    · have := chg_lt (fun p => key L p (k + k)) c hcK b hinc (y - x) x (by omega)
      rw [show x + (y - x) = y by omega, gx, gy] at this
      exact this
    · have h1 := chg_mono c b y (x - y)
      rw [show y + (x - y) = x by omega] at h1
      have h2 := pw_getD hinc y x (by omega) hxl
      rw [gx, gy] at h2
      constructor <;> intro _ <;> omega
  · rw [hx (j + 1) hj, hx j (by omega), chg]
    split <;> omega
end Go.Proofs.Ytpkidedepcnoaaa
