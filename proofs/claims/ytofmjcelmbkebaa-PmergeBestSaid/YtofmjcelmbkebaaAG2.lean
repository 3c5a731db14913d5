/- Layer 7: what is taken of each row; that it is nested, whole, and least. -/
import Derived.Test.YtofmjcelmbkebaaAG1
namespace Go.Proofs.Ytofmjcelmbkebaa.Pm
set_option linter.unusedVariables false
set_option maxRecDepth 100000

theorem symC_len (ws : List Int) : (symC ws).length = ws.length := by simp [symC]
theorem row_len (S : List Coin) (i : Nat) : (rowF S (i + 1)).length = S.length + (rowF S i).length / 2 := by
  show (mergeF S (pairsF (rowF S i))).length = _
  rw [mergeF_len, pairsF_len]
/-- What the first t coins of a row are. -/
theorem row_split (S : List Coin) (hs : ∀ c ∈ S, c.2 = true) (hA : Asc S) (i t : Nat) (ht : t ≤ (rowF S (i + 1)).length) :
    ∃ s p, s + p = t ∧ s ≤ S.length ∧ 2 * p ≤ (rowF S i).length ∧ cntS ((rowF S (i + 1)).take t) = s ∧ sumW ((rowF S (i + 1)).take t) = sumW (S.take s) + sumW ((rowF S i).take (2 * p)) ∧
      (∀ y ∈ (pairsF (rowF S i)).take p, ∀ x ∈ S.drop s, y.1 < x.1) ∧ (∀ x ∈ S.take s, x ∈ (rowF S (i + 1)).take t) := by
  have hl : (rowF S (i + 1)).length = S.length + (pairsF (rowF S i)).length := mergeF_len _ _
  obtain ⟨s, p, h1, h2, h3, h4, h5, h6, h7, h8⟩ := mrg_split _ S (pairsF (rowF S i)) (Nat.le_refl _) hs (pairs_sym _) hA (pairs_asc _ (row_asc S hA i)) t (by omega)
  rw [pairsF_len] at h3
  refine ⟨s, p, h1, h2, by omega, h4, ?_, h7, h8⟩
  rw [← pairs_take _ p (by omega)]
  exact h5
theorem mem_pair : ∀ (l : List Coin), Pos l → ∀ p, 2 * p ≤ l.length → ∀ c ∈ l.take (2 * p), ∃ y ∈ (pairsF l).take p, c.1 < y.1
  | l, h, 0, hp, c, hc => by simp at hc
  | [], h, p + 1, hp, c, hc => by simp at hc
  | [x], h, p + 1, hp, c, hc => by simp at hp; omega
  | x :: y :: r, h, p + 1, hp, c, hc => by
    rw [show 2 * (p + 1) = 2 * p + 1 + 1 by omega] at hc
    simp only [List.take_succ_cons, List.mem_cons] at hc
    have hx := h x (by simp)
    have hy := h y (by simp)
    simp only [List.length_cons] at hp
    rcases hc with rfl | rfl | hc
    · exact ⟨(c.1 + y.1, false), by simp [pairsF], by simp only; omega⟩
    · exact ⟨(x.1 + c.1, false), by simp [pairsF], by simp only; omega⟩
    · obtain ⟨z, hz, hlt⟩ := mem_pair r (fun z hz => h z (by simp [hz])) p (by omega) c hc
      exact ⟨z, by simp only [pairsF, List.take_succ_cons]; exact List.mem_cons_of_mem _ hz, hlt⟩
theorem cnt_le (S : List Coin) (hs : ∀ c ∈ S, c.2 = true) (hA : Asc S) (i t : Nat) (ht : t ≤ (rowF S i).length) : cntS ((rowF S i).take t) ≤ S.length ∧ cntS ((rowF S i).take t) ≤ t ∧ ∀ x ∈ S.take (cntS ((rowF S i).take t)), x ∈ (rowF S i).take t := by
  cases i with
  | zero =>
    have e : cntS ((rowF S 0).take t) = t := by
      show cntS (S.take t) = t
      rw [cntS_all _ (fun c hc => hs c (List.mem_of_mem_take hc)), List.length_take_of_le (show t ≤ S.length from ht)]
    rw [e]
    exact ⟨ht, Nat.le_refl _, fun x hx => hx⟩
  | succ i =>
    obtain ⟨s, p, h1, h2, h3, h4, h5, h7, h8⟩ := row_split S hs hA i t ht
    rw [h4]; exact ⟨h2, by omega, h8⟩
/-- The row ahead gives no more symbols. -/
theorem nest (S : List Coin) (hs : ∀ c ∈ S, c.2 = true) (hA : Asc S) (hP : Pos S) (i t : Nat) (ht : t ≤ (rowF S (i + 1)).length) :
    ∀ s, s = cntS ((rowF S (i + 1)).take t) → 2 * (t - s) ≤ (rowF S i).length ∧ cntS ((rowF S i).take (2 * (t - s))) ≤ s := by
  intro s hsd
  obtain ⟨s', p, h1, h2, h3, h4, h5, h7, h8⟩ := row_split S hs hA i t ht
  rw [h4] at hsd; subst hsd
  have ep : t - s = p := by omega
  rw [ep]
  refine ⟨h3, ?_⟩
  apply Classical.byContradiction
  intro hn
  obtain ⟨g1, g2, g3⟩ := cnt_le S hs hA i (2 * p) h3
  have hlt : s < S.length := by omega
  have hm : S[s] ∈ (rowF S i).take (2 * p) := g3 _ (by
    rw [List.mem_take_iff_getElem]
    exact ⟨s, by omega, rfl⟩)
  obtain ⟨y, hy, hxy⟩ := mem_pair _ (row_pos S hP i) p h3 _ hm
  have := h7 y hy S[s] (by
    rw [List.mem_drop_iff_getElem]
    exact ⟨0, by simpa using hlt, by simp⟩)
  omega
theorem row_most (S : List Coin) (h2 : 2 ≤ S.length) : ∀ i, (rowF S i).length ≤ 2 * S.length - 1
  | 0 => by show S.length ≤ _; omega
  | i + 1 => by rw [row_len]; have := row_most S h2 i; omega
/-- All symbols are among the first ones. -/
theorem top_all (S : List Coin) (hs : ∀ c ∈ S, c.2 = true) (hA : Asc S) (hP : Pos S) (h2 : 2 ≤ S.length) : ∀ i, 2 * S.length - 2 ≤ (rowF S i).length → cntS ((rowF S i).take (2 * S.length - 2)) = S.length
  | 0, h => by
    have e : (rowF S 0).length = S.length := rfl
    show cntS (S.take _) = _
    rw [cntS_all _ (fun c hc => hs c (List.mem_of_mem_take hc)), List.length_take_of_le (by rw [← e]; exact h)]
    omega
  | i + 1, h => by
    obtain ⟨n1, n2⟩ := nest S hs hA hP i _ h _ rfl
    obtain ⟨g1, g2, g3⟩ := cnt_le S hs hA (i + 1) _ h
    have hm := row_most S h2 i
    have hl := row_len S i
    obtain ⟨s, hsd⟩ : ∃ s, cntS ((rowF S (i + 1)).take (2 * S.length - 2)) = s := ⟨_, rfl⟩
    rw [hsd] at n1 n2 g1 g2 ⊢
    by_cases hlow : s = S.length
    · exact hlow
    · have : s + 1 = S.length := by omega
      have e : 2 * (2 * S.length - 2 - s) = 2 * S.length - 2 := by omega
      rw [e] at n1 n2
      have ih := top_all S hs hA hP h2 i n1
      rw [ih] at n2
      omega
theorem row_short (S : List Coin) (h1 : 2 ≤ S.length) : ∀ i, 2 ^ i * (2 * S.length - 1 - (rowF S i).length) < S.length
  | 0 => by show 2 ^ 0 * (2 * S.length - 1 - S.length) < _; omega
  | i + 1 => by
    have ih := row_short S h1 i
    have hl := row_len S i
    have hm := row_most S h1 i
    have h : 2 * (2 * S.length - 1 - (rowF S (i + 1)).length) ≤ 2 * S.length - 1 - (rowF S i).length := by omega
    calc 2 ^ (i + 1) * (2 * S.length - 1 - (rowF S (i + 1)).length) = 2 ^ i * (2 * (2 * S.length - 1 - (rowF S (i + 1)).length)) := by rw [Nat.pow_succ, Nat.mul_assoc]
      _ ≤ 2 ^ i * (2 * S.length - 1 - (rowF S i).length) := Nat.mul_le_mul_left _ h
      _ < _ := ih
theorem row_enough (S : List Coin) (h1 : 2 ≤ S.length) (i : Nat) (h : S.length ≤ 2 ^ (i + 1)) : 2 * S.length - 2 ≤ (rowF S i).length := by
  have hs := row_short S h1 i
  apply Classical.byContradiction
  intro hn
  have : 2 ≤ 2 * S.length - 1 - (rowF S i).length := by omega
  have h2 : 2 ^ i * 2 ≤ 2 ^ i * (2 * S.length - 1 - (rowF S i).length) := Nat.mul_le_mul_left _ this
  rw [Nat.pow_succ] at h
  omega

/-- How many symbols are taken of each row, from the last one on. -/
def takes (S : List Coin) : Nat → Nat → List Nat
  | 0, t => [cntS ((rowF S 0).take t)]
  | i + 1, t => cntS ((rowF S (i + 1)).take t) :: takes S i (2 * (t - cntS ((rowF S (i + 1)).take t)))
def lenAt : List Nat → Nat → Nat
  | [], _ => 0
  | s :: r, j => (if j < s then 1 else 0) + lenAt r j
def units : List Nat → Nat
  | [] => 0
  | s :: r => 2 ^ r.length * s + units r
def Desc : List Nat → Prop
  | [] => True
  | s :: r => (∀ x ∈ r, x ≤ s) ∧ Desc r
def wsum (S : List Coin) : List Nat → Int
  | [] => 0
  | s :: r => sumW (S.take s) + wsum S r
theorem takes_len (S : List Coin) : ∀ i t, (takes S i t).length = i + 1
  | 0, t => rfl
  | i + 1, t => by simp only [takes, List.length_cons, takes_len S i]
theorem takes_facts (S : List Coin) (hs : ∀ c ∈ S, c.2 = true) (hA : Asc S) (hP : Pos S) : ∀ i t, t ≤ (rowF S i).length →
    units (takes S i t) = 2 ^ i * t ∧ Desc (takes S i t) ∧ wsum S (takes S i t) = sumW ((rowF S i).take t) ∧ ∀ x ∈ takes S i t, x ≤ cntS ((rowF S i).take t)
  | 0, t, h => by
    have e : cntS ((rowF S 0).take t) = t := by
      show cntS (S.take t) = t
      rw [cntS_all _ (fun c hc => hs c (List.mem_of_mem_take hc)), List.length_take_of_le (show t ≤ S.length from h)]
    simp only [takes, e]
    refine ⟨by simp [units], ⟨by simp, trivial⟩, by simp [wsum, rowF], by simp⟩
  | i + 1, t, h => by
    obtain ⟨n1, n2⟩ := nest S hs hA hP i t h _ rfl
    obtain ⟨s', p, h1, h2, h3, h4, h5, h7, h8⟩ := row_split S hs hA i t h
    simp only [takes]
    rw [h4] at n1 n2 ⊢
    obtain ⟨i1, i2, i3, i4⟩ := takes_facts S hs hA hP i (2 * (t - s')) n1
    have ep : t - s' = p := by omega
    rw [ep] at i1 i2 i3 i4 n2 ⊢
    refine ⟨?_, ⟨fun x hx => Nat.le_trans (i4 x hx) n2, i2⟩, ?_, ?_⟩
    · simp only [units, takes_len, i1]
      rw [← h1, Nat.pow_succ, Nat.mul_add, Nat.mul_assoc, Nat.mul_assoc]
    · simp only [wsum, i3, h5]
    · intro x hx
      rcases List.mem_cons.1 hx with rfl | hx
      · exact Nat.le_refl _
      · exact Nat.le_trans (i4 x hx) n2
/-- Sum of 2^(m - length). -/
def kr (m : Nat) (f : Nat → Nat) : Nat → Nat
  | 0 => 0
  | n + 1 => kr m f n + 2 ^ (m - f n)
theorem lenAt_le : ∀ (ks : List Nat) j, lenAt ks j ≤ ks.length
  | [], j => Nat.le_refl _
  | s :: r, j => by simp only [lenAt, List.length_cons]; have := lenAt_le r j; split <;> omega
theorem lenAt_zero : ∀ (ks : List Nat) j, (∀ x ∈ ks, x ≤ j) → lenAt ks j = 0
  | [], j, h => rfl
  | s :: r, j, h => by
    simp only [lenAt]
    rw [if_neg (by have := h s (by simp); omega), lenAt_zero r j (fun x hx => h x (by simp [hx]))]
theorem kr_cons (s : Nat) (r : List Nat) (hd : ∀ x ∈ r, x ≤ s) : ∀ n, (n ≤ s → kr (r.length + 1) (lenAt (s :: r)) n = kr r.length (lenAt r) n) ∧ (s ≤ n → kr (r.length + 1) (lenAt (s :: r)) n = kr r.length (lenAt r) s + (n - s) * 2 ^ (r.length + 1))
  | 0 => by
    refine ⟨fun _ => rfl, fun h => ?_⟩
    obtain rfl : s = 0 := by omega
    simp [kr]
  | n + 1 => by
    obtain ⟨h1, h2⟩ := kr_cons s r hd n
    constructor
    · intro h
      have e : lenAt (s :: r) n = 1 + lenAt r n := by simp only [lenAt]; rw [if_pos (by omega)]
      have := lenAt_le r n
      simp only [kr]
      rw [h1 (by omega), e, show r.length + 1 - (1 + lenAt r n) = r.length - lenAt r n by omega]
    · intro h
      by_cases he : s = n + 1
      · subst he
        have e : lenAt ((n + 1) :: r) n = 1 + lenAt r n := by simp only [lenAt]; rw [if_pos (by omega)]
        have := lenAt_le r n
        simp only [kr]
        rw [h1 (by omega), e, show r.length + 1 - (1 + lenAt r n) = r.length - lenAt r n by omega]
        simp
      · have e0 : lenAt (s :: r) n = 0 := lenAt_zero _ _ (fun x hx => by
          rcases List.mem_cons.1 hx with rfl | hx
          · omega
          · have := hd x hx; omega)
        simp only [kr, h2 (by omega), e0, Nat.sub_zero]
        rw [show n + 1 - s = n - s + 1 by omega, Nat.add_mul, Nat.one_mul, Nat.add_assoc]
theorem kr_units : ∀ (ks : List Nat), Desc ks → ∀ n, (∀ x ∈ ks, x ≤ n) → kr ks.length (lenAt ks) n + units ks = 2 ^ ks.length * n
  | [], _, n, _ => by
    have : ∀ n, kr 0 (lenAt []) n = n := by
      intro n
      induction n with
      | zero => rfl
      | succ n ih => simp [kr, ih]
    simp [this, units]
  | s :: r, hd, n, hn => by
    have ih := kr_units r hd.2 s hd.1
    have hsn := hn s (by simp)
    simp only [List.length_cons, (kr_cons s r hd.1 n).2 hsn, units]
    obtain ⟨d, rfl⟩ : ∃ d, n = s + d := ⟨n - s, by omega⟩
    rw [Nat.add_sub_cancel_left]
    have e : 2 ^ (r.length + 1) * (s + d) = 2 ^ r.length * s + 2 ^ r.length * s + d * 2 ^ (r.length + 1) := by
      rw [Nat.mul_add, Nat.mul_comm d, Nat.pow_succ, Nat.mul_assoc, Nat.mul_comm 2 s, Nat.mul_two, Nat.mul_add]
    rw [e]; omega
end Go.Proofs.Ytofmjcelmbkebaa.Pm
