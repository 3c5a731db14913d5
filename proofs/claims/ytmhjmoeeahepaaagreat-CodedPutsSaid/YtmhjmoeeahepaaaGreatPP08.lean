import Derived.Test.YtmhjmoeeahepaaaGreatPP07
import Derived.Deep.RegionLaw
import Derived.Deep.DeepMust
/- Layer 7: what is taken of each row; that it is nested, whole, and least. -/
namespace Go.Proofs.YtmhjmoeeahepaaaGreat.Pm
set_option linter.unusedVariables false
set_option maxRecDepth 100000

theorem symC_len (ws : List Int) : (symC ws).length = ws.length := by simp [symC]
theorem row_len (S : List Coin) (i : Nat) : (rowF S (i + 1)).length = S.length + (rowF S i).length / 2 := by
  show (mergeF S (pairsF (rowF S i))).length = _
  rw [mergeF_len, pairsF_len]
/-- What the first t coins of a row are. -/
theorem row_split (S : List Coin) (hs : ∀ c ∈ S, c.2 = true) (hA : Asc S) (i t : Nat) (ht : t ≤ (rowF S (i + 1)).length) :
    ∃ s p, s + p = t ∧ s ≤ S.length ∧ 2 * p ≤ (rowF S i).length ∧ cntS ((rowF S (i + 1)).take t) = s ∧ sumW ((rowF S (i + 1)).take t) = sumW (S.take s) + sumW ((rowF S i).take (2 * p)) ∧
      (∀ y ∈ (pairsF (rowF S i)).take p, ∀ x ∈ S.drop s, y.1 < x.1) ∧ (∀ x ∈ S.take s, x ∈ (rowF S (i + 1)).take t) := by
  have hl : (rowF S (i + 1)).length = S.length + (pairsF (rowF S i)).length := mergeF_len _ _
  obtain ⟨s, p, h1, h2, h3, h4, h5, h6, h7, h8⟩ := mrg_split _ S (pairsF (rowF S i)) (Nat.le_refl _) hs (pairs_sym _) hA (pairs_asc _ (row_asc S hA i)) t (by omega)
  rw [pairsF_len] at h3
  refine ⟨s, p, h1, h2, by omega, h4, ?_, h7, h8⟩
  rw [← pairs_take _ p (by omega)]
  exact h5
theorem mem_pair : ∀ (l : List Coin), Pos l → ∀ p, 2 * p ≤ l.length → ∀ c ∈ l.take (2 * p), ∃ y ∈ (pairsF l).take p, c.1 < y.1
  | l, h, 0, hp, c, hc => by simp at hc
  | [], h, p + 1, hp, c, hc => by simp at hc
  | [x], h, p + 1, hp, c, hc => by simp at hp; omega
  | x :: y :: r, h, p + 1, hp, c, hc => by
    rw [show 2 * (p + 1) = 2 * p + 1 + 1 by omega] at hc
    simp only [List.take_succ_cons, List.mem_cons] at hc
    have hx := h x (by simp)
    have hy := h y (by simp)
    simp only [List.length_cons] at hp
    rcases hc with rfl | rfl | hc
    · exact ⟨(c.1 + y.1, false), by simp [pairsF], by simp only; omega⟩
    · exact ⟨(x.1 + c.1, false), by simp [pairsF], by simp only; omega⟩
    · obtain ⟨z, hz, hlt⟩ := mem_pair r (fun z hz => h z (by simp [hz])) p (by omega) c hc
      exact ⟨z, by simp only [pairsF, List.take_succ_cons]; exact List.mem_cons_of_mem _ hz, hlt⟩
theorem cnt_le (S : List Coin) (hs : ∀ c ∈ S, c.2 = true) (hA : Asc S) (i t : Nat) (ht : t ≤ (rowF S i).length) : cntS ((rowF S i).take t) ≤ S.length ∧ cntS ((rowF S i).take t) ≤ t ∧ ∀ x ∈ S.take (cntS ((rowF S i).take t)), x ∈ (rowF S i).take t := by
  cases i with
  | zero =>
    have e : cntS ((rowF S 0).take t) = t := by
      show cntS (S.take t) = t
      rw [cntS_all _ (fun c hc => hs c (List.mem_of_mem_take hc)), List.length_take_of_le (show t ≤ S.length from ht)]
    rw [e]
    exact ⟨ht, Nat.le_refl _, fun x hx => hx⟩
  | succ i =>
    obtain ⟨s, p, h1, h2, h3, h4, h5, h7, h8⟩ := row_split S hs hA i t ht
    rw [h4]; exact ⟨h2, by omega, h8⟩
/-- The row ahead gives no more symbols. -/
theorem nest (S : List Coin) (hs : ∀ c ∈ S, c.2 = true) (hA : Asc S) (hP : Pos S) (i t : Nat) (ht : t ≤ (rowF S (i + 1)).length) :
    ∀ s, s = cntS ((rowF S (i + 1)).take t) → 2 * (t - s) ≤ (rowF S i).length ∧ cntS ((rowF S i).take (2 * (t - s))) ≤ s := by
  intro s hsd
  obtain ⟨s', p, h1, h2, h3, h4, h5, h7, h8⟩ := row_split S hs hA i t ht
  rw [h4] at hsd; subst hsd
  have ep : t - s = p := by omega
  rw [ep]
  refine ⟨h3, ?_⟩
  apply Classical.byContradiction
  intro hn
  obtain ⟨g1, g2, g3⟩ := cnt_le S hs hA i (2 * p) h3
  have hlt : s < S.length := by omega
  have hm : S[s] ∈ (rowF S i).take (2 * p) := g3 _ (by
    rw [List.mem_take_iff_getElem]
    exact ⟨s, by omega, rfl⟩)
  obtain ⟨y, hy, hxy⟩ := mem_pair _ (row_pos S hP i) p h3 _ hm
  have := h7 y hy S[s] (by
    rw [List.mem_drop_iff_getElem]
    exact ⟨0, by simpa using hlt, by simp⟩)
  omega
theorem row_most (S : List Coin) (h2 : 2 ≤ S.length) : ∀ i, (rowF S i).length ≤ 2 * S.length - 1
  | 0 => by show S.length ≤ _; omega
  | i + 1 => by rw [row_len]; have := row_most S h2 i; omega
/-- All symbols are among the first ones. -/
theorem top_all (S : List Coin) (hs : ∀ c ∈ S, c.2 = true) (hA : Asc S) (hP : Pos S) (h2 : 2 ≤ S.length) : ∀ i, 2 * S.length - 2 ≤ (rowF S i).length → cntS ((rowF S i).take (2 * S.length - 2)) = S.length
  | 0, h => by
    have e : (rowF S 0).length = S.length := rfl
    show cntS (S.take _) = _
    rw [cntS_all _ (fun c hc => hs c (List.mem_of_mem_take hc)), List.length_take_of_le (by rw [← e]; exact h)]
    omega
  | i + 1, h => by
    obtain ⟨n1, n2⟩ := nest S hs hA hP i _ h _ rfl
    obtain ⟨g1, g2, g3⟩ := cnt_le S hs hA (i + 1) _ h
    have hm := row_most S h2 i
    have hl := row_len S i
    obtain ⟨s, hsd⟩ : ∃ s, cntS ((rowF S (i + 1)).take (2 * S.length - 2)) = s := ⟨_, rfl⟩
    rw [hsd] at n1 n2 g1 g2 ⊢
    by_cases hlow : s = S.length
    · exact hlow
    · have : s + 1 = S.length := by omega
      have e : 2 * (2 * S.length - 2 - s) = 2 * S.length - 2 := by omega
      rw [e] at n1 n2
      have ih := top_all S hs hA hP h2 i n1
      rw [ih] at n2
      omega
theorem row_short (S : List Coin) (h1 : 2 ≤ S.length) : ∀ i, 2 ^ i * (2 * S.length - 1 - (rowF S i).length) < S.length
  | 0 => by show 2 ^ 0 * (2 * S.length - 1 - S.length) < _; omega
  | i + 1 => by
    have ih := row_short S h1 i
    have hl := row_len S i
    have hm := row_most S h1 i
    have h : 2 * (2 * S.length - 1 - (rowF S (i + 1)).length) ≤ 2 * S.length - 1 - (rowF S i).length := by omega
    calc 2 ^ (i + 1) * (2 * S.length - 1 - (rowF S (i + 1)).length) = 2 ^ i * (2 * (2 * S.length - 1 - (rowF S (i + 1)).length)) := by rw [Nat.pow_succ, Nat.mul_assoc]
      _ ≤ 2 ^ i * (2 * S.length - 1 - (rowF S i).length) := Nat.mul_le_mul_left _ h
      _ < _ := ih
theorem row_enough (S : List Coin) (h1 : 2 ≤ S.length) (i : Nat) (h : S.length ≤ 2 ^ (i + 1)) : 2 * S.length - 2 ≤ (rowF S i).length := by
  have hs := row_short S h1 i
  apply Classical.byContradiction
  intro hn
  have : 2 ≤ 2 * S.length - 1 - (rowF S i).length := by omega
  have h2 : 2 ^ i * 2 ≤ 2 ^ i * (2 * S.length - 1 - (rowF S i).length) := Nat.mul_le_mul_left _ this
  rw [Nat.pow_succ] at h
  omega

/-- How many symbols are taken of each row, from the last one on. -/
def takes (S : List Coin) : Nat → Nat → List Nat
  | 0, t => [cntS ((rowF S 0).take t)]
  | i + 1, t => cntS ((rowF S (i + 1)).take t) :: takes S i (2 * (t - cntS ((rowF S (i + 1)).take t)))
def lenAt : List Nat → Nat → Nat
  | [], _ => 0
  | s :: r, j => (if j < s then 1 else 0) + lenAt r j
def units : List Nat → Nat
  | [] => 0
  | s :: r => 2 ^ r.length * s + units r
def Desc : List Nat → Prop
  | [] => True
  | s :: r => (∀ x ∈ r, x ≤ s) ∧ Desc r
def wsum (S : List Coin) : List Nat → Int
  | [] => 0
  | s :: r => sumW (S.take s) + wsum S r
theorem takes_len (S : List Coin) : ∀ i t, (takes S i t).length = i + 1
  | 0, t => rfl
  | i + 1, t => by simp only [takes, List.length_cons, takes_len S i]
theorem takes_facts (S : List Coin) (hs : ∀ c ∈ S, c.2 = true) (hA : Asc S) (hP : Pos S) : ∀ i t, t ≤ (rowF S i).length →
    units (takes S i t) = 2 ^ i * t ∧ Desc (takes S i t) ∧ wsum S (takes S i t) = sumW ((rowF S i).take t) ∧ ∀ x ∈ takes S i t, x ≤ cntS ((rowF S i).take t)
  | 0, t, h => by
    have e : cntS ((rowF S 0).take t) = t := by
      show cntS (S.take t) = t
      rw [cntS_all _ (fun c hc => hs c (List.mem_of_mem_take hc)), List.length_take_of_le (show t ≤ S.length from h)]
    simp only [takes, e]
    refine ⟨by simp [units], ⟨by simp, trivial⟩, by simp [wsum, rowF], by simp⟩
  | i + 1, t, h => by
    obtain ⟨n1, n2⟩ := nest S hs hA hP i t h _ rfl
    obtain ⟨s', p, h1, h2, h3, h4, h5, h7, h8⟩ := row_split S hs hA i t h
    simp only [takes]
    rw [h4] at n1 n2 ⊢
    obtain ⟨i1, i2, i3, i4⟩ := takes_facts S hs hA hP i (2 * (t - s')) n1
    have ep : t - s' = p := by omega
    rw [ep] at i1 i2 i3 i4 n2 ⊢
    refine ⟨?_, ⟨fun x hx => Nat.le_trans (i4 x hx) n2, i2⟩, ?_, ?_⟩
    · simp only [units, takes_len, i1]
      rw [← h1, Nat.pow_succ, Nat.mul_add, Nat.mul_assoc, Nat.mul_assoc]
    · simp only [wsum, i3, h5]
    · intro x hx
      rcases List.mem_cons.1 hx with rfl | hx
      · exact Nat.le_refl _
      · exact Nat.le_trans (i4 x hx) n2
/-- Sum of 2^(m - length). -/
def kr (m : Nat) (f : Nat → Nat) : Nat → Nat
  | 0 => 0
  | n + 1 => kr m f n + 2 ^ (m - f n)
theorem lenAt_le : ∀ (ks : List Nat) j, lenAt ks j ≤ ks.length
  | [], j => Nat.le_refl _
  | s :: r, j => by simp only [lenAt, List.length_cons]; have := lenAt_le r j; split <;> omega
theorem lenAt_zero : ∀ (ks : List Nat) j, (∀ x ∈ ks, x ≤ j) → lenAt ks j = 0
  | [], j, h => rfl
  | s :: r, j, h => by
    simp only [lenAt]
    rw [if_neg (by have := h s (by simp); omega), lenAt_zero r j (fun x hx => h x (by simp [hx]))]
theorem kr_cons (s : Nat) (r : List Nat) (hd : ∀ x ∈ r, x ≤ s) : ∀ n, (n ≤ s → kr (r.length + 1) (lenAt (s :: r)) n = kr r.length (lenAt r) n) ∧ (s ≤ n → kr (r.length + 1) (lenAt (s :: r)) n = kr r.length (lenAt r) s + (n - s) * 2 ^ (r.length + 1))
  | 0 => by
    refine ⟨fun _ => rfl, fun h => ?_⟩
    obtain rfl : s = 0 := by omega
    simp [kr]
  | n + 1 => by
    obtain ⟨h1, h2⟩ := kr_cons s r hd n
    constructor
    · intro h
      have e : lenAt (s :: r) n = 1 + lenAt r n := by simp only [lenAt]; rw [if_pos (by omega)]
      have := lenAt_le r n
      simp only [kr]
      rw [h1 (by omega), e, show r.length + 1 - (1 + lenAt r n) = r.length - lenAt r n by omega]
    · intro h
      by_cases he : s = n + 1
      · subst he
        have e : lenAt ((n + 1) :: r) n = 1 + lenAt r n := by simp only [lenAt]; rw [if_pos (by omega)]
        have := lenAt_le r n
        simp only [kr]
        rw [h1 (by omega), e, show r.length + 1 - (1 + lenAt r n) = r.length - lenAt r n by omega]
        simp
      · have e0 : lenAt (s :: r) n = 0 := lenAt_zero _ _ (fun x hx => by
          rcases List.mem_cons.1 hx with rfl | hx
          · omega
          · have := hd x hx; omega)
        simp only [kr, h2 (by omega), e0, Nat.sub_zero]
        rw [show n + 1 - s = n - s + 1 by omega, Nat.add_mul, Nat.one_mul, Nat.add_assoc]
theorem kr_units : ∀ (ks : List Nat), Desc ks → ∀ n, (∀ x ∈ ks, x ≤ n) → kr ks.length (lenAt ks) n + units ks = 2 ^ ks.length * n
  | [], _, n, _ => by
    have : ∀ n, kr 0 (lenAt []) n = n := by
      intro n
      induction n with
      | zero => rfl
      | succ n ih => simp [kr, ih]
    simp [this, units]
  | s :: r, hd, n, hn => by
    have ih := kr_units r hd.2 s hd.1
    have hsn := hn s (by simp)
    simp only [List.length_cons, (kr_cons s r hd.1 n).2 hsn, units]
    obtain ⟨d, rfl⟩ : ∃ d, n = s + d := ⟨n - s, by omega⟩
    rw [Nat.add_sub_cancel_left]
    have e : 2 ^ (r.length + 1) * (s + d) = 2 ^ r.length * s + 2 ^ r.length * s + d * 2 ^ (r.length + 1) := by
      rw [Nat.mul_add, Nat.mul_comm d, Nat.pow_succ, Nat.mul_assoc, Nat.mul_comm 2 s, Nat.mul_two, Nat.mul_add]
    rw [e]; omega
end Go.Proofs.YtmhjmoeeahepaaaGreat.Pm

/- Layer 7: the lengths that are taken are whole, and no other lengths cost less. -/
namespace Go.Proofs.YtmhjmoeeahepaaaGreat.Pm
set_option linter.unusedVariables false
set_option maxRecDepth 100000

/-- Sums of products with what a function says of the place. -/
def dot : List Int → (Nat → Nat) → Int
  | [], _ => 0
  | w :: ws, f => w * f 0 + dot ws (fun j => f (j + 1))
theorem dot_add : ∀ (ws : List Int) (f g : Nat → Nat), dot ws (fun j => f j + g j) = dot ws f + dot ws g
  | [], f, g => rfl
  | w :: ws, f, g => by
    simp only [dot, dot_add ws]
    rw [Int.natCast_add, Int.mul_add]; omega
theorem dot_zero : ∀ (ws : List Int), dot ws (fun _ => 0) = 0
  | [] => rfl
  | w :: ws => by simp only [dot, dot_zero ws]; simp
theorem dot_lt : ∀ (ws : List Int) (s : Nat), dot ws (fun j => if j < s then 1 else 0) = sumW ((symC ws).take s)
  | [], s => by simp [dot, symC, sumW]
  | w :: ws, 0 => by
    have := dot_zero ws
    simp only [dot, List.take_zero, sumW]
    simpa using this
  | w :: ws, s + 1 => by
    have := dot_lt ws s
    have e : symC (w :: ws) = (w, true) :: symC ws := rfl
    rw [e, List.take_succ_cons]
    simp only [dot, sumW, ← this]
    simp
theorem dot_takes (ws : List Int) : ∀ ks : List Nat, dot ws (lenAt ks) = wsum (symC ws) ks
  | [] => by
    have := dot_zero ws
    simpa [wsum, lenAt] using this
  | s :: r => by
    show dot ws (fun j => (if j < s then 1 else 0) + lenAt r j) = _
    rw [dot_add, dot_lt]
    have e : dot ws (fun j => lenAt r j) = dot ws (lenAt r) := rfl
    rw [e, dot_takes ws r]; rfl
theorem lenAt_mono : ∀ (ks : List Nat) (i j : Nat), i ≤ j → lenAt ks j ≤ lenAt ks i
  | [], i, j, h => Nat.le_refl _
  | s :: r, i, j, h => by
    have := lenAt_mono r i j h
    simp only [lenAt]
    split <;> split <;> omega
theorem symC_asc (ws : List Int) (h : ws.Pairwise (· ≤ ·)) : Asc (symC ws) := by
  induction ws with
  | nil => trivial
  | cons w ws ih =>
    rw [List.pairwise_cons] at h
    refine ⟨fun y hy => ?_, ih h.2⟩
    unfold symC at hy
    obtain ⟨x, hx, rfl⟩ := List.mem_map.1 hy
    exact h.1 x hx
theorem symC_pos (ws : List Int) (h : ∀ w ∈ ws, 0 < w) : Pos (symC ws) := by
  intro c hc
  unfold symC at hc
  obtain ⟨x, hx, rfl⟩ := List.mem_map.1 hc
  exact h x hx
/-- The lengths, in the order of the symbols. -/
def ksF (ws : List Int) (L : Nat) : List Nat := takes (symC ws) (L - 1) (2 * ws.length - 2)
theorem ours (ws : List Int) (L : Nat) (hL : 1 ≤ L) (h2 : 2 ≤ ws.length) (hm : ws.length ≤ 2 ^ L) (hA : ws.Pairwise (· ≤ ·)) (hP : ∀ w ∈ ws, 0 < w) :
    kr L (lenAt (ksF ws L)) ws.length = 2 ^ L ∧ (∀ j, j < ws.length → 1 ≤ lenAt (ksF ws L) j) ∧ (∀ j, lenAt (ksF ws L) j ≤ L) ∧
      dot ws (lenAt (ksF ws L)) = sumW ((rowF (symC ws) (L - 1)).take (2 * ws.length - 2)) ∧ 2 * ws.length - 2 ≤ (rowF (symC ws) (L - 1)).length := by
  have hs := symC_sym ws
  have hA' := symC_asc ws hA
  have hP' := symC_pos ws hP
  have hl := symC_len ws
  have hen := row_enough (symC ws) (by omega) (L - 1) (by rw [hl, show L - 1 + 1 = L by omega]; exact hm)
  have hall := top_all (symC ws) hs hA' hP' (by omega) (L - 1) hen
  rw [hl] at hen hall
  obtain ⟨f1, f2, f3, f4⟩ := takes_facts (symC ws) hs hA' hP' (L - 1) _ hen
  have hlen := takes_len (symC ws) (L - 1) (2 * ws.length - 2)
  rw [hall] at f4
  have hku := kr_units (ksF ws L) f2 ws.length f4
  have eL : (ksF ws L).length = L := by unfold ksF; rw [hlen]; omega
  rw [eL] at hku
  refine ⟨?_, ?_, ?_, ?_, hen⟩
  · have e : units (ksF ws L) = 2 ^ (L - 1) * (2 * ws.length - 2) := f1
    obtain ⟨n', hn'⟩ : ∃ n', ws.length = n' + 1 := ⟨ws.length - 1, by omega⟩
    obtain ⟨l', rfl⟩ : ∃ l', L = l' + 1 := ⟨L - 1, by omega⟩
    rw [hn'] at hku ⊢
    rw [e, hn', show 2 * (n' + 1) - 2 = 2 * n' by omega, Nat.add_sub_cancel, ← Nat.mul_assoc, show 2 ^ l' * 2 = 2 ^ (l' + 1) from rfl, Nat.mul_add, Nat.mul_one] at hku
    omega
  · intro j hj
    unfold ksF
    cases hq : L - 1 with
    | zero =>
      rw [hq] at hall
      simp only [takes, hall, lenAt]
      rw [if_pos hj]; exact Nat.le_refl _
    | succ i =>
      rw [hq] at hall
      simp only [takes, hall, lenAt]
      rw [if_pos hj]; omega
  · intro j
    have := lenAt_le (ksF ws L) j
    omega
  · rw [dot_takes]; exact f3

/-- What others take of each row. -/
def Att (S : List Coin) : List (Nat × Int) → Nat → Prop
  | [], _ => False
  | [c], t => t = c.1 ∧ c.1 ≤ S.length ∧ sumW (S.take c.1) ≤ c.2
  | c :: d :: r, t => c.1 ≤ S.length ∧ sumW (S.take c.1) ≤ c.2 ∧ c.1 ≤ t ∧ Att S (d :: r) (2 * (t - c.1))
def sum2 : List (Nat × Int) → Int
  | [] => 0
  | c :: r => c.2 + sum2 r
theorem att_least (S : List Coin) (hA : Asc S) : ∀ (i : Nat) (al : List (Nat × Int)) (t : Nat), al.length = i + 1 → Att S al t → t ≤ (rowF S i).length ∧ sumW ((rowF S i).take t) ≤ sum2 al
  | 0, [c], t, hl, h => by
    obtain ⟨rfl, h1, h2⟩ := h
    refine ⟨h1, ?_⟩
    simp only [sum2, rowF]; omega
  | 0, [], t, hl, h => h.elim
  | 0, c :: d :: r, t, hl, h => by simp at hl
  | i + 1, [], t, hl, h => h.elim
  | i + 1, [c], t, hl, h => by simp at hl
  | i + 1, c :: d :: r, t, hl, h => by
    obtain ⟨h1, h2, h3, h4⟩ := h
    obtain ⟨i1, i2⟩ := att_least S hA i (d :: r) _ (by simpa using hl) h4
    have hp : (pairsF (rowF S i)).length = (rowF S i).length / 2 := pairsF_len _
    have hlen := row_len S i
    have hm := mrg_least _ S (pairsF (rowF S i)) (Nat.le_refl _) hA (pairs_asc _ (row_asc S hA i)) c.1 (t - c.1) h1 (by omega)
    rw [pairs_take _ _ (by omega), show c.1 + (t - c.1) = t by omega] at hm
    have e : mrg (S.length + (pairsF (rowF S i)).length) S (pairsF (rowF S i)) = rowF S (i + 1) := rfl
    rw [e] at hm
    refine ⟨by omega, ?_⟩
    show _ ≤ c.2 + sum2 (d :: r)
    omega
/-- Of lengths and weights: how many are so long, what they weigh, and what they fill. -/
def cntG (k : Nat) : List (Nat × Int) → Nat
  | [] => 0
  | z :: l => (if k ≤ z.1 then 1 else 0) + cntG k l
def weiG (k : Nat) : List (Nat × Int) → Int
  | [] => 0
  | z :: l => (if k ≤ z.1 then z.2 else 0) + weiG k l
def filG (L k : Nat) : List (Nat × Int) → Nat
  | [] => 0
  | z :: l => (if k ≤ z.1 then 2 ^ (L - z.1) else 0) + filG L k l
def prodG : List (Nat × Int) → Int
  | [] => 0
  | z :: l => z.1 * z.2 + prodG l
theorem cntG_le (k : Nat) : ∀ l, cntG k l ≤ l.length
  | [] => Nat.le_refl _
  | z :: l => by simp only [cntG, List.length_cons]; have := cntG_le k l; split <;> omega
theorem take_first : ∀ (x : Coin) (a : List Coin), Asc (x :: a) → ∀ s, s ≤ a.length → sumW ((x :: a).take s) ≤ sumW (a.take s)
  | x, a, h, 0, hs => by simp [sumW]
  | x, [], h, s + 1, hs => by simp at hs
  | x, y :: a, h, s + 1, hs => by
    have := take_first y a h.2 s (by simpa using hs)
    have hxy := h.1 y (by simp)
    simp only [List.take_succ_cons, sumW] at this ⊢
    omega
theorem wei_least (k : Nat) : ∀ l : List (Nat × Int), Asc (symC (l.map (·.2))) → sumW ((symC (l.map (·.2))).take (cntG k l)) ≤ weiG k l
  | [], _ => by simp [symC, sumW, weiG]
  | z :: l, h => by
    have ih := wei_least k l h.2
    simp only [cntG, weiG]
    by_cases hz : k ≤ z.1
    · rw [if_pos hz, if_pos hz, Nat.add_comm]
      show sumW (((z.2, true) :: symC (l.map (·.2))).take (cntG k l + 1)) ≤ _
      rw [List.take_succ_cons]
      simp only [sumW]; omega
    · rw [if_neg hz, if_neg hz, Nat.zero_add]
      have := take_first (z.2, true) (symC (l.map (·.2))) (show Asc ((z.2, true) :: symC (l.map (·.2))) from h) (cntG k l) (by rw [symC_len, List.length_map]; exact cntG_le k l)
      have e : symC ((z :: l).map (·.2)) = (z.2, true) :: symC (l.map (·.2)) := rfl
      rw [e]; omega
theorem fil_step (L k : Nat) (hk : k < L) : ∀ l : List (Nat × Int), (∀ z ∈ l, z.1 ≤ L) → filG L k l + 2 ^ (L - k) * cntG (k + 1) l = filG L (k + 1) l + 2 ^ (L - k) * cntG k l
  | [], _ => rfl
  | z :: l, h => by
    have ih := fil_step L k hk l (fun z hz => h z (by simp [hz]))
    simp only [filG, cntG, Nat.mul_add]
    by_cases h1 : k + 1 ≤ z.1
    · simp only [if_pos h1, if_pos (show k ≤ z.1 by omega), Nat.mul_one]
      omega
    · by_cases h2 : k ≤ z.1
      · have e : z.1 = k := by omega
        rw [if_pos h2, if_neg h1, if_neg h1, if_pos h2, Nat.mul_one, Nat.mul_zero, e]
        omega
      · simp only [if_neg h1, if_neg h2, Nat.mul_zero]
        omega
theorem fil_last (L : Nat) : ∀ l : List (Nat × Int), (∀ z ∈ l, z.1 ≤ L) → filG L L l = cntG L l
  | [], _ => rfl
  | z :: l, h => by
    have ih := fil_last L l (fun z hz => h z (by simp [hz]))
    have hz := h z (by simp)
    simp only [filG, cntG, ih]
    by_cases h1 : L ≤ z.1
    · have e : z.1 = L := by omega
      rw [if_pos h1, if_pos h1, e, Nat.sub_self]
    · rw [if_neg h1, if_neg h1]
theorem fil_le (L k : Nat) : ∀ l : List (Nat × Int), filG L k l ≤ 2 ^ (L - k) * cntG k l
  | [] => Nat.le_refl _
  | z :: l => by
    have ih := fil_le L k l
    simp only [filG, cntG, Nat.mul_add]
    by_cases h1 : k ≤ z.1
    · rw [if_pos h1, if_pos h1]
      have : 2 ^ (L - z.1) ≤ 2 ^ (L - k) := Nat.pow_le_pow_right (by decide) (by omega)
      omega
    · rw [if_neg h1, if_neg h1]; omega
/-- The levels from L - i to L. -/
def levs (L : Nat) (l : List (Nat × Int)) : Nat → List (Nat × Int)
  | 0 => [(cntG L l, weiG L l)]
  | i + 1 => (cntG (L - (i + 1)) l, weiG (L - (i + 1)) l) :: levs L l i
theorem levs_len (L : Nat) (l : List (Nat × Int)) : ∀ i, (levs L l i).length = i + 1
  | 0 => rfl
  | i + 1 => by simp only [levs, List.length_cons, levs_len L l i]
theorem levs_att (L : Nat) (l : List (Nat × Int)) (hm : ∀ z ∈ l, z.1 ≤ L) (hA : Asc (symC (l.map (·.2)))) : ∀ (i : Nat), i < L → ∀ t, 2 ^ i * t + filG L (L - i) l = 2 ^ (i + 1) * cntG (L - i) l →
    Att (symC (l.map (·.2))) (levs L l i) t
  | 0, hi, t, h => by
    have hl := fil_last L l hm
    rw [Nat.sub_zero, hl] at h
    refine ⟨by simp only; omega, by simp only [symC_len, List.length_map]; exact cntG_le _ _, wei_least L l hA⟩
  | i + 1, hi, t, h => by
    have hst := fil_step L (L - (i + 1)) (by omega) l hm
    rw [show L - (L - (i + 1)) = i + 1 by omega, show L - (i + 1) + 1 = L - i by omega] at hst
    have hle := fil_le L (L - i) l
    rw [show L - (L - i) = i by omega] at hle
    obtain ⟨a, ha⟩ : ∃ a, cntG (L - (i + 1)) l = a := ⟨_, rfl⟩
    obtain ⟨b, hb⟩ : ∃ b, cntG (L - i) l = b := ⟨_, rfl⟩
    rw [ha] at h hst
    rw [hb] at hst hle
    have hpp : 2 ^ (i + 1) = 2 * 2 ^ i := by rw [Nat.pow_succ]; omega
    have hpp2 : 2 ^ (i + 1 + 1) * a = 2 * (2 ^ (i + 1) * a) := by rw [Nat.pow_succ]; rw [Nat.mul_comm (2 ^ (i + 1)) 2, Nat.mul_assoc]
    -- 2^(i+1) t = 2^(i+1) a + 2^(i+1) b - fil
    have h1 : 2 ^ (i + 1) * t + filG L (L - i) l = 2 ^ (i + 1) * a + 2 ^ (i + 1) * b := by omega
    have hble : filG L (L - i) l ≤ 2 ^ (i + 1) * b := by
      calc _ ≤ 2 ^ i * b := hle
        _ ≤ _ := Nat.mul_le_mul_right _ (by omega)
    have hat : a ≤ t := by
      have : 2 ^ (i + 1) * a ≤ 2 ^ (i + 1) * t := by omega
      exact Nat.le_of_mul_le_mul_left this (Nat.pow_pos (by decide))
    have hrest : Att (symC (l.map (·.2))) (levs L l i) (2 * (t - a)) := by
      refine levs_att L l hm hA i (by omega) _ ?_
      rw [hb]
      obtain ⟨d, rfl⟩ : ∃ d, t = a + d := ⟨t - a, by omega⟩
      rw [Nat.add_sub_cancel_left]
      have e1 : 2 ^ i * (2 * d) = 2 ^ (i + 1) * d := by rw [Nat.pow_succ, Nat.mul_assoc]
      rw [e1]
      rw [Nat.mul_add] at h1
      omega
    have hc : a ≤ (symC (l.map (·.2))).length ∧ sumW ((symC (l.map (·.2))).take a) ≤ weiG (L - (i + 1)) l := by
      rw [← ha]
      exact ⟨by rw [symC_len, List.length_map]; exact cntG_le _ _, wei_least _ l hA⟩
    simp only [levs, ha]
    have hne := levs_len L l i
    cases hq : levs L l i with
    | nil => rw [hq] at hne; simp at hne
    | cons d r =>
      rw [hq] at hrest
      exact ⟨hc.1, hc.2, hat, hrest⟩
theorem levs_sum (L : Nat) : ∀ (l : List (Nat × Int)), (∀ z ∈ l, 1 ≤ z.1 ∧ z.1 ≤ L) → 1 ≤ L → sum2 (levs L l (L - 1)) = prodG l := by
  have one : ∀ (i : Nat) (z : Nat × Int) (l : List (Nat × Int)), i < L → z.1 ≤ L → sum2 (levs L (z :: l) i) = (if L - i ≤ z.1 then ((z.1 - (L - i) + 1 : Nat) : Int) * z.2 else 0) + sum2 (levs L l i) := by
    intro i z l hi hz
    induction i with
    | zero =>
      simp only [levs, sum2, weiG, Nat.sub_zero]
      by_cases h : L ≤ z.1
      · rw [if_pos h, if_pos h, show z.1 - L + 1 = 1 by omega]; simp
      · rw [if_neg h, if_neg h]; omega
    | succ i ih =>
      simp only [levs, sum2, weiG, ih (by omega)]
      by_cases h : L - (i + 1) ≤ z.1
      · rw [if_pos h, if_pos h]
        by_cases h2 : L - i ≤ z.1
        · rw [if_pos h2, show z.1 - (L - (i + 1)) + 1 = z.1 - (L - i) + 1 + 1 by omega]
          rw [Int.natCast_succ (z.1 - (L - i) + 1), Int.add_mul]; omega
        · rw [if_neg h2, show z.1 - (L - (i + 1)) + 1 = 1 by omega]; simp; omega
      · rw [if_neg h, if_neg h, if_neg (by omega)]; omega
  have none : ∀ i, sum2 (levs L [] i) = 0 := by
    intro i
    induction i with
    | zero => rfl
    | succ i ih => simp only [levs, sum2, weiG, ih]; rfl
  intro l
  induction l with
  | nil => intro _ _; rw [none]; rfl
  | cons z l ih =>
    intro h hL
    obtain ⟨h1, h2⟩ := h z (by simp)
    rw [one (L - 1) z l (by omega) h2, ih (fun z hz => h z (by simp [hz])) hL]
    rw [if_pos (by omega), show z.1 - (L - (L - 1)) + 1 = z.1 by omega]
    rfl
theorem fil_one (L : Nat) : ∀ l : List (Nat × Int), (∀ z ∈ l, 1 ≤ z.1) → cntG 1 l = l.length
  | [], _ => rfl
  | z :: l, h => by
    simp only [cntG, List.length_cons, if_pos (h z (by simp)), fil_one L l (fun z hz => h z (by simp [hz]))]; omega
/-- No lengths that are whole cost less. -/
theorem least (ws : List Int) (L : Nat) (hL : 1 ≤ L) (h2 : 2 ≤ ws.length) (hm : ws.length ≤ 2 ^ L) (hA : ws.Pairwise (· ≤ ·)) (hP : ∀ w ∈ ws, 0 < w)
    (l : List (Nat × Int)) (hl : l.map (·.2) = ws) (hb : ∀ z ∈ l, 1 ≤ z.1 ∧ z.1 ≤ L) (hk : filG L 1 l = 2 ^ L) : dot ws (lenAt (ksF ws L)) ≤ prodG l := by
  obtain ⟨o1, o2, o3, o4, o5⟩ := ours ws L hL h2 hm hA hP
  have hA' := symC_asc ws hA
  have hll : l.length = ws.length := by rw [← hl, List.length_map]
  rw [o4]
  have hatt := levs_att L l (fun z hz => (hb z hz).2) (by rw [hl]; exact hA') (L - 1) (by omega) (2 * ws.length - 2) (by
    rw [show L - (L - 1) = 1 by omega, hk, fil_one L l (fun z hz => (hb z hz).1), hll]
    obtain ⟨n', hn'⟩ : ∃ n', ws.length = n' + 1 := ⟨ws.length - 1, by omega⟩
    obtain ⟨l', rfl⟩ : ∃ l', L = l' + 1 := ⟨L - 1, by omega⟩
    rw [hn', show 2 * (n' + 1) - 2 = 2 * n' by omega, Nat.add_sub_cancel, ← Nat.mul_assoc, show 2 ^ l' * 2 = 2 ^ (l' + 1) from rfl, Nat.mul_add, Nat.mul_one])
  rw [hl] at hatt
  have := (att_least (symC ws) hA' (L - 1) _ _ (by rw [levs_len]) hatt).2
  rw [levs_sum L l hb hL] at this
  exact this
end Go.Proofs.YtmhjmoeeahepaaaGreat.Pm

/- Layer 7: coins in memory; lighter; pairs. -/
namespace Go.Proofs.YtmhjmoeeahepaaaGreat
open Go.ChangeShapes Go.WideShapes Go.ChangeAt Go.RowKit
set_option linter.unusedVariables false
set_option linter.unusedSimpArgs false
set_option maxRecDepth 100000
open Pm
def fC (c : Coin) : List Value := [.int .i64 c.1, .bool c.2]
theorem flatC : Flat fC 2 := fun x => ⟨rfl, by intro u hu; simp [fC] at hu; rcases hu with rfl | rfl <;> rfl⟩
abbrev OwnC (B : Nat) (w : World) (v : Value) (l : List Coin) : Prop := OwnS fC 117 2 B w v l
theorem info_coin : (Tryz.prog.info? 117).map (fun i => (i.zero, i.size, i.bytes)) = some (some (.agg #[.int .i64 0, .bool false]), 2, 16) := by kernel_rfl
def coAt (w : World) (g o : Nat) (c : Coin) : Prop := w.cell? ⟨g, o, none⟩ = some (.int .i64 c.1) ∧ w.cell? ⟨g, o + 1, none⟩ = some (.bool c.2)
theorem coAt.kept {w w' : World} {g o B : Nat} {c : Coin} (h : coAt w g o c) (hg : g < B) (hb : Below B w w') : coAt w' g o c := ⟨(hb.cell (p := ⟨g, o, none⟩) hg).trans h.1, (hb.cell (p := ⟨g, o + 1, none⟩) hg).trans h.2⟩
/-- A slice of coins that lies below a block. -/
def IsC (B : Nat) (w : World) (v : Value) (l : List Coin) : Prop := ∃ g o cap, v = .slice (some ⟨g, o, none⟩) l.length cap ∧ g < B ∧ ∀ i c, l[i]? = some c → coAt w g (o + i * 2) c
theorem IsC.kept {B : Nat} {w w' : World} {v : Value} {l : List Coin} (h : IsC B w v l) (hb : Below B w w') : IsC B w' v l := by
  obtain ⟨g, o, cap, rfl, hg, hc⟩ := h
  exact ⟨g, o, cap, rfl, hg, fun i c hi => (hc i c hi).kept hg hb⟩
theorem IsC.mono {B B' : Nat} {w : World} {v : Value} {l : List Coin} (h : IsC B w v l) (hb : B ≤ B') : IsC B' w v l := by
  obtain ⟨g, o, cap, rfl, hg, hc⟩ := h
  exact ⟨g, o, cap, rfl, by omega, hc⟩
theorem own_isC {B B' g n cap : Nat} {w : World} {l : List Coin} (h : OwnC B w (.slice (some ⟨g, 0, none⟩) n cap) l) (hB : w.heap.size ≤ B') : IsC B' w (.slice (some ⟨g, 0, none⟩) n cap) l := by
  have hn : n = l.length := by
    rcases h.2 with ⟨h0, -⟩ | ⟨g', cap', cur', h0, -⟩ <;> simp at h0; omega
  refine ⟨g, 0, cap, by rw [hn], Nat.lt_of_lt_of_le (h.lt _ rfl).2 hB, fun i c hi => ?_⟩
  have h1 := h.cell flatC i 0 c hi (by decide)
  have h2 := h.cell flatC i 1 c hi (by decide)
  rw [Nat.zero_add]
  exact ⟨by simpa [fC] using h1, by simpa [fC] using h2⟩
set_option maxHeartbeats 800000 in
theorem pLight (a b : Coin) (w : World) : Calls Tryz.prog 98 #[.agg #[.int .i64 a.1, .bool a.2], .agg #[.int .i64 b.1, .bool b.2]] w fun e w' => e = .returned (.bool (decide (a.1 < b.1))) ∧ Below w.heap.size w w' := by
  obtain ⟨x, hx⟩ : ∃ x, a.1 = x := ⟨_, rfl⟩
  obtain ⟨y, hy⟩ : ∃ y, b.1 = y := ⟨_, rfl⟩
  rw [hx, hy]
  have hb := ((Below.refl w.heap.size w).alloc (Nat.le_refl _) (.cells #[.int .i64 x, .bool a.2] 117)).alloc (by simp) (.cells #[.int .i64 y, .bool b.2] 117)
  have HB := Lib.hid hb
  clear hb
  go_enter Tryz.func98, Tryz.ntmps98
  go_wp2_with fail
  go_ret
  exact ⟨rfl, HB.out⟩
theorem take_set {α : Type} (P : List α) (z : α) (i m : Nat) (hm : P.length = m) (hi : i < m) : (P.take i ++ List.replicate (m - i) z).set i P[i] = P.take (i + 1) ++ List.replicate (m - (i + 1)) z := by
  have h1 : (P.take i).length = i := List.length_take_of_le (by omega)
  rw [List.set_append_right _ _ (by omega), h1, Nat.sub_self, show m - i = (m - (i + 1)) + 1 by omega, List.replicate_succ, List.set_cons_zero, List.take_succ_eq_append_getElem (by omega), List.append_assoc]; rfl
theorem pairs_get : ∀ (l : List Coin) (i : Nat) (x y : Coin), l[2 * i]? = some x → l[2 * i + 1]? = some y → (pairsF l)[i]? = some (x.1 + y.1, false)
  | [], i, x, y, h, _ => by simp at h
  | [a], 0, x, y, _, h => by simp at h
  | [a], i + 1, x, y, h, _ => by simp at h
  | a :: b :: r, 0, x, y, h, k => by
    simp at h k
    subst h; subst k; rfl
  | a :: b :: r, i + 1, x, y, h, k => by
    simp only [pairsF, List.getElem?_cons_succ]
    exact pairs_get r i x y (by rw [show 2 * (i + 1) = 2 * i + 1 + 1 by omega] at h; simpa using h) (by rw [show 2 * (i + 1) + 1 = 2 * i + 1 + 1 + 1 by omega] at k; simpa using k)
set_option maxHeartbeats 1600000 in
theorem pPairs (g o cap n : Nat) (l : List Coin) (w : World) (hl : l.length = n) (hc : ∀ i c, l[i]? = some c → coAt w g (o + i * 2) c) (hg : g < w.heap.size) (hn : n ≤ 10000) (hb : ∀ c ∈ l, 0 ≤ c.1 ∧ c.1 ≤ 1152921504606846976) :
    Calls Tryz.prog 97 #[.slice (some ⟨g, o, none⟩) n cap] w fun e w' => ∃ gu, e = .returned (.slice (some ⟨gu, 0, none⟩) (n / 2) (n / 2)) ∧ OwnC w.heap.size w' (.slice (some ⟨gu, 0, none⟩) (n / 2) (n / 2)) (pairsF l) ∧ Below w.heap.size w w' := by
  obtain ⟨m, hm⟩ : ∃ m, n / 2 = m := ⟨_, rfl⟩
  have hPL := pairsF_len l
  rw [hl, hm] at hPL
  have em : (n : Int) / 2 = m := by omega
  have em2 : (n : Int).tdiv 2 = m := by rw [Int.tdiv_eq_ediv_of_nonneg (by omega)]; omega
  rw [hm]
  have HC := Lib.hid hc; have HL := Lib.hid hl; have HBD := Lib.hid hb
  have HPL := Lib.hid hPL
  have hmn : m + m ≤ n := by omega
  clear hc hl hb hPL hm
  go_enter Tryz.func97, Tryz.ntmps97
  go_wp2_with (refine make_full (f := fC) info_coin (by decide) Tryz.underlying115 (0, false) rfl flatC (by decide) rfl _ _ rfl .i64 .i64 (m : Int) (m : Int) m rfl rfl rfl rfl (by omega) ?_; intro w2 ho2 hb2 hs2)
  have HO := Lib.hid (show OwnC w.heap.size w2 (.slice (some ⟨w.heap.size, 0, none⟩) m m) ((pairsF l).take 0 ++ List.replicate (m - 0) (0, false)) from ho2)
  have HB := Lib.hid hb2
  obtain ⟨gu, hgu⟩ : ∃ gu, w.heap.size = gu := ⟨_, rfl⟩
  rw [hgu] at HO HB hg ⊢
  clear ho2 hb2 hs2 em em2
  have HGU := Lib.hid hgu
  clear hgu
  go_loopw [11] (fun iv wr => ∃ i : Nat, i ≤ m ∧ iv = .int .i64 i ∧ Hid (OwnC gu wr (.slice (some ⟨gu, 0, none⟩) m m) ((pairsF l).take i ++ List.replicate (m - i) (0, false))) ∧ Hid (Below gu w wr)) (fun iv _ => m - (intOf iv).toNat)
  case atStart => exact ⟨0, Nat.zero_le _, rfl, HO, HB⟩
  case round =>
    clear HO HB
    obtain ⟨i, hi, rfl, HO, HB⟩ := hrel
    by_cases hlt : i < m
    · have hii : (i : Int) < m := by omega
      have h1 : 2 * i < l.length := by rw [HL.out]; omega
      have h2 : 2 * i + 1 < l.length := by rw [HL.out]; omega
      obtain ⟨x, hx⟩ : ∃ x, l[2 * i] = x := ⟨_, rfl⟩
      obtain ⟨y, hy⟩ : ∃ y, l[2 * i + 1] = y := ⟨_, rfl⟩
      have hx' : l[2 * i]? = some x := by rw [List.getElem?_eq_getElem h1, hx]
      have hy' : l[2 * i + 1]? = some y := by rw [List.getElem?_eq_getElem h2, hy]
      have bx := HBD.out x (by rw [← hx]; exact List.getElem_mem h1)
      have by' := HBD.out y (by rw [← hy]; exact List.getElem_mem h2)
      have cx := (HC.out _ x hx').kept hg HB.out
      have cy := (HC.out _ y hy').kept hg HB.out
      have hP : (pairsF l)[i]'(by rw [HPL.out]; exact hlt) = (x.1 + y.1, false) := by
        have := pairs_get l i x y hx' hy'
        rw [List.getElem?_eq_getElem (by rw [HPL.out]; exact hlt)] at this
        exact Option.some.inj this
      obtain ⟨X, hX⟩ : ∃ X, x.1 = X := ⟨_, rfl⟩
      obtain ⟨Y, hY⟩ : ∃ Y, y.1 = Y := ⟨_, rfl⟩
      obtain ⟨cx, -⟩ := cx
      obtain ⟨cy, -⟩ := cy
      rw [hX] at cx bx hP
      rw [hY] at cy by' hP
      have hset := take_set (pairsF l) (0, false) i m HPL.out hlt
      rw [hP] at hset
      have hz0 : ((pairsF l).take i ++ List.replicate (m - i) ((0, false) : Coin))[i]? = some (0, false) := by
        rw [List.getElem?_append_right (by rw [List.length_take]; omega), List.length_take_of_le (by rw [HPL.out]; omega), Nat.sub_self, List.getElem?_replicate, if_pos (by omega)]
      have c3 : wr.cell? ⟨gu, i * 2, none⟩ = some (.int .i64 0) := by have := HO.out.cell flatC i 0 _ hz0 (by decide); simpa [fC] using this
      have c4 : wr.cell? ⟨gu, i * 2 + 1, none⟩ = some (.bool false) := by have := HO.out.cell flatC i 1 _ hz0 (by decide); simpa [fC] using this
      have f1 := HO.out.free (i * 2)
      have f2 := HO.out.free (i * 2 + 1)
      have lg := (HO.out.lt _ rfl).2
      have hO2 := OwnS.set2 flatC HO.out i (X + Y, false) (.int .i64 (X + Y)) (.bool false) rfl (by rw [List.length_append, List.length_take_of_le (by rw [HPL.out]; omega), List.length_replicate]; omega)
      rw [hset] at hO2
      have HO2 := Lib.hid hO2
      have HB2 := Lib.hid ((HB.out.setCell (p := ⟨gu, i * 2, none⟩) (Nat.le_refl _) (.int .i64 (X + Y))).setCell (p := ⟨gu, i * 2 + 1, none⟩) (Nat.le_refl _) (.bool false))
      obtain ⟨j0, hj0⟩ : ∃ j0, 2 * i = j0 := ⟨_, rfl⟩
      obtain ⟨j1, hj1⟩ : ∃ j1, j0 + 1 = j1 := ⟨_, rfl⟩
      rw [hj0] at cx
      rw [hj0, hj1] at cy
      have e0 : 2 * (i : Int) = j0 := by omega
      have e1 : (j0 : Int) + 1 = j1 := by omega
      have w0 : IntKind.i64.wrap (j0 : Int) = j0 := IntWalk.i64_in _ (by omega)
      have w1 : IntKind.i64.wrap (j1 : Int) = j1 := IntWalk.i64_in _ (by omega)
      have w3 : IntKind.i64.wrap (X + Y) = X + Y := IntWalk.i64_in _ (by omega)
      have hn0 : (j0 : Int) < n := by omega
      have hn1 : (j1 : Int) < n := by omega
      have cl0 := cell_block cx
      obtain ⟨bx1, bx2⟩ := bx
      obtain ⟨by1, by2⟩ := by'
      clear hx hy hx' hy' hP hX hY hset hO2 HO HB hj0 hj1 h1 h2 hz0
      go_wp2_with fail
      go_region
      go_wp2_with fail
      go_roundw
      case rel => exact ⟨i + 1, by omega, by go_num, HO2, Lib.hid HB2.out.drew⟩
      case measure => simp [intOf] <;> omega
    · obtain rfl : i = m := by omega
      have hO2 := HO.out
      rw [Nat.sub_self, List.replicate_zero, List.append_nil, List.take_of_length_le (by rw [HPL.out]; exact Nat.le_refl _)] at hO2
      have HO2 := Lib.hid hO2
      clear hO2 HO
      go_wp2_with fail
      go_ret
      exact ⟨gu, rfl, by rw [HGU.out]; exact HO2.out, by rw [HGU.out]; exact HB.out⟩
end Go.Proofs.YtmhjmoeeahepaaaGreat

/- Layer 7: two rows of coins as one. -/
namespace Go.Proofs.YtmhjmoeeahepaaaGreat
open Go.ChangeShapes Go.WideShapes Go.ChangeAt Go.RowKit
set_option linter.unusedVariables false
set_option linter.unusedSimpArgs false
set_option maxRecDepth 100000
open Pm
theorem run_coin {X : World} (B T : Nat) (ty : TypeId) (v : Value) (l : List Coin) (x : Int) (b : Bool) (hown : OwnC B X v l) (g c1 : Nat) (hg : X.heap.size = g) (hl : l.length ≤ 1099511627776) (hB : B ≤ X.heap.size) :
    ∃ v' w', (Builtin.append_ #[115, 115] ty #[v, .slice (some ⟨g, 0, none⟩) 1 c1]).run Tryz.prog (X.alloc (.cells #[.int .i64 x, .bool b] T)) = .ok v' w' ∧ OwnC B w' v' (l ++ [(x, b)]) ∧ Below B X w' := by
  subst hg
  obtain ⟨i0, hi, h1, h2, h3⟩ := info_get info_coin
  have hnew : ∀ j u, [Value.int .i64 x, Value.bool b][j]? = some u → (X.alloc (.cells #[.int .i64 x, .bool b] T)).cell? ((⟨X.heap.size, 0, none⟩ : Addr).add j) = some u := by
    refine cells_of (fun j hj => ?_)
    rw [cell_in (heap_alloc_new X _)]; simp
  obtain ⟨v', w', hr, ho', hg', -⟩ := run_append_own (P := Tryz.prog) (X.alloc (.cells #[.int .i64 x, .bool b] T)) B 115 ty 117 i0 _ 2 16 Tryz.underlying115 hi h1 h2 h3 rfl (by decide) v l.length (l.flatMap fC) (World.ownsRow.alloc hown _) ⟨X.heap.size, 0, none⟩ 1 c1 [.int .i64 x, .bool b] rfl hnew (by intro u hu; simp at hu; rcases hu with rfl | rfl <;> rfl) (by unfold maxLen; omega) (by omega) (by simp; omega)
  refine ⟨v', w', hr, ?_, ?_⟩
  · have e : (l ++ [(x, b)]).flatMap fC = l.flatMap fC ++ [.int .i64 x, .bool b] := by simp [fC]
    show World.ownsRow w' B _ 2 v' (l ++ [(x, b)]).length ((l ++ [(x, b)]).flatMap fC)
    rw [e, List.length_append]; exact ho'
  · exact (Below.alloc (Below.refl _ _) hB _).grown hg' (by simp; omega) (fun k hk => (World.ownsRow.lt hown k hk).1)
theorem step_coin {ops : Array Oper} {o : Oper} {a : Act} {X : World} {K : Act → World → Prop} {Q : Exit → Act → World → Prop} {E : Prop} (hgd : o.guard = none) (s xo : Operand)
    (ho : o.op = .call { callee := .builtin .append, args := #[s, xo], argTypes := #[115, 115] })
    (B T : Nat) (v : Value) (l : List Coin) (x : Int) (b : Bool) (hs : a.eval s = v) (hown : OwnC B X v l) (g c1 : Nat) (hg : X.heap.size = g) (hx : a.eval xo = .slice (some ⟨g, 0, none⟩) 1 c1) (hl : l.length ≤ 1099511627776) (hB : B ≤ X.heap.size)
    (h : ∀ v' w', OwnC B w' v' (l ++ [(x, b)]) → Below B X w' → K (a.put o.dst v') w') :
    if Region.wanted o (yielded ops a.tmps) = true then Oper.wp Tryz.prog o a (X.alloc (.cells #[.int .i64 x, .bool b] T)) K Q else E := by
  have hw : Region.wanted o (yielded ops a.tmps) = true := by simp [Region.wanted, hgd]
  rw [if_pos hw]
  obtain ⟨v', w', hr, h2, h3⟩ := run_coin B T o.type v l x b hown g c1 hg hl hB
  unfold Oper.wp execOp
  simp only [ho, resolve, invoke, builtin, Sem.run_bind, Sem.run_pure, Result.andThen_ok, List.map_toArray, List.map_cons, List.map_nil, hs, hx, hr]
  exact h v' w' h2 h3
def slLen : Value → Nat
  | .slice _ n _ => n
  | _ => 0
/-- Coins that lie behind a place. -/
def Lie (w : World) (g o : Nat) (l : List Coin) : Prop := ∀ i c, l[i]? = some c → coAt w g (o + i * 2) c
theorem Lie.tail {w : World} {g o : Nat} {c : Coin} {l : List Coin} (h : Lie w g o (c :: l)) : Lie w g (o + 2) l := fun i d hi => by
  have := h (i + 1) d (by simpa using hi)
  rwa [show o + (i + 1) * 2 = o + 2 + i * 2 by omega] at this
theorem Lie.head {w : World} {g o : Nat} {c : Coin} {l : List Coin} (h : Lie w g o (c :: l)) : coAt w g o c := by
  have := h 0 c rfl
  rwa [Nat.zero_mul, Nat.add_zero] at this
theorem Lie.kept {w w' : World} {g o B : Nat} {l : List Coin} (h : Lie w g o l) (hg : g < B) (hb : Below B w w') : Lie w' g o l := fun i c hi => (h i c hi).kept hg hb
theorem Lie.flat {w : World} {g o : Nat} {l : List Coin} (h : Lie w g o l) : ∀ j u, (l.flatMap fC)[j]? = some u → w.cell? ((⟨g, o, none⟩ : Addr).add j) = some u := by
  intro j u hj
  have e : (⟨g, o, none⟩ : Addr).add j = ⟨g, o + j, none⟩ := by unfold Addr.add; split <;> simp_all
  rw [e]
  have hlt : j < l.length * 2 := by rw [← flat_len flatC l]; exact (List.getElem?_eq_some_iff.1 hj).1
  have hi : j / 2 < l.length := by omega
  have hc := h (j / 2) l[j / 2] (by rw [List.getElem?_eq_getElem hi])
  have hf := flat_get flatC l (j / 2) (j % 2) l[j / 2] (by rw [List.getElem?_eq_getElem hi]) (Nat.mod_lt _ (by decide))
  rw [show j / 2 * 2 + j % 2 = j by omega, hj] at hf
  rcases Nat.mod_two_eq_zero_or_one j with h0 | h1
  · rw [h0] at hf
    have : u = .int .i64 l[j / 2].1 := by simpa [fC] using hf
    rw [this, show o + j = o + j / 2 * 2 by omega]; exact hc.1
  · rw [h1] at hf
    have : u = .bool l[j / 2].2 := by simpa [fC] using hf
    rw [this, show o + j = o + j / 2 * 2 + 1 by omega]; exact hc.2
theorem app_lie {W : World} {ops : Array Oper} {rest : List Oper} {o : Oper} {a : Act} {Q : Exit → Act → World → Prop} (hgd : o.guard = none) (s x : Operand)
    (ho : o.op = .call { callee := .builtin .append, args := #[s, x], argTypes := #[115, 115] })
    (B g p m c : Nat) (v : Value) (l la : List Coin) (hs : a.eval s = v) (hown : OwnC B W v l) (hx : a.eval x = .slice (some ⟨g, p, none⟩) m c) (hm : la.length = m) (hla : Lie W g p la) (hl : l.length + m ≤ 1099511627776) (hB : B ≤ W.heap.size)
    (h : ∀ v' w', OwnC B w' v' (l ++ la) → Below B W w' → wpList Tryz.prog ops Q rest (a.put o.dst v') w') : wpList Tryz.prog ops Q (o :: rest) a W := by
  obtain ⟨i0, hi, h1, h2, h3⟩ := info_get info_coin
  refine wpList_append_own W hgd s x 115 ho B 117 i0 _ 2 16 Tryz.underlying115 hi h1 h2 h3 rfl (by decide) v l.length (l.flatMap fC) hs hown ⟨g, p, none⟩ m c (la.flatMap fC) hx (by rw [flat_len flatC, hm]) hla.flat (flat_one flatC la) (by unfold maxLen; omega) (by omega) hB ?_
  intro v' w' ho' hg' _
  have e : (l ++ la).flatMap fC = l.flatMap fC ++ la.flatMap fC := by simp
  refine h v' w' ?_ ?_
  · show World.ownsRow w' B _ 2 v' (l ++ la).length ((l ++ la).flatMap fC)
    rw [e, List.length_append, hm]; exact ho'
  · exact (Below.refl _ _).grown hg' hB (fun k hk => (World.ownsRow.lt hown k hk).1)
theorem mrg_nil_l : ∀ f (b : List Coin), mrg f [] b = b
  | 0, b => by rw [mrg_zero]; rfl
  | f + 1, b => rfl
theorem mrg_nil_r : ∀ f (a : List Coin), mrg f a [] = a
  | 0, a => by rw [mrg_zero, List.append_nil]
  | f + 1, [] => rfl
  | f + 1, x :: a => by simp [mrg]
set_option maxHeartbeats 3200000 in
theorem pTog (ga oa ca na gb ob cb nb : Nat) (la lb : List Coin) (w : World) (hla : la.length = na) (hlb : lb.length = nb) (ha : Lie w ga oa la) (hb : Lie w gb ob lb) (hga : ga < w.heap.size) (hgb : gb < w.heap.size) (hna : na ≤ 10000) (hnb : nb ≤ 10000) (hca : na ≤ ca) (hcb : nb ≤ cb) (hpos : 0 < na) :
    Calls Tryz.prog 96 #[.slice (some ⟨ga, oa, none⟩) na ca, .slice (some ⟨gb, ob, none⟩) nb cb, .func (Fn.func 98) #[] #[]] w fun e w' => ∃ gu cu, e = .returned (.slice (some ⟨gu, 0, none⟩) (na + nb) cu) ∧ OwnC w.heap.size w' (.slice (some ⟨gu, 0, none⟩) (na + nb) cu) (mrg (na + nb) la lb) ∧ Below w.heap.size w w' := by
  obtain ⟨B, hB⟩ : ∃ B, w.heap.size = B := ⟨_, rfl⟩
  have HBB := Lib.hid hB
  obtain ⟨T, hT⟩ : ∃ T, mrg (na + nb) la lb = T := ⟨_, rfl⟩
  have hTL : T.length = na + nb := by rw [← hT, mrg_len]; omega
  have HTL := Lib.hid hTL
  rw [hB] at hga hgb
  obtain ⟨i0, hi0, h10, h20, h30⟩ := info_get info_coin
  have HI0 := Lib.hid hi0; have H10 := Lib.hid h10; have H20 := Lib.hid h20; have H30 := Lib.hid h30
  have HA := Lib.hid ha; have HBl := Lib.hid hb; have HLA := Lib.hid hla; have HLB := Lib.hid hlb; have HT := Lib.hid hT
  have CL := Lib.hid (fun a b W => pLight a b W)
  rw [hT]
  clear ha hb hla hlb hT hi0 h10 h20 h30 hTL hB
  go_enter Tryz.func96, Tryz.ntmps96
  go_wp2_with (refine wpList_make_own _ rfl _ _ 115 rfl w.heap.size 117 i0 _ 2 Tryz.underlying115 HI0.out H10.out H20.out .i64 .i64 _ (na + nb) rfl rfl (by omega) (by rw [H30.out]; omega) (by unfold maxLen; omega) (Nat.le_refl _) ?_; intro w2 ho2 hg2)
  have HO := Lib.hid (show OwnC w.heap.size w2 (.slice (some ⟨w.heap.size, 0, none⟩) 0 (na + nb)) [] from ho2)
  have HW := Lib.hid (below_of_grown hg2 (Nat.le_refl _) (fun k hk => by cases hk))
  rw [HBB.out] at HO HW ⊢
  obtain ⟨v0, hv0⟩ : ∃ v0, Value.slice (some ⟨B, 0, none⟩) 0 (na + nb) = v0 := ⟨_, rfl⟩
  rw [hv0] at HO ⊢
  clear hv0 ho2 hg2 HI0 H10 H20 H30
  go_loopw [7, 0, 1] (fun ov av bv wr => ∃ (ma mb pa pb da db : Nat) (xa xb lo : List Coin), av = .slice (some ⟨ga, pa, none⟩) ma da ∧ bv = .slice (some ⟨gb, pb, none⟩) mb db ∧ ma ≤ na ∧ mb ≤ nb ∧ ma ≤ da ∧ mb ≤ db ∧ Hid (xa.length = ma ∧ xb.length = mb ∧ lo.length + ma + mb = na + nb ∧ lo ++ mrg (ma + mb) xa xb = T) ∧ Hid (Lie w ga pa xa) ∧ Hid (Lie w gb pb xb) ∧ Hid (OwnC B wr ov lo) ∧ Hid (Below B w wr)) (fun _ av bv _ => slLen av + slLen bv)
  case atStart => exact ⟨na, nb, oa, ob, ca, cb, la, lb, [], rfl, rfl, Nat.le_refl _, Nat.le_refl _, hca, hcb, Lib.hid ⟨HLA.out, HLB.out, by simp, by simpa using HT.out⟩, HA, HBl, HO, HW⟩
  case round =>
    clear HO HW HA HBl HLA HLB HT
    obtain ⟨ma, mb, pa, pb, da, db, xa, xb, lo, rfl, rfl, hma, hmb, hda, hdb, HR, HA, HBl, HO, HW⟩ := hrel
    by_cases hza : ma = 0
    · have hai : ¬ (0 : Int) < ma := by omega
      have HE := Lib.hid (show lo ++ xa ++ xb = T from by
        obtain ⟨r1, r2, r3, r4⟩ := HR.out
        have : xa = [] := List.length_eq_zero_iff.1 (by omega)
        subst this
        rw [← r4, mrg_nil_l, List.append_nil])
      have hszB : B ≤ wr.heap.size := by have := HW.out.size; have := HBB.out; omega
      have HLN := Lib.hid (show lo.length + ma ≤ 1099511627776 by have := HR.out.2.2.1; omega)
      have HLN2 := Lib.hid (show (lo ++ xa).length + mb ≤ 1099511627776 by have := HR.out.2.2.1; rw [List.length_append, HR.out.1]; omega)
      have HAx := Lib.hid (HA.out.kept hga HW.out)
      go_wp2_with (first | (at_builtin; (refine app_lie rfl (.tmp 46) (.tmp 47) rfl B ga pa ma da _ lo xa rfl HO.out rfl HR.out.1 HAx.out HLN.out hszB ?_); intro v5 w5 ho5 hb5; have HO5 := Lib.hid ho5; have HW5 := Lib.hid (HW.out.trans hb5); have HB5 := Lib.hid (HBl.out.kept hgb HW5.out); have hszB5 : B ≤ w5.heap.size := Nat.le_trans hszB hb5.size; clear ho5 hb5) | (at_builtin; (refine app_lie rfl (.tmp 48) (.tmp 49) rfl B gb pb mb db _ (lo ++ xa) xb rfl HO5.out rfl HR.out.2.1 HB5.out HLN2.out hszB5 ?_); intro v6 w6 ho6 hb6; have HO6 := Lib.hid ho6; have HW6 := Lib.hid (HW5.out.trans hb6); clear ho6 hb6))
      go_ret
      have hO6 := HO6.out
      rw [HE.out] at hO6
      obtain ⟨gu, cu, rfl, -, -⟩ := hO6.form (by rw [HTL.out]; omega) (by decide)
      rw [HTL.out] at hO6 ⊢
      exact ⟨gu, cu, rfl, by rw [HBB.out]; exact hO6, by rw [HBB.out]; exact HW6.out⟩
    · have hai : (0 : Int) < ma := by omega
      by_cases hzb : mb = 0
      · have hbi : ¬ (0 : Int) < mb := by omega
        have HE := Lib.hid (show lo ++ xa ++ xb = T from by
          obtain ⟨r1, r2, r3, r4⟩ := HR.out
          have : xb = [] := List.length_eq_zero_iff.1 (by omega)
          subst this
          rw [← r4, mrg_nil_r, List.append_nil])
        clear hzb
        have hszB : B ≤ wr.heap.size := by have := HW.out.size; have := HBB.out; omega
        have HLN := Lib.hid (show lo.length + ma ≤ 1099511627776 by have := HR.out.2.2.1; omega)
        have HLN2 := Lib.hid (show (lo ++ xa).length + mb ≤ 1099511627776 by have := HR.out.2.2.1; rw [List.length_append, HR.out.1]; omega)
        have HAx := Lib.hid (HA.out.kept hga HW.out)
        go_wp2_with (first | (at_builtin; (refine app_lie rfl (.tmp 46) (.tmp 47) rfl B ga pa ma da _ lo xa rfl HO.out rfl HR.out.1 HAx.out HLN.out hszB ?_); intro v5 w5 ho5 hb5; have HO5 := Lib.hid ho5; have HW5 := Lib.hid (HW.out.trans hb5); have HB5 := Lib.hid (HBl.out.kept hgb HW5.out); have hszB5 : B ≤ w5.heap.size := Nat.le_trans hszB hb5.size; clear ho5 hb5) | (at_builtin; (refine app_lie rfl (.tmp 48) (.tmp 49) rfl B gb pb mb db _ (lo ++ xa) xb rfl HO5.out rfl HR.out.2.1 HB5.out HLN2.out hszB5 ?_); intro v6 w6 ho6 hb6; have HO6 := Lib.hid ho6; have HW6 := Lib.hid (HW5.out.trans hb6); clear ho6 hb6))
        go_ret
        have hO6 := HO6.out
        rw [HE.out] at hO6
        obtain ⟨gu, cu, rfl, -, -⟩ := hO6.form (by rw [HTL.out]; omega) (by decide)
        rw [HTL.out] at hO6 ⊢
        exact ⟨gu, cu, rfl, by rw [HBB.out]; exact hO6, by rw [HBB.out]; exact HW6.out⟩
      · have hbi : (0 : Int) < mb := by omega
        obtain ⟨r1, r2, r3, r4⟩ := HR.out
        cases xa with
        | nil => simp at r1; omega
        | cons x ya =>
        cases xb with
        | nil => simp at r2; omega
        | cons y yb =>
          obtain ⟨MA, rfl⟩ : ∃ MA, ma = MA + 1 := ⟨ma - 1, by omega⟩
          obtain ⟨MB, rfl⟩ : ∃ MB, mb = MB + 1 := ⟨mb - 1, by omega⟩
          obtain ⟨x1, x2⟩ := HA.out.head.kept hga HW.out
          obtain ⟨y1, y2⟩ := HBl.out.head.kept hgb HW.out
          have hszB : B ≤ wr.heap.size := by have := HW.out.size; have := HBB.out; omega
          have HS0 := Lib.hid (show (wr.drew.cell? ⟨ga, pa, none⟩ = some (.int .i64 x.1) ∧ wr.drew.cell? ⟨ga, pa + 1, none⟩ = some (.bool x.2) ∧ wr.drew.cell? ⟨gb, pb, none⟩ = some (.int .i64 y.1) ∧ wr.drew.cell? ⟨gb, pb + 1, none⟩ = some (.bool y.2)) from ⟨x1, x2, y1, y2⟩)
          have hla : ga < wr.heap.size := by omega
          have hlb : gb < wr.heap.size := by omega
          clear r1 r2 r3 r4
          go_wp2_with fail
          go_region_held3 (fun V => V.cell? ⟨ga, pa, none⟩ = some (.int .i64 x.1) ∧ V.cell? ⟨ga, pa + 1, none⟩ = some (.bool x.2) ∧ V.cell? ⟨gb, pb, none⟩ = some (.int .i64 y.1) ∧ V.cell? ⟨gb, pb + 1, none⟩ = some (.bool y.2)) (first | exact HS0.out | exact HS1.out) (first | (go_at_call 98; (with_reducible refine (CL.out y x _).mono ?_; rintro e wx ⟨rfl, hbx⟩; have HS1 := Lib.hid (show (wx.cell? ⟨ga, pa, none⟩ = some (.int .i64 x.1) ∧ wx.cell? ⟨ga, pa + 1, none⟩ = some (.bool x.2) ∧ wx.cell? ⟨gb, pb, none⟩ = some (.int .i64 y.1) ∧ wx.cell? ⟨gb, pb + 1, none⟩ = some (.bool y.2)) from ⟨(hbx.cell hla).trans HS0.out.1, (hbx.cell hla).trans HS0.out.2.1, (hbx.cell hlb).trans HS0.out.2.2.1, (hbx.cell hlb).trans HS0.out.2.2.2⟩))) | fail)
          simp only [Exit.then]
          rename_i hK hHeld
          refine hK _ _ ?_
          have HWx := Lib.hid (show Below B w wx from HW.out.trans (((Below.refl wr.heap.size wr).drew.trans hbx).mono hszB))
          have HOx := Lib.hid (show OwnC B wx u7 lo from OwnS.kept (OwnS.drew HO.out) hbx)
          have HSx := Lib.hid HS1.out
          have hgax : ga < wx.heap.size := Nat.lt_of_lt_of_le hla hbx.size
          have hgbx : gb < wx.heap.size := Nat.lt_of_lt_of_le hlb hbx.size
          have hBx : B ≤ wx.heap.size := Nat.le_trans hszB hbx.size
          clear hK hHeld HS0 HS1 x1 x2 y1 y2 hbx HO HW hla hlb hszB
          obtain ⟨c1, c2, c3, c4⟩ := HSx.out
          have hlol : lo.length ≤ 1099511627776 := by have := HR.out.2.2.1; omega
          have hMA : (1 : Int) ≤ (MA : Int) + 1 := by omega
          have hMB : (1 : Int) ≤ (MB : Int) + 1 := by omega
          by_cases hcmp : y.1 < x.1
          · have hcd : decide (y.1 < x.1) = true := decide_eq_true hcmp
            have HR2 := Lib.hid (show (x :: ya).length = MA + 1 ∧ yb.length = MB ∧ (lo ++ [(y.1, y.2)]).length + (MA + 1) + MB = na + nb ∧ (lo ++ [(y.1, y.2)]) ++ mrg (MA + 1 + MB) (x :: ya) yb = T from by
              obtain ⟨r1, r2, r3, r4⟩ := HR.out
              refine ⟨r1, by simpa using r2, by simp; omega, ?_⟩
              rw [← r4, show MA + 1 + (MB + 1) = MA + 1 + MB + 1 by omega]
              simp only [mrg, if_pos hcmp]
              simp)
            obtain ⟨p2, hp2, hp3⟩ : ∃ p2, (if db = 1 then some (⟨gb, pb, none⟩ : Addr) else some ⟨gb, pb + 2, none⟩) = some ⟨gb, p2, none⟩ ∧ (db = 1 ∨ p2 = pb + 2) := by
              by_cases h : db = 1
              · exact ⟨pb, by rw [if_pos h], .inl h⟩
              · exact ⟨pb + 2, by rw [if_neg h], .inr rfl⟩
            have HL2 := Lib.hid (show Lie w gb p2 yb from by
              rcases hp3 with h | rfl
              · have : yb = [] := List.length_eq_zero_iff.1 (by have := HR2.out.2.1; omega)
                subst this
                intro i c hi; simp at hi
              · exact HBl.out.tail)
            have HP3 := Lib.hid hp3
            have hd1 : ((1 : Int) ≤ db) := by omega
            clear hp3
            go_wp2_with fail
            go_region_law (refine step_coin rfl (.tmp 30) (.tmp 34) rfl B 117 _ lo y.1 y.2 rfl (OwnS.drew HOx.out) wx.heap.size 1 rfl rfl hlol hBx ?_; intro v6 w6 ho6 hb6)
            all_goals
              have HO6 := Lib.hid ho6
              have HW6 := Lib.hid (HWx.out.drew.trans hb6)
              clear ho6 hb6 HOx HWx c1 c2 c3 c4 HSx
              go_simp
              go_wp2_with fail
              go_roundw
              case rel => exact ⟨MA + 1, MB, pa, p2, da, db - 1, x :: ya, yb, _, by trivial, by trivial, by omega, by omega, by omega, by omega, HR2, HA, HL2, HO6, HW6⟩
              case measure => simp [slLen] <;> omega
          · have hcd : decide (y.1 < x.1) = false := decide_eq_false hcmp
            have HR2 := Lib.hid (show ya.length = MA ∧ (y :: yb).length = MB + 1 ∧ (lo ++ [(x.1, x.2)]).length + MA + (MB + 1) = na + nb ∧ (lo ++ [(x.1, x.2)]) ++ mrg (MA + (MB + 1)) ya (y :: yb) = T from by
              obtain ⟨r1, r2, r3, r4⟩ := HR.out
              refine ⟨by simpa using r1, r2, by simp; omega, ?_⟩
              rw [← r4, show MA + 1 + (MB + 1) = MA + (MB + 1) + 1 by omega]
              simp only [mrg, if_neg hcmp]
              simp)
            obtain ⟨p2, hp2, hp3⟩ : ∃ p2, (if da = 1 then some (⟨ga, pa, none⟩ : Addr) else some ⟨ga, pa + 2, none⟩) = some ⟨ga, p2, none⟩ ∧ (da = 1 ∨ p2 = pa + 2) := by
              by_cases h : da = 1
              · exact ⟨pa, by rw [if_pos h], .inl h⟩
              · exact ⟨pa + 2, by rw [if_neg h], .inr rfl⟩
            have HL2 := Lib.hid (show Lie w ga p2 ya from by
              rcases hp3 with h | rfl
              · have : ya = [] := List.length_eq_zero_iff.1 (by have := HR2.out.1; omega)
                subst this
                intro i c hi; simp at hi
              · exact HA.out.tail)
            have HP3 := Lib.hid hp3
            have hd1 : ((1 : Int) ≤ da) := by omega
            clear hp3
            go_wp2_with fail
            go_region_law (refine step_coin rfl (.tmp 38) (.tmp 42) rfl B 117 _ lo x.1 x.2 rfl (OwnS.drew HOx.out) wx.heap.size 1 rfl rfl hlol hBx ?_; intro v6 w6 ho6 hb6)
            all_goals
              have HO6 := Lib.hid ho6
              have HW6 := Lib.hid (HWx.out.drew.trans hb6)
              clear ho6 hb6 HOx HWx c1 c2 c3 c4 HSx
              go_simp
              go_wp2_with fail
              go_roundw
              case rel => exact ⟨MA, MB + 1, p2, pb, da - 1, db, ya, y :: yb, _, by trivial, by trivial, by omega, by omega, by omega, by omega, HR2, HL2, HBl, HO6, HW6⟩
              case measure => simp [slLen] <;> omega
end Go.Proofs.YtmhjmoeeahepaaaGreat
