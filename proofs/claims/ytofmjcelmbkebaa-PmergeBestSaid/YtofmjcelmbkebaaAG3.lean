/- Layer 7: the lengths that are taken are whole, and no other lengths cost less. -/
import Derived.Test.YtofmjcelmbkebaaAG2
namespace Go.Proofs.Ytofmjcelmbkebaa.Pm
set_option linter.unusedVariables false
set_option maxRecDepth 100000

/-- Sums of products with what a function says of the place. -/
def dot : List Int → (Nat → Nat) → Int
  | [], _ => 0
  | w :: ws, f => w * f 0 + dot ws (fun j => f (j + 1))
theorem dot_add : ∀ (ws : List Int) (f g : Nat → Nat), dot ws (fun j => f j + g j) = dot ws f + dot ws g
  | [], f, g => rfl
  | w :: ws, f, g => by
    simp only [dot, dot_add ws]
    rw [Int.natCast_add, Int.mul_add]; omega
theorem dot_zero : ∀ (ws : List Int), dot ws (fun _ => 0) = 0
  | [] => rfl
  | w :: ws => by simp only [dot, dot_zero ws]; simp
theorem dot_lt : ∀ (ws : List Int) (s : Nat), dot ws (fun j => if j < s then 1 else 0) = sumW ((symC ws).take s)
  | [], s => by simp [dot, symC, sumW]
  | w :: ws, 0 => by
    have := dot_zero ws
    simp only [dot, List.take_zero, sumW]
    simpa using this
  | w :: ws, s + 1 => by
    have := dot_lt ws s
    have e : symC (w :: ws) = (w, true) :: symC ws := rfl
    rw [e, List.take_succ_cons]
    simp only [dot, sumW, ← this]
    simp
theorem dot_takes (ws : List Int) : ∀ ks : List Nat, dot ws (lenAt ks) = wsum (symC ws) ks
  | [] => by
    have := dot_zero ws
    simpa [wsum, lenAt] using this
  | s :: r => by
    show dot ws (fun j => (if j < s then 1 else 0) + lenAt r j) = _
    rw [dot_add, dot_lt]
    have e : dot ws (fun j => lenAt r j) = dot ws (lenAt r) := rfl
    rw [e, dot_takes ws r]; rfl
theorem lenAt_mono : ∀ (ks : List Nat) (i j : Nat), i ≤ j → lenAt ks j ≤ lenAt ks i
  | [], i, j, h => Nat.le_refl _
  | s :: r, i, j, h => by
    have := lenAt_mono r i j h
    simp only [lenAt]
    split <;> split <;> omega
theorem symC_asc (ws : List Int) (h : ws.Pairwise (· ≤ ·)) : Asc (symC ws) := by
  induction ws with
  | nil => trivial
  | cons w ws ih =>
    rw [List.pairwise_cons] at h
    refine ⟨fun y hy => ?_, ih h.2⟩
    unfold symC at hy
    obtain ⟨x, hx, rfl⟩ := List.mem_map.1 hy
    exact h.1 x hx
theorem symC_pos (ws : List Int) (h : ∀ w ∈ ws, 0 < w) : Pos (symC ws) := by
  intro c hc
  unfold symC at hc
  obtain ⟨x, hx, rfl⟩ := List.mem_map.1 hc
  exact h x hx
/-- The lengths, in the order of the symbols. -/
def ksF (ws : List Int) (L : Nat) : List Nat := takes (symC ws) (L - 1) (2 * ws.length - 2)
theorem ours (ws : List Int) (L : Nat) (hL : 1 ≤ L) (h2 : 2 ≤ ws.length) (hm : ws.length ≤ 2 ^ L) (hA : ws.Pairwise (· ≤ ·)) (hP : ∀ w ∈ ws, 0 < w) :
    kr L (lenAt (ksF ws L)) ws.length = 2 ^ L ∧ (∀ j, j < ws.length → 1 ≤ lenAt (ksF ws L) j) ∧ (∀ j, lenAt (ksF ws L) j ≤ L) ∧
      dot ws (lenAt (ksF ws L)) = sumW ((rowF (symC ws) (L - 1)).take (2 * ws.length - 2)) ∧ 2 * ws.length - 2 ≤ (rowF (symC ws) (L - 1)).length := by
  have hs := symC_sym ws
  have hA' := symC_asc ws hA
  have hP' := symC_pos ws hP
  have hl := symC_len ws
  have hen := row_enough (symC ws) (by omega) (L - 1) (by rw [hl, show L - 1 + 1 = L by omega]; exact hm)
  have hall := top_all (symC ws) hs hA' hP' (by omega) (L - 1) hen
  rw [hl] at hen hall
  obtain ⟨f1, f2, f3, f4⟩ := takes_facts (symC ws) hs hA' hP' (L - 1) _ hen
  have hlen := takes_len (symC ws) (L - 1) (2 * ws.length - 2)
  rw [hall] at f4
  have hku := kr_units (ksF ws L) f2 ws.length f4
  have eL : (ksF ws L).length = L := by unfold ksF; rw [hlen]; omega
  rw [eL] at hku
  refine ⟨?_, ?_, ?_, ?_, hen⟩
  · have e : units (ksF ws L) = 2 ^ (L - 1) * (2 * ws.length - 2) := f1
    obtain ⟨n', hn'⟩ : ∃ n', ws.length = n' + 1 := ⟨ws.length - 1, by omega⟩
    obtain ⟨l', rfl⟩ : ∃ l', L = l' + 1 := ⟨L - 1, by omega⟩
    rw [hn'] at hku ⊢
    rw [e, hn', show 2 * (n' + 1) - 2 = 2 * n' by omega, Nat.add_sub_cancel, ← Nat.mul_assoc, show 2 ^ l' * 2 = 2 ^ (l' + 1) from rfl, Nat.mul_add, Nat.mul_one] at hku
    omega
  · intro j hj
    unfold ksF
    cases hq : L - 1 with
    | zero =>
      rw [hq] at hall
      simp only [takes, hall, lenAt]
      rw [if_pos hj]; exact Nat.le_refl _
    | succ i =>
      rw [hq] at hall
      simp only [takes, hall, lenAt]
      rw [if_pos hj]; omega
  · intro j
    have := lenAt_le (ksF ws L) j
    omega
  · rw [dot_takes]; exact f3

/-- What others take of each row. -/
def Att (S : List Coin) : List (Nat × Int) → Nat → Prop
  | [], _ => False
  | [c], t => t = c.1 ∧ c.1 ≤ S.length ∧ sumW (S.take c.1) ≤ c.2
  | c :: d :: r, t => c.1 ≤ S.length ∧ sumW (S.take c.1) ≤ c.2 ∧ c.1 ≤ t ∧ Att S (d :: r) (2 * (t - c.1))
def sum2 : List (Nat × Int) → Int
  | [] => 0
  | c :: r => c.2 + sum2 r
theorem att_least (S : List Coin) (hA : Asc S) : ∀ (i : Nat) (al : List (Nat × Int)) (t : Nat), al.length = i + 1 → Att S al t → t ≤ (rowF S i).length ∧ sumW ((rowF S i).take t) ≤ sum2 al
  | 0, [c], t, hl, h => by
    obtain ⟨rfl, h1, h2⟩ := h
    refine ⟨h1, ?_⟩
    simp only [sum2, rowF]; omega
  | 0, [], t, hl, h => h.elim
  | 0, c :: d :: r, t, hl, h => by simp at hl
  | i + 1, [], t, hl, h => h.elim
  | i + 1, [c], t, hl, h => by simp at hl
  | i + 1, c :: d :: r, t, hl, h => by
    obtain ⟨h1, h2, h3, h4⟩ := h
    obtain ⟨i1, i2⟩ := att_least S hA i (d :: r) _ (by simpa using hl) h4
    have hp : (pairsF (rowF S i)).length = (rowF S i).length / 2 := pairsF_len _
    have hlen := row_len S i
    have hm := mrg_least _ S (pairsF (rowF S i)) (Nat.le_refl _) hA (pairs_asc _ (row_asc S hA i)) c.1 (t - c.1) h1 (by omega)
    rw [pairs_take _ _ (by omega), show c.1 + (t - c.1) = t by omega] at hm
    have e : mrg (S.length + (pairsF (rowF S i)).length) S (pairsF (rowF S i)) = rowF S (i + 1) := rfl
    rw [e] at hm
    refine ⟨by omega, ?_⟩
    show _ ≤ c.2 + sum2 (d :: r)
    omega
/-- Of lengths and weights: how many are so long, what they weigh, and what they fill. -/
def cntG (k : Nat) : List (Nat × Int) → Nat
  | [] => 0
  | z :: l => (if k ≤ z.1 then 1 else 0) + cntG k l
def weiG (k : Nat) : List (Nat × Int) → Int
  | [] => 0
  | z :: l => (if k ≤ z.1 then z.2 else 0) + weiG k l
def filG (L k : Nat) : List (Nat × Int) → Nat
  | [] => 0
  | z :: l => (if k ≤ z.1 then 2 ^ (L - z.1) else 0) + filG L k l
def prodG : List (Nat × Int) → Int
  | [] => 0
  | z :: l => z.1 * z.2 + prodG l
theorem cntG_le (k : Nat) : ∀ l, cntG k l ≤ l.length
  | [] => Nat.le_refl _
  | z :: l => by simp only [cntG, List.length_cons]; have := cntG_le k l; split <;> omega
theorem take_first : ∀ (x : Coin) (a : List Coin), Asc (x :: a) → ∀ s, s ≤ a.length → sumW ((x :: a).take s) ≤ sumW (a.take s)
  | x, a, h, 0, hs => by simp [sumW]
  | x, [], h, s + 1, hs => by simp at hs
  | x, y :: a, h, s + 1, hs => by
    have := take_first y a h.2 s (by simpa using hs)
    have hxy := h.1 y (by simp)
    simp only [List.take_succ_cons, sumW] at this ⊢
    omega
theorem wei_least (k : Nat) : ∀ l : List (Nat × Int), Asc (symC (l.map (·.2))) → sumW ((symC (l.map (·.2))).take (cntG k l)) ≤ weiG k l
  | [], _ => by simp [symC, sumW, weiG]
  | z :: l, h => by
    have ih := wei_least k l h.2
    simp only [cntG, weiG]
    by_cases hz : k ≤ z.1
    · rw [if_pos hz, if_pos hz, Nat.add_comm]
      show sumW (((z.2, true) :: symC (l.map (·.2))).take (cntG k l + 1)) ≤ _
      rw [List.take_succ_cons]
      simp only [sumW]; omega
    · rw [if_neg hz, if_neg hz, Nat.zero_add]
      have := take_first (z.2, true) (symC (l.map (·.2))) (show Asc ((z.2, true) :: symC (l.map (·.2))) from h) (cntG k l) (by rw [symC_len, List.length_map]; exact cntG_le k l)
      have e : symC ((z :: l).map (·.2)) = (z.2, true) :: symC (l.map (·.2)) := rfl
      rw [e]; omega
theorem fil_step (L k : Nat) (hk : k < L) : ∀ l : List (Nat × Int), (∀ z ∈ l, z.1 ≤ L) → filG L k l + 2 ^ (L - k) * cntG (k + 1) l = filG L (k + 1) l + 2 ^ (L - k) * cntG k l
  | [], _ => rfl
  | z :: l, h => by
    have ih := fil_step L k hk l (fun z hz => h z (by simp [hz]))
    simp only [filG, cntG, Nat.mul_add]
    by_cases h1 : k + 1 ≤ z.1
    · simp only [if_pos h1, if_pos (show k ≤ z.1 by omega), Nat.mul_one]
      omega
    · by_cases h2 : k ≤ z.1
      · have e : z.1 = k := by omega
        rw [if_pos h2, if_neg h1, if_neg h1, if_pos h2, Nat.mul_one, Nat.mul_zero, e]
        omega
      · simp only [if_neg h1, if_neg h2, Nat.mul_zero]
        omega
theorem fil_last (L : Nat) : ∀ l : List (Nat × Int), (∀ z ∈ l, z.1 ≤ L) → filG L L l = cntG L l
  | [], _ => rfl
  | z :: l, h => by
    have ih := fil_last L l (fun z hz => h z (by simp [hz]))
    have hz := h z (by simp)
    simp only [filG, cntG, ih]
    by_cases h1 : L ≤ z.1
    · have e : z.1 = L := by omega
      rw [if_pos h1, if_pos h1, e, Nat.sub_self]
    · rw [if_neg h1, if_neg h1]
theorem fil_le (L k : Nat) : ∀ l : List (Nat × Int), filG L k l ≤ 2 ^ (L - k) * cntG k l
  | [] => Nat.le_refl _
  | z :: l => by
    have ih := fil_le L k l
    simp only [filG, cntG, Nat.mul_add]
    by_cases h1 : k ≤ z.1
    · rw [if_pos h1, if_pos h1]
      have : 2 ^ (L - z.1) ≤ 2 ^ (L - k) := Nat.pow_le_pow_right (by decide) (by omega)
      omega
    · rw [if_neg h1, if_neg h1]; omega
/-- The levels from L - i to L. -/
def levs (L : Nat) (l : List (Nat × Int)) : Nat → List (Nat × Int)
  | 0 => [(cntG L l, weiG L l)]
  | i + 1 => (cntG (L - (i + 1)) l, weiG (L - (i + 1)) l) :: levs L l i
theorem levs_len (L : Nat) (l : List (Nat × Int)) : ∀ i, (levs L l i).length = i + 1
  | 0 => rfl
  | i + 1 => by simp only [levs, List.length_cons, levs_len L l i]
theorem levs_att (L : Nat) (l : List (Nat × Int)) (hm : ∀ z ∈ l, z.1 ≤ L) (hA : Asc (symC (l.map (·.2)))) : ∀ (i : Nat), i < L → ∀ t, 2 ^ i * t + filG L (L - i) l = 2 ^ (i + 1) * cntG (L - i) l →
    Att (symC (l.map (·.2))) (levs L l i) t
  | 0, hi, t, h => by
    have hl := fil_last L l hm
    rw [Nat.sub_zero, hl] at h
    refine ⟨by simp only; omega, by simp only [symC_len, List.length_map]; exact cntG_le _ _, wei_least L l hA⟩
  | i + 1, hi, t, h => by
    have hst := fil_step L (L - (i + 1)) (by omega) l hm
    rw [show L - (L - (i + 1)) = i + 1 by omega, show L - (i + 1) + 1 = L - i by omega] at hst
    have hle := fil_le L (L - i) l
    rw [show L - (L - i) = i by omega] at hle
    obtain ⟨a, ha⟩ : ∃ a, cntG (L - (i + 1)) l = a := ⟨_, rfl⟩
    obtain ⟨b, hb⟩ : ∃ b, cntG (L - i) l = b := ⟨_, rfl⟩
    rw [ha] at h hst
    rw [hb] at hst hle
    have hpp : 2 ^ (i + 1) = 2 * 2 ^ i := by rw [Nat.pow_succ]; omega
    have hpp2 : 2 ^ (i + 1 + 1) * a = 2 * (2 ^ (i + 1) * a) := by rw [Nat.pow_succ]; rw [Nat.mul_comm (2 ^ (i + 1)) 2, Nat.mul_assoc]
    -- 2^(i+1) t = 2^(i+1) a + 2^(i+1) b - fil
    have h1 : 2 ^ (i + 1) * t + filG L (L - i) l = 2 ^ (i + 1) * a + 2 ^ (i + 1) * b := by omega
    have hble : filG L (L - i) l ≤ 2 ^ (i + 1) * b := by
      calc _ ≤ 2 ^ i * b := hle
        _ ≤ _ := Nat.mul_le_mul_right _ (by omega)
    have hat : a ≤ t := by
      have : 2 ^ (i + 1) * a ≤ 2 ^ (i + 1) * t := by omega
      exact Nat.le_of_mul_le_mul_left this (Nat.pow_pos (by decide))
    have hrest : Att (symC (l.map (·.2))) (levs L l i) (2 * (t - a)) := by
      refine levs_att L l hm hA i (by omega) _ ?_
      rw [hb]
      obtain ⟨d, rfl⟩ : ∃ d, t = a + d := ⟨t - a, by omega⟩
      rw [Nat.add_sub_cancel_left]
      have e1 : 2 ^ i * (2 * d) = 2 ^ (i + 1) * d := by rw [Nat.pow_succ, Nat.mul_assoc]
      rw [e1]
      rw [Nat.mul_add] at h1
      omega
    have hc : a ≤ (symC (l.map (·.2))).length ∧ sumW ((symC (l.map (·.2))).take a) ≤ weiG (L - (i + 1)) l := by
      rw [← ha]
      exact ⟨by rw [symC_len, List.length_map]; exact cntG_le _ _, wei_least _ l hA⟩
    simp only [levs, ha]
    have hne := levs_len L l i
    cases hq : levs L l i with
    | nil => rw [hq] at hne; simp at hne
    | cons d r =>
      rw [hq] at hrest
      exact ⟨hc.1, hc.2, hat, hrest⟩
theorem levs_sum (L : Nat) : ∀ (l : List (Nat × Int)), (∀ z ∈ l, 1 ≤ z.1 ∧ z.1 ≤ L) → 1 ≤ L → sum2 (levs L l (L - 1)) = prodG l := by
  have one : ∀ (i : Nat) (z : Nat × Int) (l : List (Nat × Int)), i < L → z.1 ≤ L → sum2 (levs L (z :: l) i) = (if L - i ≤ z.1 then ((z.1 - (L - i) + 1 : Nat) : Int) * z.2 else 0) + sum2 (levs L l i) := by
    intro i z l hi hz
    induction i with
    | zero =>
      simp only [levs, sum2, weiG, Nat.sub_zero]
      by_cases h : L ≤ z.1
      · rw [if_pos h, if_pos h, show z.1 - L + 1 = 1 by omega]; simp
      · rw [if_neg h, if_neg h]; omega
    | succ i ih =>
      simp only [levs, sum2, weiG, ih (by omega)]
      by_cases h : L - (i + 1) ≤ z.1
      · rw [if_pos h, if_pos h]
        by_cases h2 : L - i ≤ z.1
        · rw [if_pos h2, show z.1 - (L - (i + 1)) + 1 = z.1 - (L - i) + 1 + 1 by omega]
          rw [Int.natCast_succ (z.1 - (L - i) + 1), Int.add_mul]; omega
        · rw [if_neg h2, show z.1 - (L - (i + 1)) + 1 = 1 by omega]; simp; omega
      · rw [if_neg h, if_neg h, if_neg (by omega)]; omega
  have none : ∀ i, sum2 (levs L [] i) = 0 := by
    intro i
    induction i with
    | zero => rfl
    | succ i ih => simp only [levs, sum2, weiG, ih]; rfl
  intro l
  induction l with
  | nil => intro _ _; rw [none]; rfl
  | cons z l ih =>
    intro h hL
    obtain ⟨h1, h2⟩ := h z (by simp)
    rw [one (L - 1) z l (by omega) h2, ih (fun z hz => h z (by simp [hz])) hL]
    rw [if_pos (by omega), show z.1 - (L - (L - 1)) + 1 = z.1 by omega]
    rfl
theorem fil_one (L : Nat) : ∀ l : List (Nat × Int), (∀ z ∈ l, 1 ≤ z.1) → cntG 1 l = l.length
  | [], _ => rfl
  | z :: l, h => by
    simp only [cntG, List.length_cons, if_pos (h z (by simp)), fil_one L l (fun z hz => h z (by simp [hz]))]; omega
/-- No lengths that are whole cost less. -/
theorem least (ws : List Int) (L : Nat) (hL : 1 ≤ L) (h2 : 2 ≤ ws.length) (hm : ws.length ≤ 2 ^ L) (hA : ws.Pairwise (· ≤ ·)) (hP : ∀ w ∈ ws, 0 < w)
    (l : List (Nat × Int)) (hl : l.map (·.2) = ws) (hb : ∀ z ∈ l, 1 ≤ z.1 ∧ z.1 ≤ L) (hk : filG L 1 l = 2 ^ L) : dot ws (lenAt (ksF ws L)) ≤ prodG l := by
  obtain ⟨o1, o2, o3, o4, o5⟩ := ours ws L hL h2 hm hA hP
  have hA' := symC_asc ws hA
  have hll : l.length = ws.length := by rw [← hl, List.length_map]
  rw [o4]
  have hatt := levs_att L l (fun z hz => (hb z hz).2) (by rw [hl]; exact hA') (L - 1) (by omega) (2 * ws.length - 2) (by
    rw [show L - (L - 1) = 1 by omega, hk, fil_one L l (fun z hz => (hb z hz).1), hll]
    obtain ⟨n', hn'⟩ : ∃ n', ws.length = n' + 1 := ⟨ws.length - 1, by omega⟩
    obtain ⟨l', rfl⟩ : ∃ l', L = l' + 1 := ⟨L - 1, by omega⟩
    rw [hn', show 2 * (n' + 1) - 2 = 2 * n' by omega, Nat.add_sub_cancel, ← Nat.mul_assoc, show 2 ^ l' * 2 = 2 ^ (l' + 1) from rfl, Nat.mul_add, Nat.mul_one])
  rw [hl] at hatt
  have := (att_least (symC ws) hA' (L - 1) _ _ (by rw [levs_len]) hatt).2
  rw [levs_sum L l hb hL] at this
  exact this
end Go.Proofs.Ytofmjcelmbkebaa.Pm
