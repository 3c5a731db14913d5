import Derived.Test.YtipcdkemokkdfaaGreatK16
import Derived.Deep.RegionLaw
import Derived.Deep.DeepMust
/- Layer 7: the lengths that are taken are whole, and no other lengths cost less. -/
namespace Go.Proofs.YtipcdkemokkdfaaGreat.Pm
set_option linter.unusedVariables false
set_option maxRecDepth 100000

/-- Sums of products with what a function says of the place. -/
def dot : List Int → (Nat → Nat) → Int
  | [], _ => 0
  | w :: ws, f => w * f 0 + dot ws (fun j => f (j + 1))
theorem dot_add : ∀ (ws : List Int) (f g : Nat → Nat), dot ws (fun j => f j + g j) = dot ws f + dot ws g
  | [], f, g => rfl
  | w :: ws, f, g => by
    simp only [dot, dot_add ws]
    rw [Int.natCast_add, Int.mul_add]; omega
theorem dot_zero : ∀ (ws : List Int), dot ws (fun _ => 0) = 0
  | [] => rfl
  | w :: ws => by simp only [dot, dot_zero ws]; simp
theorem dot_lt : ∀ (ws : List Int) (s : Nat), dot ws (fun j => if j < s then 1 else 0) = sumW ((symC ws).take s)
  | [], s => by simp [dot, symC, sumW]
  | w :: ws, 0 => by
    have := dot_zero ws
    simp only [dot, List.take_zero, sumW]
    simpa using this
  | w :: ws, s + 1 => by
    have := dot_lt ws s
    have e : symC (w :: ws) = (w, true) :: symC ws := rfl
    rw [e, List.take_succ_cons]
    simp only [dot, sumW, ← this]
    simp
theorem dot_takes (ws : List Int) : ∀ ks : List Nat, dot ws (lenAt ks) = wsum (symC ws) ks
  | [] => by
    have := dot_zero ws
    simpa [wsum, lenAt] using this
  | s :: r => by
    show dot ws (fun j => (if j < s then 1 else 0) + lenAt r j) = _
    rw [dot_add, dot_lt]
    have e : dot ws (fun j => lenAt r j) = dot ws (lenAt r) := rfl
    rw [e, dot_takes ws r]; rfl
theorem lenAt_mono : ∀ (ks : List Nat) (i j : Nat), i ≤ j → lenAt ks j ≤ lenAt ks i
  | [], i, j, h => Nat.le_refl _
  | s :: r, i, j, h => by
    have := lenAt_mono r i j h
    simp only [lenAt]
    split <;> split <;> omega
theorem symC_asc (ws : List Int) (h : ws.Pairwise (· ≤ ·)) : Asc (symC ws) := by
  induction ws with
  | nil => trivial
  | cons w ws ih =>
    rw [List.pairwise_cons] at h
    refine ⟨fun y hy => ?_, ih h.2⟩
    unfold symC at hy
    obtain ⟨x, hx, rfl⟩ := List.mem_map.1 hy
    exact h.1 x hx
theorem symC_pos (ws : List Int) (h : ∀ w ∈ ws, 0 < w) : Pos (symC ws) := by
  intro c hc
  unfold symC at hc
  obtain ⟨x, hx, rfl⟩ := List.mem_map.1 hc
  exact h x hx
/-- The lengths, in the order of the symbols. -/
def ksF (ws : List Int) (L : Nat) : List Nat := takes (symC ws) (L - 1) (2 * ws.length - 2)
theorem ours (ws : List Int) (L : Nat) (hL : 1 ≤ L) (h2 : 2 ≤ ws.length) (hm : ws.length ≤ 2 ^ L) (hA : ws.Pairwise (· ≤ ·)) (hP : ∀ w ∈ ws, 0 < w) :
    kr L (lenAt (ksF ws L)) ws.length = 2 ^ L ∧ (∀ j, j < ws.length → 1 ≤ lenAt (ksF ws L) j) ∧ (∀ j, lenAt (ksF ws L) j ≤ L) ∧
      dot ws (lenAt (ksF ws L)) = sumW ((rowF (symC ws) (L - 1)).take (2 * ws.length - 2)) ∧ 2 * ws.length - 2 ≤ (rowF (symC ws) (L - 1)).length := by
  have hs := symC_sym ws
  have hA' := symC_asc ws hA
  have hP' := symC_pos ws hP
  have hl := symC_len ws
  have hen := row_enough (symC ws) (by omega) (L - 1) (by rw [hl, show L - 1 + 1 = L by omega]; exact hm)
  have hall := top_all (symC ws) hs hA' hP' (by omega) (L - 1) hen
  rw [hl] at hen hall
  obtain ⟨f1, f2, f3, f4⟩ := takes_facts (symC ws) hs hA' hP' (L - 1) _ hen
  have hlen := takes_len (symC ws) (L - 1) (2 * ws.length - 2)
  rw [hall] at f4
  have hku := kr_units (ksF ws L) f2 ws.length f4
  have eL : (ksF ws L).length = L := by unfold ksF; rw [hlen]; omega
  rw [eL] at hku
  refine ⟨?_, ?_, ?_, ?_, hen⟩
  · have e : units (ksF ws L) = 2 ^ (L - 1) * (2 * ws.length - 2) := f1
    obtain ⟨n', hn'⟩ : ∃ n', ws.length = n' + 1 := ⟨ws.length - 1, by omega⟩
    obtain ⟨l', rfl⟩ : ∃ l', L = l' + 1 := ⟨L - 1, by omega⟩
    rw [hn'] at hku ⊢
    rw [e, hn', show 2 * (n' + 1) - 2 = 2 * n' by omega, Nat.add_sub_cancel, ← Nat.mul_assoc, show 2 ^ l' * 2 = 2 ^ (l' + 1) from rfl, Nat.mul_add, Nat.mul_one] at hku
    omega
  · intro j hj
    unfold ksF
    cases hq : L - 1 with
    | zero =>
      rw [hq] at hall
      simp only [takes, hall, lenAt]
      rw [if_pos hj]; exact Nat.le_refl _
    | succ i =>
      rw [hq] at hall
      simp only [takes, hall, lenAt]
      rw [if_pos hj]; omega
  · intro j
    have := lenAt_le (ksF ws L) j
    omega
  · rw [dot_takes]; exact f3

/-- What others take of each row. -/
def Att (S : List Coin) : List (Nat × Int) → Nat → Prop
  | [], _ => False
  | [c], t => t = c.1 ∧ c.1 ≤ S.length ∧ sumW (S.take c.1) ≤ c.2
  | c :: d :: r, t => c.1 ≤ S.length ∧ sumW (S.take c.1) ≤ c.2 ∧ c.1 ≤ t ∧ Att S (d :: r) (2 * (t - c.1))
def sum2 : List (Nat × Int) → Int
  | [] => 0
  | c :: r => c.2 + sum2 r
theorem att_least (S : List Coin) (hA : Asc S) : ∀ (i : Nat) (al : List (Nat × Int)) (t : Nat), al.length = i + 1 → Att S al t → t ≤ (rowF S i).length ∧ sumW ((rowF S i).take t) ≤ sum2 al
  | 0, [c], t, hl, h => by
    obtain ⟨rfl, h1, h2⟩ := h
    refine ⟨h1, ?_⟩
    simp only [sum2, rowF]; omega
  | 0, [], t, hl, h => h.elim
  | 0, c :: d :: r, t, hl, h => by simp at hl
  | i + 1, [], t, hl, h => h.elim
  | i + 1, [c], t, hl, h => by simp at hl
  | i + 1, c :: d :: r, t, hl, h => by
    obtain ⟨h1, h2, h3, h4⟩ := h
    obtain ⟨i1, i2⟩ := att_least S hA i (d :: r) _ (by simpa using hl) h4
    have hp : (pairsF (rowF S i)).length = (rowF S i).length / 2 := pairsF_len _
    have hlen := row_len S i
    have hm := mrg_least _ S (pairsF (rowF S i)) (Nat.le_refl _) hA (pairs_asc _ (row_asc S hA i)) c.1 (t - c.1) h1 (by omega)
    rw [pairs_take _ _ (by omega), show c.1 + (t - c.1) = t by omega] at hm
    have e : mrg (S.length + (pairsF (rowF S i)).length) S (pairsF (rowF S i)) = rowF S (i + 1) := rfl
    rw [e] at hm
    refine ⟨by omega, ?_⟩
    show _ ≤ c.2 + sum2 (d :: r)
    omega
/-- Of lengths and weights: how many are so long, what they weigh, and what they fill. -/
def cntG (k : Nat) : List (Nat × Int) → Nat
  | [] => 0
  | z :: l => (if k ≤ z.1 then 1 else 0) + cntG k l
def weiG (k : Nat) : List (Nat × Int) → Int
  | [] => 0
  | z :: l => (if k ≤ z.1 then z.2 else 0) + weiG k l
def filG (L k : Nat) : List (Nat × Int) → Nat
  | [] => 0
  | z :: l => (if k ≤ z.1 then 2 ^ (L - z.1) else 0) + filG L k l
def prodG : List (Nat × Int) → Int
  | [] => 0
  | z :: l => z.1 * z.2 + prodG l
theorem cntG_le (k : Nat) : ∀ l, cntG k l ≤ l.length
  | [] => Nat.le_refl _
  | z :: l => by simp only [cntG, List.length_cons]; have := cntG_le k l; split <;> omega
theorem take_first : ∀ (x : Coin) (a : List Coin), Asc (x :: a) → ∀ s, s ≤ a.length → sumW ((x :: a).take s) ≤ sumW (a.take s)
  | x, a, h, 0, hs => by simp [sumW]
  | x, [], h, s + 1, hs => by simp at hs
  | x, y :: a, h, s + 1, hs => by
    have := take_first y a h.2 s (by simpa using hs)
    have hxy := h.1 y (by simp)
    simp only [List.take_succ_cons, sumW] at this ⊢
    omega
theorem wei_least (k : Nat) : ∀ l : List (Nat × Int), Asc (symC (l.map (·.2))) → sumW ((symC (l.map (·.2))).take (cntG k l)) ≤ weiG k l
  | [], _ => by simp [symC, sumW, weiG]
  | z :: l, h => by
    have ih := wei_least k l h.2
    simp only [cntG, weiG]
    by_cases hz : k ≤ z.1
    · rw [if_pos hz, if_pos hz, Nat.add_comm]
      show sumW (((z.2, true) :: symC (l.map (·.2))).take (cntG k l + 1)) ≤ _
      rw [List.take_succ_cons]
      simp only [sumW]; omega
    · rw [if_neg hz, if_neg hz, Nat.zero_add]
      have := take_first (z.2, true) (symC (l.map (·.2))) (show Asc ((z.2, true) :: symC (l.map (·.2))) from h) (cntG k l) (by rw [symC_len, List.length_map]; exact cntG_le k l)
      have e : symC ((z :: l).map (·.2)) = (z.2, true) :: symC (l.map (·.2)) := rfl
      rw [e]; omega
theorem fil_step (L k : Nat) (hk : k < L) : ∀ l : List (Nat × Int), (∀ z ∈ l, z.1 ≤ L) → filG L k l + 2 ^ (L - k) * cntG (k + 1) l = filG L (k + 1) l + 2 ^ (L - k) * cntG k l
  | [], _ => rfl
  | z :: l, h => by
    have ih := fil_step L k hk l (fun z hz => h z (by simp [hz]))
    simp only [filG, cntG, Nat.mul_add]
    by_cases h1 : k + 1 ≤ z.1
    · simp only [if_pos h1, if_pos (show k ≤ z.1 by omega), Nat.mul_one]
      omega
    · by_cases h2 : k ≤ z.1
      · have e : z.1 = k := by omega
        rw [if_pos h2, if_neg h1, if_neg h1, if_pos h2, Nat.mul_one, Nat.mul_zero, e]
        omega
      · simp only [if_neg h1, if_neg h2, Nat.mul_zero]
        omega
theorem fil_last (L : Nat) : ∀ l : List (Nat × Int), (∀ z ∈ l, z.1 ≤ L) → filG L L l = cntG L l
  | [], _ => rfl
  | z :: l, h => by
    have ih := fil_last L l (fun z hz => h z (by simp [hz]))
    have hz := h z (by simp)
    simp only [filG, cntG, ih]
    by_cases h1 : L ≤ z.1
    · have e : z.1 = L := by omega
      rw [if_pos h1, if_pos h1, e, Nat.sub_self]
    · rw [if_neg h1, if_neg h1]
theorem fil_le (L k : Nat) : ∀ l : List (Nat × Int), filG L k l ≤ 2 ^ (L - k) * cntG k l
  | [] => Nat.le_refl _
  | z :: l => by
    have ih := fil_le L k l
    simp only [filG, cntG, Nat.mul_add]
    by_cases h1 : k ≤ z.1
    · rw [if_pos h1, if_pos h1]
      have : 2 ^ (L - z.1) ≤ 2 ^ (L - k) := Nat.pow_le_pow_right (by decide) (by omega)
      omega
    · rw [if_neg h1, if_neg h1]; omega
/-- The levels from L - i to L. -/
def levs (L : Nat) (l : List (Nat × Int)) : Nat → List (Nat × Int)
  | 0 => [(cntG L l, weiG L l)]
  | i + 1 => (cntG (L - (i + 1)) l, weiG (L - (i + 1)) l) :: levs L l i
theorem levs_len (L : Nat) (l : List (Nat × Int)) : ∀ i, (levs L l i).length = i + 1
  | 0 => rfl
  | i + 1 => by simp only [levs, List.length_cons, levs_len L l i]
theorem levs_att (L : Nat) (l : List (Nat × Int)) (hm : ∀ z ∈ l, z.1 ≤ L) (hA : Asc (symC (l.map (·.2)))) : ∀ (i : Nat), i < L → ∀ t, 2 ^ i * t + filG L (L - i) l = 2 ^ (i + 1) * cntG (L - i) l →
    Att (symC (l.map (·.2))) (levs L l i) t
  | 0, hi, t, h => by
    have hl := fil_last L l hm
    rw [Nat.sub_zero, hl] at h
    refine ⟨by simp only; omega, by simp only [symC_len, List.length_map]; exact cntG_le _ _, wei_least L l hA⟩
  | i + 1, hi, t, h => by
    have hst := fil_step L (L - (i + 1)) (by omega) l hm
    rw [show L - (L - (i + 1)) = i + 1 by omega, show L - (i + 1) + 1 = L - i by omega] at hst
    have hle := fil_le L (L - i) l
    rw [show L - (L - i) = i by omega] at hle
    obtain ⟨a, ha⟩ : ∃ a, cntG (L - (i + 1)) l = a := ⟨_, rfl⟩
    obtain ⟨b, hb⟩ : ∃ b, cntG (L - i) l = b := ⟨_, rfl⟩
    rw [ha] at h hst
    rw [hb] at hst hle
    have hpp : 2 ^ (i + 1) = 2 * 2 ^ i := by rw [Nat.pow_succ]; omega
    have hpp2 : 2 ^ (i + 1 + 1) * a = 2 * (2 ^ (i + 1) * a) := by rw [Nat.pow_succ]; rw [Nat.mul_comm (2 ^ (i + 1)) 2, Nat.mul_assoc]
    -- 2^(i+1) t = 2^(i+1) a + 2^(i+1) b - fil
    have h1 : 2 ^ (i + 1) * t + filG L (L - i) l = 2 ^ (i + 1) * a + 2 ^ (i + 1) * b := by omega
    have hble : filG L (L - i) l ≤ 2 ^ (i + 1) * b := by
      calc _ ≤ 2 ^ i * b := hle
        _ ≤ _ := Nat.mul_le_mul_right _ (by omega)
    have hat : a ≤ t := by
      have : 2 ^ (i + 1) * a ≤ 2 ^ (i + 1) * t := by omega
      exact Nat.le_of_mul_le_mul_left this (Nat.pow_pos (by decide))
    have hrest : Att (symC (l.map (·.2))) (levs L l i) (2 * (t - a)) := by
      refine levs_att L l hm hA i (by omega) _ ?_
      rw [hb]
      obtain ⟨d, rfl⟩ : ∃ d, t = a + d := ⟨t - a, by omega⟩
      rw [Nat.add_sub_cancel_left]
      have e1 : 2 ^ i * (2 * d) = 2 ^ (i + 1) * d := by rw [Nat.pow_succ, Nat.mul_assoc]
      rw [e1]
      rw [Nat.mul_add] at h1
      omega
    have hc : a ≤ (symC (l.map (·.2))).length ∧ sumW ((symC (l.map (·.2))).take a) ≤ weiG (L - (i + 1)) l := by
      rw [← ha]
      exact ⟨by rw [symC_len, List.length_map]; exact cntG_le _ _, wei_least _ l hA⟩
    simp only [levs, ha]
    have hne := levs_len L l i
    cases hq : levs L l i with
    | nil => rw [hq] at hne; simp at hne
    | cons d r =>
      rw [hq] at hrest
      exact ⟨hc.1, hc.2, hat, hrest⟩
theorem levs_sum (L : Nat) : ∀ (l : List (Nat × Int)), (∀ z ∈ l, 1 ≤ z.1 ∧ z.1 ≤ L) → 1 ≤ L → sum2 (levs L l (L - 1)) = prodG l := by
  have one : ∀ (i : Nat) (z : Nat × Int) (l : List (Nat × Int)), i < L → z.1 ≤ L → sum2 (levs L (z :: l) i) = (if L - i ≤ z.1 then ((z.1 - (L - i) + 1 : Nat) : Int) * z.2 else 0) + sum2 (levs L l i) := by
    intro i z l hi hz
    induction i with
    | zero =>
      simp only [levs, sum2, weiG, Nat.sub_zero]
      by_cases h : L ≤ z.1
      · rw [if_pos h, if_pos h, show z.1 - L + 1 = 1 by omega]; simp
      · rw [if_neg h, if_neg h]; omega
    | succ i ih =>
      simp only [levs, sum2, weiG, ih (by omega)]
      by_cases h : L - (i + 1) ≤ z.1
      · rw [if_pos h, if_pos h]
        by_cases h2 : L - i ≤ z.1
        · rw [if_pos h2, show z.1 - (L - (i + 1)) + 1 = z.1 - (L - i) + 1 + 1 by omega]
          rw [Int.natCast_succ (z.1 - (L - i) + 1), Int.add_mul]; omega
        · rw [if_neg h2, show z.1 - (L - (i + 1)) + 1 = 1 by omega]; simp; omega
      · rw [if_neg h, if_neg h, if_neg (by omega)]; omega
  have none : ∀ i, sum2 (levs L [] i) = 0 := by
    intro i
    induction i with
    | zero => rfl
    | succ i ih => simp only [levs, sum2, weiG, ih]; rfl
  intro l
  induction l with
  | nil => intro _ _; rw [none]; rfl
  | cons z l ih =>
    intro h hL
    obtain ⟨h1, h2⟩ := h z (by simp)
    rw [one (L - 1) z l (by omega) h2, ih (fun z hz => h z (by simp [hz])) hL]
    rw [if_pos (by omega), show z.1 - (L - (L - 1)) + 1 = z.1 by omega]
    rfl
theorem fil_one (L : Nat) : ∀ l : List (Nat × Int), (∀ z ∈ l, 1 ≤ z.1) → cntG 1 l = l.length
  | [], _ => rfl
  | z :: l, h => by
    simp only [cntG, List.length_cons, if_pos (h z (by simp)), fil_one L l (fun z hz => h z (by simp [hz]))]; omega
/-- No lengths that are whole cost less. -/
theorem least (ws : List Int) (L : Nat) (hL : 1 ≤ L) (h2 : 2 ≤ ws.length) (hm : ws.length ≤ 2 ^ L) (hA : ws.Pairwise (· ≤ ·)) (hP : ∀ w ∈ ws, 0 < w)
    (l : List (Nat × Int)) (hl : l.map (·.2) = ws) (hb : ∀ z ∈ l, 1 ≤ z.1 ∧ z.1 ≤ L) (hk : filG L 1 l = 2 ^ L) : dot ws (lenAt (ksF ws L)) ≤ prodG l := by
  obtain ⟨o1, o2, o3, o4, o5⟩ := ours ws L hL h2 hm hA hP
  have hA' := symC_asc ws hA
  have hll : l.length = ws.length := by rw [← hl, List.length_map]
  rw [o4]
  have hatt := levs_att L l (fun z hz => (hb z hz).2) (by rw [hl]; exact hA') (L - 1) (by omega) (2 * ws.length - 2) (by
    rw [show L - (L - 1) = 1 by omega, hk, fil_one L l (fun z hz => (hb z hz).1), hll]
    obtain ⟨n', hn'⟩ : ∃ n', ws.length = n' + 1 := ⟨ws.length - 1, by omega⟩
    obtain ⟨l', rfl⟩ : ∃ l', L = l' + 1 := ⟨L - 1, by omega⟩
    rw [hn', show 2 * (n' + 1) - 2 = 2 * n' by omega, Nat.add_sub_cancel, ← Nat.mul_assoc, show 2 ^ l' * 2 = 2 ^ (l' + 1) from rfl, Nat.mul_add, Nat.mul_one])
  rw [hl] at hatt
  have := (att_least (symC ws) hA' (L - 1) _ _ (by rw [levs_len]) hatt).2
  rw [levs_sum L l hb hL] at this
  exact this
end Go.Proofs.YtipcdkemokkdfaaGreat.Pm

/- Layer 7: coins in memory; lighter; pairs. -/
namespace Go.Proofs.YtipcdkemokkdfaaGreat
open Go.ChangeShapes Go.WideShapes Go.ChangeAt Go.RowKit
set_option linter.unusedVariables false
set_option linter.unusedSimpArgs false
set_option maxRecDepth 100000
open Pm
def fC (c : Coin) : List Value := [.int .i64 c.1, .bool c.2]
theorem flatC : Flat fC 2 := fun x => ⟨rfl, by intro u hu; simp [fC] at hu; rcases hu with rfl | rfl <;> rfl⟩
abbrev OwnC (B : Nat) (w : World) (v : Value) (l : List Coin) : Prop := OwnS fC 135 2 B w v l
theorem info_coin : (Tryz.prog.info? 135).map (fun i => (i.zero, i.size, i.bytes)) = some (some (.agg #[.int .i64 0, .bool false]), 2, 16) := by kernel_rfl
def coAt (w : World) (g o : Nat) (c : Coin) : Prop := w.cell? ⟨g, o, none⟩ = some (.int .i64 c.1) ∧ w.cell? ⟨g, o + 1, none⟩ = some (.bool c.2)
theorem coAt.kept {w w' : World} {g o B : Nat} {c : Coin} (h : coAt w g o c) (hg : g < B) (hb : Below B w w') : coAt w' g o c := ⟨(hb.cell (p := ⟨g, o, none⟩) hg).trans h.1, (hb.cell (p := ⟨g, o + 1, none⟩) hg).trans h.2⟩
/-- A slice of coins that lies below a block. -/
def IsC (B : Nat) (w : World) (v : Value) (l : List Coin) : Prop := ∃ g o cap, v = .slice (some ⟨g, o, none⟩) l.length cap ∧ g < B ∧ ∀ i c, l[i]? = some c → coAt w g (o + i * 2) c
theorem IsC.kept {B : Nat} {w w' : World} {v : Value} {l : List Coin} (h : IsC B w v l) (hb : Below B w w') : IsC B w' v l := by
  obtain ⟨g, o, cap, rfl, hg, hc⟩ := h
  exact ⟨g, o, cap, rfl, hg, fun i c hi => (hc i c hi).kept hg hb⟩
theorem IsC.mono {B B' : Nat} {w : World} {v : Value} {l : List Coin} (h : IsC B w v l) (hb : B ≤ B') : IsC B' w v l := by
  obtain ⟨g, o, cap, rfl, hg, hc⟩ := h
  exact ⟨g, o, cap, rfl, by omega, hc⟩
set_option maxHeartbeats 800000 in
theorem pLight (a b : Coin) (w : World) : Calls Tryz.prog 92 #[.agg #[.int .i64 a.1, .bool a.2], .agg #[.int .i64 b.1, .bool b.2]] w fun e w' => e = .returned (.bool (decide (a.1 < b.1))) ∧ Below w.heap.size w w' := by
  obtain ⟨x, hx⟩ : ∃ x, a.1 = x := ⟨_, rfl⟩
  obtain ⟨y, hy⟩ : ∃ y, b.1 = y := ⟨_, rfl⟩
  rw [hx, hy]
  have hb := ((Below.refl w.heap.size w).alloc (Nat.le_refl _) (.cells #[.int .i64 x, .bool a.2] 135)).alloc (by simp) (.cells #[.int .i64 y, .bool b.2] 135)
  have HB := Lib.hid hb
  clear hb
  go_enter Tryz.func92, Tryz.ntmps92
  go_wp2_with fail
  go_ret
  exact ⟨rfl, HB.out⟩
theorem take_set {α : Type} (P : List α) (z : α) (i m : Nat) (hm : P.length = m) (hi : i < m) : (P.take i ++ List.replicate (m - i) z).set i P[i] = P.take (i + 1) ++ List.replicate (m - (i + 1)) z := by
  have h1 : (P.take i).length = i := List.length_take_of_le (by omega)
  rw [List.set_append_right _ _ (by omega), h1, Nat.sub_self, show m - i = (m - (i + 1)) + 1 by omega, List.replicate_succ, List.set_cons_zero, List.take_succ_eq_append_getElem (by omega), List.append_assoc]; rfl
theorem pairs_get : ∀ (l : List Coin) (i : Nat) (x y : Coin), l[2 * i]? = some x → l[2 * i + 1]? = some y → (pairsF l)[i]? = some (x.1 + y.1, false)
  | [], i, x, y, h, _ => by simp at h
  | [a], 0, x, y, _, h => by simp at h
  | [a], i + 1, x, y, h, _ => by simp at h
  | a :: b :: r, 0, x, y, h, k => by
    simp at h k
    subst h; subst k; rfl
  | a :: b :: r, i + 1, x, y, h, k => by
    simp only [pairsF, List.getElem?_cons_succ]
    exact pairs_get r i x y (by rw [show 2 * (i + 1) = 2 * i + 1 + 1 by omega] at h; simpa using h) (by rw [show 2 * (i + 1) + 1 = 2 * i + 1 + 1 + 1 by omega] at k; simpa using k)
set_option maxHeartbeats 1600000 in
theorem pPairs (g o cap n : Nat) (l : List Coin) (w : World) (hl : l.length = n) (hc : ∀ i c, l[i]? = some c → coAt w g (o + i * 2) c) (hg : g < w.heap.size) (hn : n ≤ 10000) (hb : ∀ c ∈ l, 0 ≤ c.1 ∧ c.1 ≤ 1152921504606846976) :
    Calls Tryz.prog 91 #[.slice (some ⟨g, o, none⟩) n cap] w fun e w' => ∃ gu, e = .returned (.slice (some ⟨gu, 0, none⟩) (n / 2) (n / 2)) ∧ OwnC w.heap.size w' (.slice (some ⟨gu, 0, none⟩) (n / 2) (n / 2)) (pairsF l) ∧ Below w.heap.size w w' := by
  obtain ⟨m, hm⟩ : ∃ m, n / 2 = m := ⟨_, rfl⟩
  have hPL := pairsF_len l
  rw [hl, hm] at hPL
  have em : (n : Int) / 2 = m := by omega
  have em2 : (n : Int).tdiv 2 = m := by rw [Int.tdiv_eq_ediv_of_nonneg (by omega)]; omega
  rw [hm]
  have HC := Lib.hid hc; have HL := Lib.hid hl; have HBD := Lib.hid hb
  have HPL := Lib.hid hPL
  have hmn : m + m ≤ n := by omega
  clear hc hl hb hPL hm
  go_enter Tryz.func91, Tryz.ntmps91
  go_wp2_with (refine make_full (f := fC) info_coin (by decide) Tryz.underlying133 (0, false) rfl flatC (by decide) rfl _ _ rfl .i64 .i64 (m : Int) (m : Int) m rfl rfl rfl rfl (by omega) ?_; intro w2 ho2 hb2 hs2)
  have HO := Lib.hid (show OwnC w.heap.size w2 (.slice (some ⟨w.heap.size, 0, none⟩) m m) ((pairsF l).take 0 ++ List.replicate (m - 0) (0, false)) from ho2)
  have HB := Lib.hid hb2
  obtain ⟨gu, hgu⟩ : ∃ gu, w.heap.size = gu := ⟨_, rfl⟩
  rw [hgu] at HO HB hg ⊢
  clear ho2 hb2 hs2 em em2
  have HGU := Lib.hid hgu
  clear hgu
  go_loopw [11] (fun iv wr => ∃ i : Nat, i ≤ m ∧ iv = .int .i64 i ∧ Hid (OwnC gu wr (.slice (some ⟨gu, 0, none⟩) m m) ((pairsF l).take i ++ List.replicate (m - i) (0, false))) ∧ Hid (Below gu w wr)) (fun iv _ => m - (intOf iv).toNat)
  case atStart => exact ⟨0, Nat.zero_le _, rfl, HO, HB⟩
  case round =>
    clear HO HB
    obtain ⟨i, hi, rfl, HO, HB⟩ := hrel
    by_cases hlt : i < m
    · have hii : (i : Int) < m := by omega
      have h1 : 2 * i < l.length := by rw [HL.out]; omega
      have h2 : 2 * i + 1 < l.length := by rw [HL.out]; omega
      obtain ⟨x, hx⟩ : ∃ x, l[2 * i] = x := ⟨_, rfl⟩
      obtain ⟨y, hy⟩ : ∃ y, l[2 * i + 1] = y := ⟨_, rfl⟩
      have hx' : l[2 * i]? = some x := by rw [List.getElem?_eq_getElem h1, hx]
      have hy' : l[2 * i + 1]? = some y := by rw [List.getElem?_eq_getElem h2, hy]
      have bx := HBD.out x (by rw [← hx]; exact List.getElem_mem h1)
      have by' := HBD.out y (by rw [← hy]; exact List.getElem_mem h2)
      have cx := (HC.out _ x hx').kept hg HB.out
      have cy := (HC.out _ y hy').kept hg HB.out
      have hP : (pairsF l)[i]'(by rw [HPL.out]; exact hlt) = (x.1 + y.1, false) := by
        have := pairs_get l i x y hx' hy'
        rw [List.getElem?_eq_getElem (by rw [HPL.out]; exact hlt)] at this
        exact Option.some.inj this
      obtain ⟨X, hX⟩ : ∃ X, x.1 = X := ⟨_, rfl⟩
      obtain ⟨Y, hY⟩ : ∃ Y, y.1 = Y := ⟨_, rfl⟩
      obtain ⟨cx, -⟩ := cx
      obtain ⟨cy, -⟩ := cy
      rw [hX] at cx bx hP
      rw [hY] at cy by' hP
      have hset := take_set (pairsF l) (0, false) i m HPL.out hlt
      rw [hP] at hset
      have hz0 : ((pairsF l).take i ++ List.replicate (m - i) ((0, false) : Coin))[i]? = some (0, false) := by
        rw [List.getElem?_append_right (by rw [List.length_take]; omega), List.length_take_of_le (by rw [HPL.out]; omega), Nat.sub_self, List.getElem?_replicate, if_pos (by omega)]
      have c3 : wr.cell? ⟨gu, i * 2, none⟩ = some (.int .i64 0) := by have := HO.out.cell flatC i 0 _ hz0 (by decide); simpa [fC] using this
      have c4 : wr.cell? ⟨gu, i * 2 + 1, none⟩ = some (.bool false) := by have := HO.out.cell flatC i 1 _ hz0 (by decide); simpa [fC] using this
      have f1 := HO.out.free (i * 2)
      have f2 := HO.out.free (i * 2 + 1)
      have lg := (HO.out.lt _ rfl).2
      have hO2 := OwnS.set2 flatC HO.out i (X + Y, false) (.int .i64 (X + Y)) (.bool false) rfl (by rw [List.length_append, List.length_take_of_le (by rw [HPL.out]; omega), List.length_replicate]; omega)
      rw [hset] at hO2
      have HO2 := Lib.hid hO2
      have HB2 := Lib.hid ((HB.out.setCell (p := ⟨gu, i * 2, none⟩) (Nat.le_refl _) (.int .i64 (X + Y))).setCell (p := ⟨gu, i * 2 + 1, none⟩) (Nat.le_refl _) (.bool false))
      obtain ⟨j0, hj0⟩ : ∃ j0, 2 * i = j0 := ⟨_, rfl⟩
      obtain ⟨j1, hj1⟩ : ∃ j1, j0 + 1 = j1 := ⟨_, rfl⟩
      rw [hj0] at cx
      rw [hj0, hj1] at cy
      have e0 : 2 * (i : Int) = j0 := by omega
      have e1 : (j0 : Int) + 1 = j1 := by omega
      have w0 : IntKind.i64.wrap (j0 : Int) = j0 := IntWalk.i64_in _ (by omega)
      have w1 : IntKind.i64.wrap (j1 : Int) = j1 := IntWalk.i64_in _ (by omega)
      have w3 : IntKind.i64.wrap (X + Y) = X + Y := IntWalk.i64_in _ (by omega)
      have hn0 : (j0 : Int) < n := by omega
      have hn1 : (j1 : Int) < n := by omega
      have cl0 := cell_block cx
      obtain ⟨bx1, bx2⟩ := bx
      obtain ⟨by1, by2⟩ := by'
      clear hx hy hx' hy' hP hX hY hset hO2 HO HB hj0 hj1 h1 h2 hz0
      go_wp2_with fail
      go_region
      go_wp2_with fail
      go_roundw
      case rel => exact ⟨i + 1, by omega, by go_num, HO2, Lib.hid HB2.out.drew⟩
      case measure => simp [intOf] <;> omega
    · obtain rfl : i = m := by omega
      have hO2 := HO.out
      rw [Nat.sub_self, List.replicate_zero, List.append_nil, List.take_of_length_le (by rw [HPL.out]; exact Nat.le_refl _)] at hO2
      have HO2 := Lib.hid hO2
      clear hO2 HO
      go_wp2_with fail
      go_ret
      exact ⟨gu, rfl, by rw [HGU.out]; exact HO2.out, by rw [HGU.out]; exact HB.out⟩
end Go.Proofs.YtipcdkemokkdfaaGreat

/- Layer 7: two rows of coins as one. -/
namespace Go.Proofs.YtipcdkemokkdfaaGreat
open Go.ChangeShapes Go.WideShapes Go.ChangeAt Go.RowKit
set_option linter.unusedVariables false
set_option linter.unusedSimpArgs false
set_option maxRecDepth 100000
open Pm
theorem run_coin {X : World} (B T : Nat) (ty : TypeId) (v : Value) (l : List Coin) (x : Int) (b : Bool) (hown : OwnC B X v l) (g c1 : Nat) (hg : X.heap.size = g) (hl : l.length ≤ 1099511627776) (hB : B ≤ X.heap.size) :
    ∃ v' w', (Builtin.append_ #[133, 133] ty #[v, .slice (some ⟨g, 0, none⟩) 1 c1]).run Tryz.prog (X.alloc (.cells #[.int .i64 x, .bool b] T)) = .ok v' w' ∧ OwnC B w' v' (l ++ [(x, b)]) ∧ Below B X w' := by
  subst hg
  obtain ⟨i0, hi, h1, h2, h3⟩ := info_get info_coin
  have hnew : ∀ j u, [Value.int .i64 x, Value.bool b][j]? = some u → (X.alloc (.cells #[.int .i64 x, .bool b] T)).cell? ((⟨X.heap.size, 0, none⟩ : Addr).add j) = some u := by
    refine cells_of (fun j hj => ?_)
    rw [cell_in (heap_alloc_new X _)]; simp
  obtain ⟨v', w', hr, ho', hg', -⟩ := run_append_own (P := Tryz.prog) (X.alloc (.cells #[.int .i64 x, .bool b] T)) B 133 ty 135 i0 _ 2 16 Tryz.underlying133 hi h1 h2 h3 rfl (by decide) v l.length (l.flatMap fC) (World.ownsRow.alloc hown _) ⟨X.heap.size, 0, none⟩ 1 c1 [.int .i64 x, .bool b] rfl hnew (by intro u hu; simp at hu; rcases hu with rfl | rfl <;> rfl) (by unfold maxLen; omega) (by omega) (by simp; omega)
  refine ⟨v', w', hr, ?_, ?_⟩
  · have e : (l ++ [(x, b)]).flatMap fC = l.flatMap fC ++ [.int .i64 x, .bool b] := by simp [fC]
    show World.ownsRow w' B _ 2 v' (l ++ [(x, b)]).length ((l ++ [(x, b)]).flatMap fC)
    rw [e, List.length_append]; exact ho'
  · exact (Below.alloc (Below.refl _ _) hB _).grown hg' (by simp; omega) (fun k hk => (World.ownsRow.lt hown k hk).1)
theorem step_coin {ops : Array Oper} {o : Oper} {a : Act} {X : World} {K : Act → World → Prop} {Q : Exit → Act → World → Prop} {E : Prop} (hgd : o.guard = none) (s xo : Operand)
    (ho : o.op = .call { callee := .builtin .append, args := #[s, xo], argTypes := #[133, 133] })
    (B T : Nat) (v : Value) (l : List Coin) (x : Int) (b : Bool) (hs : a.eval s = v) (hown : OwnC B X v l) (g c1 : Nat) (hg : X.heap.size = g) (hx : a.eval xo = .slice (some ⟨g, 0, none⟩) 1 c1) (hl : l.length ≤ 1099511627776) (hB : B ≤ X.heap.size)
    (h : ∀ v' w', OwnC B w' v' (l ++ [(x, b)]) → Below B X w' → K (a.put o.dst v') w') :
    if Region.wanted o (yielded ops a.tmps) = true then Oper.wp Tryz.prog o a (X.alloc (.cells #[.int .i64 x, .bool b] T)) K Q else E := by
  have hw : Region.wanted o (yielded ops a.tmps) = true := by simp [Region.wanted, hgd]
  rw [if_pos hw]
  obtain ⟨v', w', hr, h2, h3⟩ := run_coin B T o.type v l x b hown g c1 hg hl hB
  unfold Oper.wp execOp
  simp only [ho, resolve, invoke, builtin, Sem.run_bind, Sem.run_pure, Result.andThen_ok, List.map_toArray, List.map_cons, List.map_nil, hs, hx, hr]
  exact h v' w' h2 h3
def slLen : Value → Nat
  | .slice _ n _ => n
  | _ => 0
/-- Coins that lie behind a place. -/
def Lie (w : World) (g o : Nat) (l : List Coin) : Prop := ∀ i c, l[i]? = some c → coAt w g (o + i * 2) c
theorem Lie.tail {w : World} {g o : Nat} {c : Coin} {l : List Coin} (h : Lie w g o (c :: l)) : Lie w g (o + 2) l := fun i d hi => by
  have := h (i + 1) d (by simpa using hi)
  rwa [show o + (i + 1) * 2 = o + 2 + i * 2 by omega] at this
theorem Lie.head {w : World} {g o : Nat} {c : Coin} {l : List Coin} (h : Lie w g o (c :: l)) : coAt w g o c := by
  have := h 0 c rfl
  rwa [Nat.zero_mul, Nat.add_zero] at this
theorem Lie.kept {w w' : World} {g o B : Nat} {l : List Coin} (h : Lie w g o l) (hg : g < B) (hb : Below B w w') : Lie w' g o l := fun i c hi => (h i c hi).kept hg hb
theorem Lie.flat {w : World} {g o : Nat} {l : List Coin} (h : Lie w g o l) : ∀ j u, (l.flatMap fC)[j]? = some u → w.cell? ((⟨g, o, none⟩ : Addr).add j) = some u := by
  intro j u hj
  have e : (⟨g, o, none⟩ : Addr).add j = ⟨g, o + j, none⟩ := by unfold Addr.add; split <;> simp_all
  rw [e]
  have hlt : j < l.length * 2 := by rw [← flat_len flatC l]; exact (List.getElem?_eq_some_iff.1 hj).1
  have hi : j / 2 < l.length := by omega
  have hc := h (j / 2) l[j / 2] (by rw [List.getElem?_eq_getElem hi])
  have hf := flat_get flatC l (j / 2) (j % 2) l[j / 2] (by rw [List.getElem?_eq_getElem hi]) (Nat.mod_lt _ (by decide))
  rw [show j / 2 * 2 + j % 2 = j by omega, hj] at hf
  rcases Nat.mod_two_eq_zero_or_one j with h0 | h1
  · rw [h0] at hf
    have : u = .int .i64 l[j / 2].1 := by simpa [fC] using hf
    rw [this, show o + j = o + j / 2 * 2 by omega]; exact hc.1
  · rw [h1] at hf
    have : u = .bool l[j / 2].2 := by simpa [fC] using hf
    rw [this, show o + j = o + j / 2 * 2 + 1 by omega]; exact hc.2
theorem app_lie {W : World} {ops : Array Oper} {rest : List Oper} {o : Oper} {a : Act} {Q : Exit → Act → World → Prop} (hgd : o.guard = none) (s x : Operand)
    (ho : o.op = .call { callee := .builtin .append, args := #[s, x], argTypes := #[133, 133] })
    (B g p m c : Nat) (v : Value) (l la : List Coin) (hs : a.eval s = v) (hown : OwnC B W v l) (hx : a.eval x = .slice (some ⟨g, p, none⟩) m c) (hm : la.length = m) (hla : Lie W g p la) (hl : l.length + m ≤ 1099511627776) (hB : B ≤ W.heap.size)
    (h : ∀ v' w', OwnC B w' v' (l ++ la) → Below B W w' → wpList Tryz.prog ops Q rest (a.put o.dst v') w') : wpList Tryz.prog ops Q (o :: rest) a W := by
  obtain ⟨i0, hi, h1, h2, h3⟩ := info_get info_coin
  refine wpList_append_own W hgd s x 133 ho B 135 i0 _ 2 16 Tryz.underlying133 hi h1 h2 h3 rfl (by decide) v l.length (l.flatMap fC) hs hown ⟨g, p, none⟩ m c (la.flatMap fC) hx (by rw [flat_len flatC, hm]) hla.flat (flat_one flatC la) (by unfold maxLen; omega) (by omega) hB ?_
  intro v' w' ho' hg' _
  have e : (l ++ la).flatMap fC = l.flatMap fC ++ la.flatMap fC := by simp
  refine h v' w' ?_ ?_
  · show World.ownsRow w' B _ 2 v' (l ++ la).length ((l ++ la).flatMap fC)
    rw [e, List.length_append, hm]; exact ho'
  · exact (Below.refl _ _).grown hg' hB (fun k hk => (World.ownsRow.lt hown k hk).1)
theorem mrg_nil_l : ∀ f (b : List Coin), mrg f [] b = b
  | 0, b => by rw [mrg_zero]; rfl
  | f + 1, b => rfl
theorem mrg_nil_r : ∀ f (a : List Coin), mrg f a [] = a
  | 0, a => by rw [mrg_zero, List.append_nil]
  | f + 1, [] => rfl
  | f + 1, x :: a => by simp [mrg]
set_option maxHeartbeats 3200000 in
theorem pTog (ga oa ca na gb ob cb nb : Nat) (la lb : List Coin) (w : World) (hla : la.length = na) (hlb : lb.length = nb) (ha : Lie w ga oa la) (hb : Lie w gb ob lb) (hga : ga < w.heap.size) (hgb : gb < w.heap.size) (hna : na ≤ 10000) (hnb : nb ≤ 10000) (hca : na ≤ ca) (hcb : nb ≤ cb) (hpos : 0 < na) :
    Calls Tryz.prog 90 #[.slice (some ⟨ga, oa, none⟩) na ca, .slice (some ⟨gb, ob, none⟩) nb cb, .func (Fn.func 92) #[] #[]] w fun e w' => ∃ gu cu, e = .returned (.slice (some ⟨gu, 0, none⟩) (na + nb) cu) ∧ OwnC w.heap.size w' (.slice (some ⟨gu, 0, none⟩) (na + nb) cu) (mrg (na + nb) la lb) ∧ Below w.heap.size w w' := by
  obtain ⟨B, hB⟩ : ∃ B, w.heap.size = B := ⟨_, rfl⟩
  have HBB := Lib.hid hB
  obtain ⟨T, hT⟩ : ∃ T, mrg (na + nb) la lb = T := ⟨_, rfl⟩
  have hTL : T.length = na + nb := by rw [← hT, mrg_len]; omega
  have HTL := Lib.hid hTL
  rw [hB] at hga hgb
  obtain ⟨i0, hi0, h10, h20, h30⟩ := info_get info_coin
  have HI0 := Lib.hid hi0; have H10 := Lib.hid h10; have H20 := Lib.hid h20; have H30 := Lib.hid h30
  have HA := Lib.hid ha; have HBl := Lib.hid hb; have HLA := Lib.hid hla; have HLB := Lib.hid hlb; have HT := Lib.hid hT
  have CL := Lib.hid (fun a b W => pLight a b W)
  rw [hT]
  clear ha hb hla hlb hT hi0 h10 h20 h30 hTL hB
  go_enter Tryz.func90, Tryz.ntmps90
  go_wp2_with (refine wpList_make_own _ rfl _ _ 133 rfl w.heap.size 135 i0 _ 2 Tryz.underlying133 HI0.out H10.out H20.out .i64 .i64 _ (na + nb) rfl rfl (by omega) (by rw [H30.out]; omega) (by unfold maxLen; omega) (Nat.le_refl _) ?_; intro w2 ho2 hg2)
  have HO := Lib.hid (show OwnC w.heap.size w2 (.slice (some ⟨w.heap.size, 0, none⟩) 0 (na + nb)) [] from ho2)
  have HW := Lib.hid (below_of_grown hg2 (Nat.le_refl _) (fun k hk => by cases hk))
  rw [HBB.out] at HO HW ⊢
  obtain ⟨v0, hv0⟩ : ∃ v0, Value.slice (some ⟨B, 0, none⟩) 0 (na + nb) = v0 := ⟨_, rfl⟩
  rw [hv0] at HO ⊢
  clear hv0 ho2 hg2 HI0 H10 H20 H30
  go_loopw [7, 0, 1] (fun ov av bv wr => ∃ (ma mb pa pb da db : Nat) (xa xb lo : List Coin), av = .slice (some ⟨ga, pa, none⟩) ma da ∧ bv = .slice (some ⟨gb, pb, none⟩) mb db ∧ ma ≤ na ∧ mb ≤ nb ∧ ma ≤ da ∧ mb ≤ db ∧ Hid (xa.length = ma ∧ xb.length = mb ∧ lo.length + ma + mb = na + nb ∧ lo ++ mrg (ma + mb) xa xb = T) ∧ Hid (Lie w ga pa xa) ∧ Hid (Lie w gb pb xb) ∧ Hid (OwnC B wr ov lo) ∧ Hid (Below B w wr)) (fun _ av bv _ => slLen av + slLen bv)
  case atStart => exact ⟨na, nb, oa, ob, ca, cb, la, lb, [], rfl, rfl, Nat.le_refl _, Nat.le_refl _, hca, hcb, Lib.hid ⟨HLA.out, HLB.out, by simp, by simpa using HT.out⟩, HA, HBl, HO, HW⟩
  case round =>
    clear HO HW HA HBl HLA HLB HT
    obtain ⟨ma, mb, pa, pb, da, db, xa, xb, lo, rfl, rfl, hma, hmb, hda, hdb, HR, HA, HBl, HO, HW⟩ := hrel
    by_cases hza : ma = 0
    · have hai : ¬ (0 : Int) < ma := by omega
      have HE := Lib.hid (show lo ++ xa ++ xb = T from by
        obtain ⟨r1, r2, r3, r4⟩ := HR.out
        have : xa = [] := List.length_eq_zero_iff.1 (by omega)
        subst this
        rw [← r4, mrg_nil_l, List.append_nil])
      have hszB : B ≤ wr.heap.size := by have := HW.out.size; have := HBB.out; omega
      have HLN := Lib.hid (show lo.length + ma ≤ 1099511627776 by have := HR.out.2.2.1; omega)
      have HLN2 := Lib.hid (show (lo ++ xa).length + mb ≤ 1099511627776 by have := HR.out.2.2.1; rw [List.length_append, HR.out.1]; omega)
      have HAx := Lib.hid (HA.out.kept hga HW.out)
      go_wp2_with (first | (at_builtin; (refine app_lie rfl (.tmp 46) (.tmp 47) rfl B ga pa ma da _ lo xa rfl HO.out rfl HR.out.1 HAx.out HLN.out hszB ?_); intro v5 w5 ho5 hb5; have HO5 := Lib.hid ho5; have HW5 := Lib.hid (HW.out.trans hb5); have HB5 := Lib.hid (HBl.out.kept hgb HW5.out); have hszB5 : B ≤ w5.heap.size := Nat.le_trans hszB hb5.size; clear ho5 hb5) | (at_builtin; (refine app_lie rfl (.tmp 48) (.tmp 49) rfl B gb pb mb db _ (lo ++ xa) xb rfl HO5.out rfl HR.out.2.1 HB5.out HLN2.out hszB5 ?_); intro v6 w6 ho6 hb6; have HO6 := Lib.hid ho6; have HW6 := Lib.hid (HW5.out.trans hb6); clear ho6 hb6))
      go_ret
      have hO6 := HO6.out
      rw [HE.out] at hO6
      obtain ⟨gu, cu, rfl, -, -⟩ := hO6.form (by rw [HTL.out]; omega) (by decide)
      rw [HTL.out] at hO6 ⊢
      exact ⟨gu, cu, rfl, by rw [HBB.out]; exact hO6, by rw [HBB.out]; exact HW6.out⟩
    · have hai : (0 : Int) < ma := by omega
      by_cases hzb : mb = 0
      · have hbi : ¬ (0 : Int) < mb := by omega
        have HE := Lib.hid (show lo ++ xa ++ xb = T from by
          obtain ⟨r1, r2, r3, r4⟩ := HR.out
          have : xb = [] := List.length_eq_zero_iff.1 (by omega)
          subst this
          rw [← r4, mrg_nil_r, List.append_nil])
        clear hzb
        have hszB : B ≤ wr.heap.size := by have := HW.out.size; have := HBB.out; omega
        have HLN := Lib.hid (show lo.length + ma ≤ 1099511627776 by have := HR.out.2.2.1; omega)
        have HLN2 := Lib.hid (show (lo ++ xa).length + mb ≤ 1099511627776 by have := HR.out.2.2.1; rw [List.length_append, HR.out.1]; omega)
        have HAx := Lib.hid (HA.out.kept hga HW.out)
        go_wp2_with (first | (at_builtin; (refine app_lie rfl (.tmp 46) (.tmp 47) rfl B ga pa ma da _ lo xa rfl HO.out rfl HR.out.1 HAx.out HLN.out hszB ?_); intro v5 w5 ho5 hb5; have HO5 := Lib.hid ho5; have HW5 := Lib.hid (HW.out.trans hb5); have HB5 := Lib.hid (HBl.out.kept hgb HW5.out); have hszB5 : B ≤ w5.heap.size := Nat.le_trans hszB hb5.size; clear ho5 hb5) | (at_builtin; (refine app_lie rfl (.tmp 48) (.tmp 49) rfl B gb pb mb db _ (lo ++ xa) xb rfl HO5.out rfl HR.out.2.1 HB5.out HLN2.out hszB5 ?_); intro v6 w6 ho6 hb6; have HO6 := Lib.hid ho6; have HW6 := Lib.hid (HW5.out.trans hb6); clear ho6 hb6))
        go_ret
        have hO6 := HO6.out
        rw [HE.out] at hO6
        obtain ⟨gu, cu, rfl, -, -⟩ := hO6.form (by rw [HTL.out]; omega) (by decide)
        rw [HTL.out] at hO6 ⊢
        exact ⟨gu, cu, rfl, by rw [HBB.out]; exact hO6, by rw [HBB.out]; exact HW6.out⟩
      · have hbi : (0 : Int) < mb := by omega
        obtain ⟨r1, r2, r3, r4⟩ := HR.out
        cases xa with
        | nil => simp at r1; omega
        | cons x ya =>
        cases xb with
        | nil => simp at r2; omega
        | cons y yb =>
          obtain ⟨MA, rfl⟩ : ∃ MA, ma = MA + 1 := ⟨ma - 1, by omega⟩
          obtain ⟨MB, rfl⟩ : ∃ MB, mb = MB + 1 := ⟨mb - 1, by omega⟩
          obtain ⟨x1, x2⟩ := HA.out.head.kept hga HW.out
          obtain ⟨y1, y2⟩ := HBl.out.head.kept hgb HW.out
          have hszB : B ≤ wr.heap.size := by have := HW.out.size; have := HBB.out; omega
          have HS0 := Lib.hid (show (wr.drew.cell? ⟨ga, pa, none⟩ = some (.int .i64 x.1) ∧ wr.drew.cell? ⟨ga, pa + 1, none⟩ = some (.bool x.2) ∧ wr.drew.cell? ⟨gb, pb, none⟩ = some (.int .i64 y.1) ∧ wr.drew.cell? ⟨gb, pb + 1, none⟩ = some (.bool y.2)) from ⟨x1, x2, y1, y2⟩)
          have hla : ga < wr.heap.size := by omega
          have hlb : gb < wr.heap.size := by omega
          clear r1 r2 r3 r4
          go_wp2_with fail
          go_region_held3 (fun V => V.cell? ⟨ga, pa, none⟩ = some (.int .i64 x.1) ∧ V.cell? ⟨ga, pa + 1, none⟩ = some (.bool x.2) ∧ V.cell? ⟨gb, pb, none⟩ = some (.int .i64 y.1) ∧ V.cell? ⟨gb, pb + 1, none⟩ = some (.bool y.2)) (first | exact HS0.out | exact HS1.out) (first | (go_at_call 92; (with_reducible refine (CL.out y x _).mono ?_; rintro e wx ⟨rfl, hbx⟩; have HS1 := Lib.hid (show (wx.cell? ⟨ga, pa, none⟩ = some (.int .i64 x.1) ∧ wx.cell? ⟨ga, pa + 1, none⟩ = some (.bool x.2) ∧ wx.cell? ⟨gb, pb, none⟩ = some (.int .i64 y.1) ∧ wx.cell? ⟨gb, pb + 1, none⟩ = some (.bool y.2)) from ⟨(hbx.cell hla).trans HS0.out.1, (hbx.cell hla).trans HS0.out.2.1, (hbx.cell hlb).trans HS0.out.2.2.1, (hbx.cell hlb).trans HS0.out.2.2.2⟩))) | fail)
          simp only [Exit.then]
          rename_i hK hHeld
          refine hK _ _ ?_
          have HWx := Lib.hid (show Below B w wx from HW.out.trans (((Below.refl wr.heap.size wr).drew.trans hbx).mono hszB))
          have HOx := Lib.hid (show OwnC B wx u7 lo from OwnS.kept (OwnS.drew HO.out) hbx)
          have HSx := Lib.hid HS1.out
          have hgax : ga < wx.heap.size := Nat.lt_of_lt_of_le hla hbx.size
          have hgbx : gb < wx.heap.size := Nat.lt_of_lt_of_le hlb hbx.size
          have hBx : B ≤ wx.heap.size := Nat.le_trans hszB hbx.size
          clear hK hHeld HS0 HS1 x1 x2 y1 y2 hbx HO HW hla hlb hszB
          obtain ⟨c1, c2, c3, c4⟩ := HSx.out
          have hlol : lo.length ≤ 1099511627776 := by have := HR.out.2.2.1; omega
          have hMA : (1 : Int) ≤ (MA : Int) + 1 := by omega
          have hMB : (1 : Int) ≤ (MB : Int) + 1 := by omega
          by_cases hcmp : y.1 < x.1
          · have hcd : decide (y.1 < x.1) = true := decide_eq_true hcmp
            have HR2 := Lib.hid (show (x :: ya).length = MA + 1 ∧ yb.length = MB ∧ (lo ++ [(y.1, y.2)]).length + (MA + 1) + MB = na + nb ∧ (lo ++ [(y.1, y.2)]) ++ mrg (MA + 1 + MB) (x :: ya) yb = T from by
              obtain ⟨r1, r2, r3, r4⟩ := HR.out
              refine ⟨r1, by simpa using r2, by simp; omega, ?_⟩
              rw [← r4, show MA + 1 + (MB + 1) = MA + 1 + MB + 1 by omega]
              simp only [mrg, if_pos hcmp]
              simp)
            obtain ⟨p2, hp2, hp3⟩ : ∃ p2, (if db = 1 then some (⟨gb, pb, none⟩ : Addr) else some ⟨gb, pb + 2, none⟩) = some ⟨gb, p2, none⟩ ∧ (db = 1 ∨ p2 = pb + 2) := by
              by_cases h : db = 1
              · exact ⟨pb, by rw [if_pos h], .inl h⟩
              · exact ⟨pb + 2, by rw [if_neg h], .inr rfl⟩
            have HL2 := Lib.hid (show Lie w gb p2 yb from by
              rcases hp3 with h | rfl
              · have : yb = [] := List.length_eq_zero_iff.1 (by have := HR2.out.2.1; omega)
                subst this
                intro i c hi; simp at hi
              · exact HBl.out.tail)
            have HP3 := Lib.hid hp3
            have hd1 : ((1 : Int) ≤ db) := by omega
            clear hp3
            go_wp2_with fail
            go_region_law (refine step_coin rfl (.tmp 30) (.tmp 34) rfl B 135 _ lo y.1 y.2 rfl (OwnS.drew HOx.out) wx.heap.size 1 rfl rfl hlol hBx ?_; intro v6 w6 ho6 hb6)
            all_goals
              have HO6 := Lib.hid ho6
              have HW6 := Lib.hid (HWx.out.drew.trans hb6)
              clear ho6 hb6 HOx HWx c1 c2 c3 c4 HSx
              go_simp
              go_wp2_with fail
              go_roundw
              case rel => exact ⟨MA + 1, MB, pa, p2, da, db - 1, x :: ya, yb, _, by trivial, by trivial, by omega, by omega, by omega, by omega, HR2, HA, HL2, HO6, HW6⟩
              case measure => simp [slLen] <;> omega
          · have hcd : decide (y.1 < x.1) = false := decide_eq_false hcmp
            have HR2 := Lib.hid (show ya.length = MA ∧ (y :: yb).length = MB + 1 ∧ (lo ++ [(x.1, x.2)]).length + MA + (MB + 1) = na + nb ∧ (lo ++ [(x.1, x.2)]) ++ mrg (MA + (MB + 1)) ya (y :: yb) = T from by
              obtain ⟨r1, r2, r3, r4⟩ := HR.out
              refine ⟨by simpa using r1, r2, by simp; omega, ?_⟩
              rw [← r4, show MA + 1 + (MB + 1) = MA + (MB + 1) + 1 by omega]
              simp only [mrg, if_neg hcmp]
              simp)
            obtain ⟨p2, hp2, hp3⟩ : ∃ p2, (if da = 1 then some (⟨ga, pa, none⟩ : Addr) else some ⟨ga, pa + 2, none⟩) = some ⟨ga, p2, none⟩ ∧ (da = 1 ∨ p2 = pa + 2) := by
              by_cases h : da = 1
              · exact ⟨pa, by rw [if_pos h], .inl h⟩
              · exact ⟨pa + 2, by rw [if_neg h], .inr rfl⟩
            have HL2 := Lib.hid (show Lie w ga p2 ya from by
              rcases hp3 with h | rfl
              · have : ya = [] := List.length_eq_zero_iff.1 (by have := HR2.out.1; omega)
                subst this
                intro i c hi; simp at hi
              · exact HA.out.tail)
            have HP3 := Lib.hid hp3
            have hd1 : ((1 : Int) ≤ da) := by omega
            clear hp3
            go_wp2_with fail
            go_region_law (refine step_coin rfl (.tmp 38) (.tmp 42) rfl B 135 _ lo x.1 x.2 rfl (OwnS.drew HOx.out) wx.heap.size 1 rfl rfl hlol hBx ?_; intro v6 w6 ho6 hb6)
            all_goals
              have HO6 := Lib.hid ho6
              have HW6 := Lib.hid (HWx.out.drew.trans hb6)
              clear ho6 hb6 HOx HWx c1 c2 c3 c4 HSx
              go_simp
              go_wp2_with fail
              go_roundw
              case rel => exact ⟨MA, MB + 1, p2, pb, da - 1, db, ya, y :: yb, _, by trivial, by trivial, by omega, by omega, by omega, by omega, HR2, HL2, HBl, HO6, HW6⟩
              case measure => simp [slLen] <;> omega
end Go.Proofs.YtipcdkemokkdfaaGreat

/- Layer 7: the rows of coins. -/
namespace Go.Proofs.YtipcdkemokkdfaaGreat
open Go.ChangeShapes Go.WideShapes Go.ChangeAt Go.RowKit
set_option linter.unusedVariables false
set_option linter.unusedSimpArgs false
set_option maxRecDepth 100000
open Pm
def fS (p : Nat × Nat × Nat) : List Value := [.slice (some ⟨p.1, 0, none⟩) p.2.1 p.2.2]
theorem flatS : Flat fS 1 := fun x => ⟨rfl, by intro u hu; simp [fS] at hu; subst hu; rfl⟩
theorem info_crow : (Tryz.prog.info? 133).map (fun i => (i.zero, i.size, i.bytes)) = some (some (.slice none 0 0), 1, 24) := by kernel_rfl
abbrev OwnCo (B : Nat) (w : World) (v : Value) (l : List (Nat × Nat × Nat)) : Prop := OwnS fS 133 1 B w v l
theorem app_crow {X : World} {ops : Array Oper} {rest : List Oper} {o : Oper} {a : Act} {Q : Exit → Act → World → Prop} (hgd : o.guard = none) (s xo : Operand)
    (ho : o.op = .call { callee := .builtin .append, args := #[s, xo], argTypes := #[131, 131] })
    (B T : Nat) (v : Value) (l : List (Nat × Nat × Nat)) (x y z : Nat) (hs : a.eval s = v) (hown : OwnCo B X v l) (g c1 : Nat) (hg : X.heap.size = g) (hx : a.eval xo = .slice (some ⟨g, 0, none⟩) 1 c1) (hl : l.length ≤ 1099511627776) (hB : B ≤ X.heap.size)
    (h : ∀ v' w', OwnCo B w' v' (l ++ [(x, y, z)]) → Below B X w' → X.grownBy w' v.ownBlock → wpList Tryz.prog ops Q rest (a.put o.dst v') w') : wpList Tryz.prog ops Q (o :: rest) a (X.alloc (.cells #[.slice (some ⟨x, 0, none⟩) y z] T)) :=
  app_one (f := fS) info_crow rfl (by decide) (by decide) Tryz.underlying131 flatS hgd s xo ho B T v l (x, y, z) hs hown g c1 hg hx hl hB h
/-- Rows of coins that a call owns. -/
def IsRows (B : Nat) (w : World) (v : Value) (ps : List (Nat × Nat × Nat)) (S : List Coin) : Prop := OwnCo B w v ps ∧ ∀ i p, ps[i]? = some p → p.2.1 = (rowF S i).length ∧ p.2.1 ≤ p.2.2 ∧ OwnC B w (.slice (some ⟨p.1, 0, none⟩) p.2.1 p.2.2) (rowF S i)
theorem IsRows.kept {B : Nat} {w w' : World} {v : Value} {ps : List (Nat × Nat × Nat)} {S : List Coin} (h : IsRows B w v ps S) (hb : Below w.heap.size w w') : IsRows B w' v ps S :=
  ⟨OwnS.kept h.1 hb, fun i p hp => ⟨(h.2 i p hp).1, (h.2 i p hp).2.1, OwnS.kept (h.2 i p hp).2.2 hb⟩⟩
theorem own_heap {B g n cap : Nat} {w : World} {l : List Coin} (h : OwnC B w (.slice (some ⟨g, 0, none⟩) n cap) l) : ∃ C, w.heap[g]? = some (.cells C 135 (0, 0)) := by
  rcases h.2 with ⟨h0, -⟩ | ⟨g', cap', cur, h0, _, hg, _⟩
  · simp at h0
  · simp only [Value.slice.injEq, Option.some.injEq, Addr.mk.injEq, and_true, true_and] at h0
    obtain ⟨rfl, -, -⟩ := h0
    exact ⟨cur, hg⟩
theorem IsRows.more {B : Nat} {w w' : World} {v v' : Value} {ps : List (Nat × Nat × Nat)} {S : List Coin} (h : IsRows B w v ps S) (hg : w.grownBy w' v.ownBlock) (x y z : Nat) (ho : OwnCo B w' v' (ps ++ [(x, y, z)])) (hy : y = (rowF S ps.length).length) (hyz : y ≤ z) (hx : OwnC B w (.slice (some ⟨x, 0, none⟩) y z) (rowF S ps.length)) : IsRows B w' v' (ps ++ [(x, y, z)]) S := by
  have keep : ∀ g n cap (l : List Coin), OwnC B w (.slice (some ⟨g, 0, none⟩) n cap) l → OwnC B w' (.slice (some ⟨g, 0, none⟩) n cap) l := fun g n cap l hl => by
    obtain ⟨C, hC⟩ := own_heap hl
    refine hl.grown hg (.inr ?_)
    have := own_ne h.1 hC (by decide)
    intro e
    exact this (by rw [← e]; rfl)
  refine ⟨ho, fun i p hp => ?_⟩
  by_cases hi : i < ps.length
  · rw [List.getElem?_append_left hi] at hp
    obtain ⟨a, b, c⟩ := h.2 i p hp
    exact ⟨a, b, keep _ _ _ _ c⟩
  · have hi2 : i = ps.length := by
      have := (List.getElem?_eq_some_iff.1 hp).1
      simp at this; omega
    subst hi2
    rw [List.getElem?_append_right (Nat.le_refl _), Nat.sub_self] at hp
    have : (x, y, z) = p := by simpa using hp
    subst this
    exact ⟨hy, hyz, keep _ _ _ _ hx⟩
theorem pairs_bd (M : Int) : ∀ l : List Coin, (∀ c ∈ l, 0 ≤ c.1 ∧ c.1 ≤ M) → ∀ c ∈ pairsF l, 0 ≤ c.1 ∧ c.1 ≤ 2 * M
  | [], _, c, hc => by simp [pairsF] at hc
  | [x], _, c, hc => by simp [pairsF] at hc
  | x :: y :: r, h, c, hc => by
    simp only [pairsF, List.mem_cons] at hc
    rcases hc with rfl | hc
    · have h1 := h x (by simp)
      have h2 := h y (by simp)
      simp only; omega
    · exact pairs_bd M r (fun z hz => h z (by simp [hz])) c hc
theorem row_bd (S : List Coin) (h : ∀ c ∈ S, 0 ≤ c.1 ∧ c.1 ≤ 4294967295) : ∀ i, ∀ c ∈ rowF S i, 0 ≤ c.1 ∧ c.1 ≤ 4294967295 * ((2 ^ i : Nat) : Int)
  | 0, c, hc => by have := h c hc; simp; omega
  | i + 1, c, hc => by
    have e : ((2 ^ (i + 1) : Nat) : Int) = 2 * ((2 ^ i : Nat) : Int) := by rw [Nat.pow_succ]; omega
    have hp : 1 ≤ ((2 ^ i : Nat) : Int) := by have := Nat.pow_pos (n := i) (show 0 < 2 by decide); omega
    rcases (mrg_mem _ _ _ _).1 hc with hc | hc
    · have := h c hc
      rw [e]; omega
    · have := pairs_bd _ _ (row_bd S h i) c hc
      rw [e]; omega
theorem row_bd16 (S : List Coin) (h : ∀ c ∈ S, 0 ≤ c.1 ∧ c.1 ≤ 4294967295) (i : Nat) (hi : i ≤ 16) : ∀ c ∈ rowF S i, 0 ≤ c.1 ∧ c.1 ≤ 1152921504606846976 := by
  intro c hc
  have h1 := row_bd S h i c hc
  have h2 : 2 ^ i ≤ 2 ^ 16 := Nat.pow_le_pow_right (by decide) hi
  have h3 : ((2 ^ i : Nat) : Int) ≤ 65536 := by
    have : (2 : Nat) ^ 16 = 65536 := by decide
    omega
  omega
theorem symC_set (F : Int → Int) (ss : List Int) (i : Nat) (hi : i < ss.length) : (symC (ss.map F))[i]'(by rw [symC_len, List.length_map]; exact hi) = (F ss[i], true) := by simp [symC]
theorem own_lie {B g n cap : Nat} {w : World} {l : List Coin} (h : OwnC B w (.slice (some ⟨g, 0, none⟩) n cap) l) : Lie w g 0 l := fun i c hi => by
  have h1 := h.cell flatC i 0 c hi (by decide)
  have h2 := h.cell flatC i 1 c hi (by decide)
  rw [Nat.zero_add]
  exact ⟨by simpa [fC] using h1, by simpa [fC] using h2⟩
theorem own_cap {B g n cap : Nat} {w : World} {l : List Coin} (h : OwnC B w (.slice (some ⟨g, 0, none⟩) n cap) l) : n = l.length ∧ n ≤ cap := by
  rcases h.2 with ⟨h0, -⟩ | ⟨g', cap', cur, h0, _, _, hnc, _⟩
  · simp at h0
  · simp only [Value.slice.injEq, Option.some.injEq, Addr.mk.injEq, and_true, true_and] at h0
    obtain ⟨rfl, rfl, rfl⟩ := h0
    exact ⟨rfl, hnc⟩
theorem own_rows1 {w : World} {g x y z B : Nat} (h : w.heap[g]? = some (.cells #[.slice (some ⟨x, 0, none⟩) y z] 133 (0, 0))) (hB : B ≤ g) : OwnCo B w (.slice (some ⟨g, 0, none⟩) 1 1) [(x, y, z)] := by
  refine ⟨by simp [fS], .inr ⟨g, 1, _, rfl, hB, h, by simp, by unfold maxLen; omega, by simp, ?_⟩⟩
  simp [fS]
set_option maxHeartbeats 3200000 in
theorem pRows (a : Option Addr) (c n : Nat) (l : List Int) (b : Option Addr) (d m : Nat) (ss : List Int) (L : Nat) (w : World) (hl : l.length = n) (hi : IsInts w a l) (hm : ss.length = m) (hs : IsInts w b ss) (hn : n ≤ 2000) (hm2 : 2 ≤ m) (hmn : m ≤ 2000) (hL1 : 1 ≤ L) (hL : L ≤ 16)
    (hd : ∀ u ∈ ss, ∃ k : Nat, u = k ∧ k < n) (hv : ∀ u ∈ ss, 0 ≤ frL l u ∧ frL l u ≤ 4294967295) :
    Calls Tryz.prog 69 #[.slice a n c, .slice b m d, .int .i64 L] w fun e w' => ∃ u ps, e = .returned u ∧ ps.length = L ∧ IsRows w.heap.size w' u ps (symC (ss.map (frL l))) ∧ Below w.heap.size w w' := by
  have HI := Lib.hid hi; have HS := Lib.hid hs; have HL := Lib.hid hl; have HM := Lib.hid hm; have HD := Lib.hid hd; have HV := Lib.hid hv
  obtain ⟨C, hC⟩ : ∃ C, symC (ss.map (frL l)) = C := ⟨_, rfl⟩
  have hCl : C.length = m := by rw [← hC, symC_len, List.length_map, hm]
  have HCL := Lib.hid hCl
  have HCV := Lib.hid (show ∀ c ∈ C, 0 ≤ c.1 ∧ c.1 ≤ 4294967295 from fun c hc => by
    rw [← hC] at hc
    unfold symC at hc
    rw [List.map_map] at hc
    obtain ⟨x, hx, rfl⟩ := List.mem_map.1 hc
    exact hv x hx)
  have HCG := Lib.hid (show ∀ i (h : i < ss.length), C[i]? = some (frL l ss[i], true) from fun i h => by
    rw [← hC, List.getElem?_eq_getElem (by rw [symC_len, List.length_map]; exact h), symC_set (frL l) ss i h])
  rw [hC]
  clear hi hs hl hm hd hv hC hCl
  go_enter Tryz.func69, Tryz.ntmps69
  go_wp2_with (refine make_full (f := fC) info_coin (by decide) Tryz.underlying133 (0, false) rfl flatC (by decide) rfl _ _ rfl .i64 .i64 (m : Int) (m : Int) m rfl rfl rfl rfl (by omega) ?_; intro w2 ho2 hb2 hs2)
  have HO := Lib.hid (show OwnC w.heap.size w2 (.slice (some ⟨w.heap.size, 0, none⟩) m m) (C.take 0 ++ List.replicate (m - 0) (0, false)) from ho2)
  have HB := Lib.hid hb2
  obtain ⟨gu, hgu⟩ : ∃ gu, w.heap.size = gu := ⟨_, rfl⟩
  rw [hgu] at HO HB ⊢
  have HGU := Lib.hid hgu
  clear ho2 hb2 hs2 hgu
  go_loopw [16] (fun iv wr => ∃ i : Nat, i ≤ m ∧ iv = .int .i64 i ∧ Hid (OwnC gu wr (.slice (some ⟨gu, 0, none⟩) m m) (C.take i ++ List.replicate (m - i) (0, false))) ∧ Hid (Below gu w wr)) (fun iv _ => m - (intOf iv).toNat)
  case atStart => exact ⟨0, Nat.zero_le _, rfl, HO, HB⟩
  case round =>
    clear HO HB
    obtain ⟨i, hi, rfl, HO, HB⟩ := hrel
    have hbw : Below w.heap.size w wr := by rw [HGU.out]; exact HB.out
    by_cases hlt : i < m
    · have hii : (i : Int) < m := by omega
      obtain ⟨y, rfl, hyb, hc⟩ := (HS.out.kept hbw).at i (by rw [HM.out]; exact hlt)
      have cy := hc i (by rw [HM.out]; exact hlt)
      have hui : ss.getD i 0 = ss[i]'(by rw [HM.out]; exact hlt) := by rw [List.getD_eq_getElem?_getD, List.getElem?_eq_getElem (by rw [HM.out]; exact hlt)]; rfl
      obtain ⟨k, hk1, hk2⟩ := HD.out (ss.getD i 0) (by rw [hui]; exact List.getElem_mem _)
      rw [hk1] at cy
      obtain ⟨x, rfl, hxb, hcx⟩ := (HI.out.kept hbw).at k (by rw [HL.out]; exact hk2)
      have cx := hcx k (by rw [HL.out]; exact hk2)
      have hP : C[i]'(by rw [HCL.out]; exact hlt) = (l.getD k 0, true) := by
        have := HCG.out i (by rw [HM.out]; exact hlt)
        rw [List.getElem?_eq_getElem (by rw [HCL.out]; exact hlt), ← hui, hk1] at this
        exact Option.some.inj this
      obtain ⟨X, hX⟩ : ∃ X, l.getD k 0 = X := ⟨_, rfl⟩
      rw [hX] at cx hP
      have hset := take_set C (0, false) i m HCL.out hlt
      rw [hP] at hset
      have hz0 : (C.take i ++ List.replicate (m - i) ((0, false) : Coin))[i]? = some (0, false) := by
        rw [List.getElem?_append_right (by rw [List.length_take]; omega), List.length_take_of_le (by rw [HCL.out]; omega), Nat.sub_self, List.getElem?_replicate, if_pos (by omega)]
      have c3 : wr.cell? ⟨gu, i * 2, none⟩ = some (.int .i64 0) := by have := HO.out.cell flatC i 0 _ hz0 (by decide); simpa [fC] using this
      have c4 : wr.cell? ⟨gu, i * 2 + 1, none⟩ = some (.bool false) := by have := HO.out.cell flatC i 1 _ hz0 (by decide); simpa [fC] using this
      have f1 := HO.out.free (i * 2)
      have f2 := HO.out.free (i * 2 + 1)
      have lg := (HO.out.lt _ rfl).2
      have hO2 := OwnS.set2 flatC HO.out i (X, true) (.int .i64 X) (.bool true) rfl (by rw [List.length_append, List.length_take_of_le (by rw [HCL.out]; omega), List.length_replicate]; omega)
      rw [hset] at hO2
      have HO2 := Lib.hid hO2
      have HB2 := Lib.hid ((HB.out.setCell (p := ⟨gu, i * 2, none⟩) (Nat.le_refl _) (.int .i64 X)).setCell (p := ⟨gu, i * 2 + 1, none⟩) (Nat.le_refl _) (.bool true))
      have hkn : (k : Int) < n := by omega
      clear hui hk1 hP hX hset hz0 hO2 hc hcx HO HB hbw
      go_wp2_with fail
      go_roundw
      case rel => exact ⟨i + 1, by omega, by go_num, HO2, HB2⟩
      case measure => simp [intOf] <;> omega
    · obtain rfl : m = i := by omega
      have hO2 := HO.out
      rw [Nat.sub_self, List.replicate_zero, List.append_nil, List.take_of_length_le (by rw [HCL.out]; exact Nat.le_refl _)] at hO2
      have HO2 := Lib.hid hO2
      clear hO2 HO
      go_wp2_with fail
      have hRB := Lib.hid (fun k hk => row_bd16 C HCV.out k hk)
      have hRM := Lib.hid (fun k => row_most C (by rw [HCL.out]; exact hm2) k)
      have hlu : gu < wr.heap.size := (HO2.out.lt _ rfl).2
      have hgr := heap_alloc_new wr (.cells #[.slice (some ⟨gu, 0, none⟩) m m] 133)
      have HBr := Lib.hid (HB.out.alloc (by omega) (.cells #[.slice (some ⟨gu, 0, none⟩) m m] 133))
      have HOr := Lib.hid (HO2.out.alloc (.cells #[.slice (some ⟨gu, 0, none⟩) m m] 133))
      have HRW := Lib.hid (show IsRows gu (wr.alloc (.cells #[.slice (some ⟨gu, 0, none⟩) m m] 133)) (.slice (some ⟨wr.heap.size, 0, none⟩) 1 1) [(gu, m, m)] C from ⟨own_rows1 hgr (by omega), fun i p hp => by
        have hi0 : i = 0 := by have := (List.getElem?_eq_some_iff.1 hp).1; simp at this; omega
        subst hi0
        have : (gu, m, m) = p := by simpa using hp
        subst this
        exact ⟨HCL.out.symm, Nat.le_refl _, HOr.out⟩⟩)
      obtain ⟨W1, hW1⟩ : ∃ W1, wr.alloc (.cells #[.slice (some ⟨gu, 0, none⟩) m m] 133) = W1 := ⟨_, rfl⟩
      rw [hW1] at HBr HOr HRW ⊢
      obtain ⟨v1, hv1⟩ : ∃ v1, Value.slice (some ⟨wr.heap.size, 0, none⟩) 1 1 = v1 := ⟨_, rfl⟩
      rw [hv1] at HRW ⊢
      have HV1 := Lib.hid (show slLen v1 = 1 by rw [← hv1]; rfl)
      clear hgr hlu hW1 hv1 HO2 HB
      go_loopw [10] (fun rv wr => ∃ (k : Nat) (ps : List (Nat × Nat × Nat)), 1 ≤ k ∧ k ≤ L ∧ slLen rv = k ∧ Hid (ps.length = k) ∧ Hid (IsRows gu wr rv ps C) ∧ Hid (OwnC gu wr (.slice (some ⟨gu, 0, none⟩) m m) C) ∧ Hid (Below gu w wr)) (fun rv _ => L - slLen rv)
      case atStart => exact ⟨1, [(gu, m, m)], Nat.le_refl _, hL1, HV1.out, Lib.hid rfl, HRW, HOr, HBr⟩
      case round =>
        clear HRW HOr HBr
        obtain ⟨k, ps, hk1, hk, hrv, HPL, HRW, HOr, HBr⟩ := hrel
        obtain ⟨gr, cr, rfl, hgr, hgrl⟩ := HRW.out.1.form (by rw [HPL.out]; omega) (by decide)
        rw [HPL.out] at HRW hrv ⊢
        clear hrv
        by_cases hlt : k < L
        · have hli : (k : Int) < L := by omega
          have hk2 : k - 1 < ps.length := by rw [HPL.out]; omega
          obtain ⟨p, hp⟩ : ∃ p, ps[k - 1] = p := ⟨_, rfl⟩
          have hp' : ps[k - 1]? = some p := by rw [List.getElem?_eq_getElem hk2, hp]
          obtain ⟨q1, q2, q3⟩ := HRW.out.2 (k - 1) p hp'
          have cp := HRW.out.1.cell flatS (k - 1) 0 p hp' (by decide)
          obtain ⟨pg, pn, pc⟩ := p
          simp only at q1 q2 q3
          rw [Nat.mul_one, Nat.add_zero] at cp
          have cp : wr.cell? ⟨gr, k - 1, none⟩ = some (.slice (some ⟨pg, 0, none⟩) pn pc) := by simpa [fS] using cp
          obtain ⟨K1, hK1⟩ : ∃ K1, k - 1 = K1 := ⟨_, rfl⟩
          have eK : (k : Int) - 1 = K1 := by omega
          have hKk : k = K1 + 1 := by omega
          rw [hK1] at cp q1 q3
          have hpn : pn ≤ 5000 := by have := hRM.out K1; rw [HCL.out] at this; omega
          have HQ3 := Lib.hid (own_lie q3)
          have lpg := (q3.lt _ rfl).2
          have HROW := Lib.hid (show mrg (m + pn / 2) C (pairsF (rowF C K1)) = rowF C k from by
            rw [hKk]
            show _ = mrg (C.length + (pairsF (rowF C K1)).length) C (pairsF (rowF C K1))
            rw [pairsF_len, HCL.out, q1])
          have HRL := Lib.hid (show (rowF C k).length = m + pn / 2 from by rw [hKk, row_len, HCL.out, q1])
          have HQ1 := Lib.hid q1
          have CP := Lib.hid (pPairs pg 0 pc pn (rowF C K1) wr q1.symm HQ3.out lpg (by omega) (hRB.out K1 (by omega)))
          have hPn : pn / 2 ≤ 10000 := by omega
          have HOu := Lib.hid (own_lie HOr.out)
          have hgul := (HOr.out.lt _ rfl).2
          have hszB : gu ≤ wr.heap.size := by omega
          have hsz10 : ps.length ≤ 1099511627776 := by rw [HPL.out]; omega
          have HSZ := Lib.hid hsz10
          have hK1n : (K1 : Int) < k := by omega
          have HPP := Lib.hid (pairsF_len (rowF C K1))
          have HKk := Lib.hid hKk
          clear hp hp' q1 q2 q3 hk2 hKk hsz10 hK1
          go_wp2_with (first | (go_at_call 91; refine CP.out.mono ?_; rintro e w3 ⟨g3, rfl, ho3, hb3⟩; have HL3 := Lib.hid (own_lie ho3); have HB3 := Lib.hid hb3; have hg3 := (ho3.lt _ rfl).2; have hgul3 : gu < w3.heap.size := Nat.lt_of_lt_of_le hgul hb3.size; have HT := Lib.hid (pTog gu 0 m m g3 0 (pn / 2) (pn / 2) C (pairsF (rowF C K1)) w3 HCL.out (by rw [HPP.out, HQ1.out]) (HOu.out.kept hgul hb3) HL3.out hgul3 hg3 (by omega) hPn (Nat.le_refl _) (Nat.le_refl _) (by omega)); clear ho3 hb3) | (go_at_call 90; refine HT.out.mono ?_; rintro e w4 ⟨g4, c4, rfl, ho4, hb4⟩; have HB4 := Lib.hid (HB3.out.trans (hb4.mono HB3.out.size)); have HR4 := Lib.hid (HRW.out.kept HB4.out); have HO4 := Lib.hid (ho4.base (show gu ≤ w3.heap.size by omega)); have hs4 : gu ≤ w4.heap.size := Nat.le_trans hszB HB4.out.size; clear ho4 hb4) | (at_builtin; refine app_crow rfl (.tmp 36) (.tmp 46) rfl gu 133 _ ps g4 (m + pn / 2) c4 rfl HR4.out.1 w4.heap.size 1 rfl rfl HSZ.out hs4 ?_; intro v5 w5 ho5 hb5 hg5))
          obtain ⟨g5, c5, rfl, -, -⟩ := ho5.form (by simp) (by decide)
          have hpl : (ps ++ [(g4, m + pn / 2, c4)]).length = k + 1 := by rw [List.length_append, HPL.out]; rfl
          have hR5 := HR4.out.more hg5 g4 (m + pn / 2) c4 ho5 (by rw [HPL.out, HRL.out]) (own_cap HO4.out).2 (by rw [HPL.out, ← HROW.out]; exact HO4.out)
          have hO5 : OwnC gu w5 (.slice (some ⟨gu, 0, none⟩) m m) C := by
            have h4 := OwnS.kept HOr.out HB4.out
            obtain ⟨C', hC'⟩ := own_heap h4
            refine h4.grown hg5 (.inr ?_)
            have := own_ne HR4.out.1 hC' (by decide)
            exact fun e => this e.symm
          rw [hpl] at hR5 ⊢
          refine ⟨⟨k + 1, _, by omega, by omega, rfl, Lib.hid hpl, Lib.hid hR5, Lib.hid hO5, Lib.hid (HBr.out.trans ((HB4.out.mono hszB).trans hb5))⟩, ?_⟩
          simp [slLen]; omega
        · obtain rfl : L = k := by omega
          have hli : ¬ (L : Int) < L := by omega
          go_wp2_with fail
          go_ret
          exact ⟨_, rfl, ps, HPL.out, by rw [HGU.out]; exact HRW.out, by rw [HGU.out]; exact HBr.out⟩
end Go.Proofs.YtipcdkemokkdfaaGreat

/- Layer 6: Whole and Check. -/
namespace Go.Proofs.YtipcdkemokkdfaaGreat
open Go.ChangeShapes Go.WideShapes Go.ChangeAt Go.RowKit
set_option linter.unusedVariables false
set_option maxRecDepth 100000
open KraftMath

theorem wrap_pow (m : Nat) (h : m ≤ 16) : wrap64 (2 ^ m) = ((2 ^ m : Nat) : Int) := by
  have hp : 2 ^ m ≤ 2 ^ 16 := Nat.pow_le_pow_right (by decide) h
  have e : (2 : Int) ^ m = ((2 ^ m : Nat) : Int) := by simp
  rw [e]
  generalize 2 ^ m = P at *
  unfold wrap64; omega
theorem pow_test (S m : Nat) (h : m ≤ 16) : ((S : Int) == wrap64 (2 ^ m)) = decide (S = 2 ^ m) := by
  rw [wrap_pow m h, Bool.eq_iff_iff, beq_iff_eq, decide_eq_true_iff]
  constructor
  · intro h; exact_mod_cast h
  · intro h; exact_mod_cast h
set_option maxHeartbeats 800000 in
theorem kWhole (a : Option Addr) (cap m : Nat) (zs : List Int) (w : World) (h : IsInts w a zs) (h1 : 1 ≤ m) (h16 : m ≤ 16) (B : Bool) (hB : B = decide (ksum m zs = 2 ^ m)) : Calls Tryz.prog 84 #[.slice a zs.length cap, .int .i64 m] w fun e w' => e = .returned (.bool B) ∧ ∃ k, w' = w.drewN k := by
  have HS := Lib.hid (fun k => kSum a cap m zs (w.drewN k) h h1 h16)
  obtain ⟨S, hS⟩ : ∃ S, ksum m zs = S := ⟨_, rfl⟩
  rw [hS] at HS hB
  clear hS h
  go_enter Tryz.func84, Tryz.ntmps84
  go_wp2
  go_quiet ((first | (go_at_call 82; exact Calls.quiet_of_same (may_yes m (by omega) (by omega) _)) | (go_at_call 102; exact Calls.quiet_of_same (HS.out _))))
  go_wp2
  go_ret
  exact ⟨ret_b (by rw [hB, pow_test S m h16]), _, rfl⟩
theorem check_bad (zs : List Int) (m k : Nat) (h1 : 1 ≤ m) (h16 : m ≤ 16) (hl : zs.length ≤ 1024) (hk : k < zs.length) (hb : bad m (zs.getD k 0) = true) : check zs m = 2 := by
  have ha : zs.any (bad m) = true := by
    rw [List.any_eq_true]
    refine ⟨zs.getD k 0, ?_, hb⟩
    rw [List.getD_eq_getElem?_getD, List.getElem?_eq_getElem hk]; exact List.getElem_mem hk
  unfold check
  rw [if_neg (by omega), if_neg (by omega), Int.toNat_natCast, if_pos ha]
theorem check_good (zs : List Int) (m : Nat) (h1 : 1 ≤ m) (h16 : m ≤ 16) (hl : zs.length ≤ 1024) (hg : zs.any (bad m) = false) :
    check zs m = if used zs = 0 then 7 else if used zs = 1 then (if sole 0 zs = 1 then 0 else 6) else if ksum m zs = 2 ^ m then 0 else 6 := by
  unfold check
  rw [if_neg (by omega), if_neg (by omega), Int.toNat_natCast, if_neg (by rw [hg]; decide)]
  by_cases h0 : used zs = 0
  · rw [if_pos h0, if_pos h0]
  · rw [if_neg h0, if_neg h0]
    by_cases hu : used zs = 1
    · rw [if_pos hu, if_pos hu]
      obtain ⟨g1, g2, g3⟩ := ksum_one m 0 zs hu ((any_bad m zs).1 hg)
      rw [g3]
      have := pow_half m (sole 0 zs).toNat (by omega) (by omega)
      by_cases hs : sole 0 zs = 1
      · rw [if_pos hs, if_pos (this.2 (by omega))]
      · rw [if_neg hs, if_neg (fun h => hs (by have := this.1 h; omega))]
    · rw [if_neg hu, if_neg hu]
theorem any_succ (zs : List Int) (m k : Nat) (h : k < zs.length) (ha : (zs.take k).any (bad m) = false) (hb : bad m (zs.getD k 0) = false) : (zs.take (k + 1)).any (bad m) = false := by
  rw [take_succ_getD zs k h, List.any_append, ha, Bool.false_or]; simp only [List.any_cons, List.any_nil, Bool.or_false]; exact hb
theorem sole_append (s : Int) (l : List Int) (x : Int) : sole s (l ++ [x]) = if x = 0 then sole s l else x := by
  induction l generalizing s with
  | nil => rfl
  | cons n l ih => exact ih _
theorem sole_succ (zs : List Int) (k : Nat) (h : k < zs.length) : sole 0 (zs.take (k + 1)) = if zs.getD k 0 = 0 then sole 0 (zs.take k) else zs.getD k 0 := by
  rw [take_succ_getD zs k h, sole_append]
def Soles (zs : List Int) (m k : Nat) (s : Int) : Prop := (zs.take k).any (bad m) = false ∧ s = sole 0 (zs.take k)
set_option maxHeartbeats 3200000 in
theorem kCheck (a : Option Addr) (cap m : Nat) (zs : List Int) (w : World) (h : IsInts w a zs) (h1 : 1 ≤ m) (h16 : m ≤ 16) (hl : zs.length ≤ 1024) : Calls Tryz.prog 62 #[.slice a zs.length cap, .int .i64 m] w fun e w' => e = .returned (.int .i64 (check zs m)) ∧ ∃ k, w' = w.drewN k := by
  have HUsed := Lib.hid (kUsed a cap zs w h)
  have HWh := Lib.hid (kWhole a cap m zs w h h1 h16)
  have hx := h.2
  clear h
  have HB := Lib.hid (fun k hk hb => check_bad zs m k h1 h16 hl hk hb)
  have HGd := Lib.hid (fun hg => check_good zs m h1 h16 hl hg)
  have HA := Lib.hid (any_succ zs m); have HSo := Lib.hid (sole_succ zs)
  obtain ⟨R, hR⟩ : ∃ R, check zs m = R := ⟨_, rfl⟩
  rw [hR] at HB HGd ⊢
  clear hR
  have HX := Lib.hid hx
  clear hx
  go_enter Tryz.func62, Tryz.ntmps62
  go_wp2
  go_step3
  go_wp2_with fail
  refine (may_yes m (by omega) (by omega) _).mono ?_; rintro e w1 ⟨rfl, rfl⟩
  go_wp2_with fail
  go_step3
  go_wp2_with fail
  go_loop [5, 6, 17] (fun b s i => ∃ (k : Nat) (S : Int), k ≤ zs.length ∧ i = .int .i64 k ∧ b = .bool false ∧ s = .int .i64 S ∧ Soles zs m k S) (fun _ _ i => zs.length - (intOf i).toNat)
  case atStart => exact ⟨0, 0, Nat.zero_le _, rfl, rfl, rfl, rfl, rfl⟩
  case round =>
    obtain ⟨k, S, hk, rfl, rfl, rfl, hS⟩ := hrel
    have HS := Lib.hid hS
    clear hS
    by_cases hlt : k < zs.length
    · rcases HX.out with hx | ⟨x, rfl, hc⟩
      · rw [hx] at hlt; simp at hlt
      have hcell := hc k hlt
      clear hc
      obtain ⟨z, hz⟩ : ∃ z, zs.getD k 0 = z := ⟨_, rfl⟩
      rw [hz] at hcell
      have HZ := Lib.hid hz
      clear hz
      by_cases hneg : z < 0
      · have HE := Lib.hid (HB.out k hlt (by rw [HZ.out]; simp [bad, hneg]))
        go_wp2
        go_ret
        exact ⟨ret_i HE.out.symm, 0, rfl⟩
      · by_cases hbig : (m : Int) < z
        · have HE := Lib.hid (HB.out k hlt (by rw [HZ.out]; simp [bad, hbig]))
          go_wp2
          go_ret
          exact ⟨ret_i HE.out.symm, 0, rfl⟩
        · have hok : bad m (zs.getD k 0) = false := by rw [HZ.out]; unfold bad; rw [Bool.or_eq_false_iff, decide_eq_false_iff_not, decide_eq_false_iff_not]; exact ⟨hneg, hbig⟩
          have HQ := Lib.hid (HA.out k hlt HS.out.1 hok)
          have HP := Lib.hid (HSo.out k hlt)
          clear hok
          by_cases hz0 : z = 0
          · subst hz0
            go_wp2
            go_round
            case rel => exact ⟨k + 1, S, by omega, by go_num, rfl, rfl, HQ.out, by rw [HP.out, HZ.out, if_pos rfl]; exact HS.out.2⟩
            case measure => simp [intOf]; omega
          · have hz1 : (z == 0) = false := by rw [beq_eq_false_iff_ne]; exact hz0
            go_wp2
            go_round
            case rel => exact ⟨k + 1, z, by omega, by go_num, rfl, rfl, HQ.out, by rw [HP.out, HZ.out, if_neg hz0]⟩
            case measure => simp [intOf]; omega
    · obtain rfl : k = zs.length := by omega
      have hS := HS.out
      unfold Soles at hS
      rw [List.take_length] at hS
      have hE := HGd.out hS.1
      have hs := hS.2
      obtain ⟨U, hU⟩ : ∃ U, used zs = U := ⟨_, rfl⟩
      obtain ⟨Q, hQ⟩ : ∃ Q, ksum m zs = Q := ⟨_, rfl⟩
      rw [hU, hQ, ← hs] at hE
      rw [hU] at HUsed
      rw [hQ] at HWh
      have HE := Lib.hid hE
      clear hS hE hs hU hQ
      by_cases h0 : U = 0
      · subst h0
        go_wp2_with fail
        refine HUsed.out.mono ?_; rintro e w2 ⟨rfl, rfl⟩
        go_wp2_with fail
        try rw [Exit.noGoto_ret]
        go_ret
        exact ⟨ret_i (by rw [HE.out]; simp), 0, rfl⟩
      · have e0 : ((U : Int) == 0) = false := by rw [beq_eq_false_iff_ne]; omega
        by_cases hu1 : U = 1
        · subst hu1
          by_cases hs1 : S = 1
          · subst hs1
            go_wp2_with fail
            refine HUsed.out.mono ?_; rintro e w2 ⟨rfl, rfl⟩
            go_wp2_with fail
            try rw [Exit.noGoto_ret]
            go_ret
            exact ⟨ret_i (by rw [HE.out]; rfl), 0, rfl⟩
          · have es : (S == 1) = false := by rw [beq_eq_false_iff_ne]; exact hs1
            have es2 : (S != 1) = true := by rw [bne, es]; rfl
            go_wp2_with fail
            refine HUsed.out.mono ?_; rintro e w2 ⟨rfl, rfl⟩
            go_wp2_with fail
            try rw [Exit.noGoto_ret]
            go_ret
            exact ⟨ret_i (by rw [HE.out]; simp [hs1]), 0, rfl⟩
        · have e1 : ((U : Int) == 1) = false := by rw [beq_eq_false_iff_ne]; omega
          by_cases hq : Q = 2 ^ m
          · have HW := Lib.hid (HWh.out true (by simp [hq]))
            have HQ := Lib.hid hq
            clear hq
            go_wp2_with fail
            refine HUsed.out.mono ?_; rintro e w2 ⟨rfl, rfl⟩
            go_wp2_with fail
            refine HW.out.mono ?_; rintro e w3 ⟨rfl, k3, rfl⟩
            go_wp2_with fail
            try rw [Exit.noGoto_ret]
            go_ret
            exact ⟨ret_i (by rw [HE.out, if_neg h0, if_neg hu1, if_pos HQ.out]), _, rfl⟩
          · have HW := Lib.hid (HWh.out false (by simp [hq]))
            have HQ := Lib.hid hq
            clear hq
            go_wp2_with fail
            refine HUsed.out.mono ?_; rintro e w2 ⟨rfl, rfl⟩
            go_wp2_with fail
            refine HW.out.mono ?_; rintro e w3 ⟨rfl, k3, rfl⟩
            go_wp2_with fail
            try rw [Exit.noGoto_ret]
            go_ret
            exact ⟨ret_i (by rw [HE.out, if_neg h0, if_neg hu1, if_neg HQ.out]), _, rfl⟩
theorem check_lim (zs : List Int) (m : Int) (h : m < 1 ∨ 16 < m) : check zs m = 1 := by unfold check; rw [if_pos h]
theorem check_long (zs : List Int) (m : Nat) (h1 : 1 ≤ m) (h16 : m ≤ 16) (hl : 1024 < zs.length) : check zs m = 5 := by unfold check; rw [if_neg (by omega), if_pos hl]
theorem kCheck_lim (a : Option Addr) (n cap : Nat) (m : Int) (h : m < 1 ∨ 16 < m) (w : World) : Calls Tryz.prog 62 #[.slice a n cap, .int .i64 m] w fun e w' => e = .returned (.int .i64 1) ∧ ∃ k, w' = w.drewN k := by
  go_enter Tryz.func62, Tryz.ntmps62
  go_wp2
  go_step3
  go_wp2_with fail
  refine (may_no m h _).mono ?_; rintro e w1 ⟨rfl, rfl⟩
  go_wp2_with fail
  try rw [Exit.noGoto_ret]
  go_ret
  exact ⟨rfl, 0, rfl⟩
theorem kCheck_long (a : Option Addr) (n cap m : Nat) (h1 : 1 ≤ m) (h16 : m ≤ 16) (hl : 1024 < n) (hn : n ≤ 70368744177664) (w : World) : Calls Tryz.prog 62 #[.slice a n cap, .int .i64 m] w fun e w' => e = .returned (.int .i64 5) ∧ ∃ k, w' = w.drewN k := by
  go_enter Tryz.func62, Tryz.ntmps62
  go_wp2
  go_step3
  go_wp2_with fail
  refine (may_yes m (by omega) (by omega) _).mono ?_; rintro e w1 ⟨rfl, rfl⟩
  go_wp2_with fail
  try rw [Exit.noGoto_ret]
  go_ret
  exact ⟨rfl, 0, rfl⟩
theorem kCheck_any (a : Option Addr) (cap : Nat) (m : Int) (zs : List Int) (w : World) (h : IsInts w a zs) : Calls Tryz.prog 62 #[.slice a zs.length cap, .int .i64 m] w fun e w' => e = .returned (.int .i64 (check zs m)) ∧ ∃ k, w' = w.drewN k := by
  by_cases hm : m < 1 ∨ 16 < m
  · rw [check_lim zs m hm]; exact kCheck_lim a _ cap m hm w
  · obtain ⟨M, rfl⟩ : ∃ M : Nat, m = M := ⟨m.toNat, by omega⟩
    by_cases hl : 1024 < zs.length
    · rw [check_long zs M (by omega) (by omega) hl]; exact kCheck_long a _ cap M (by omega) (by omega) hl h.1 w
    · exact kCheck a cap M zs w h (by omega) (by omega) (by omega)
end Go.Proofs.YtipcdkemokkdfaaGreat
