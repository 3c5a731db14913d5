/- Layer 7: what the lengths are: such as are asked for, and least. -/
import Derived.Test.YtofmjcelmbkebaaAI7
namespace Go.Proofs.Ytofmjcelmbkebaa
open Go.ChangeShapes Go.WideShapes Go.ChangeAt Go.RowKit
set_option linter.unusedVariables false
set_option linter.unusedSimpArgs false
set_option maxRecDepth 100000
open KraftMath Pm
def sumN (G : Nat → Int) : Nat → Int
  | 0 => 0
  | n + 1 => sumN G n + G n
def sumLs (G : Int → Int) : List Int → Int
  | [] => 0
  | x :: l => G x + sumLs G l
theorem sumN_congr {G H : Nat → Int} : ∀ n, (∀ i, i < n → G i = H i) → sumN G n = sumN H n
  | 0, _ => rfl
  | n + 1, h => by rw [sumN, sumN, sumN_congr n (fun i hi => h i (by omega)), h n (by omega)]
theorem sumN_shift (G : Nat → Int) : ∀ n, sumN G (n + 1) = G 0 + sumN (fun i => G (i + 1)) n
  | 0 => by simp [sumN]
  | n + 1 => by
    have := sumN_shift G n
    rw [sumN, this]
    simp only [sumN]; omega
theorem sumLs_append (G : Int → Int) : ∀ a b, sumLs G (a ++ b) = sumLs G a + sumLs G b
  | [], b => by simp [sumLs]
  | x :: a, b => by simp only [List.cons_append, sumLs, sumLs_append G a b]; omega
theorem sumLs_perm (G : Int → Int) {a b : List Int} (h : a.Perm b) : sumLs G a = sumLs G b := by
  induction h with
  | nil => rfl
  | cons x _ ih => simp only [sumLs, ih]
  | swap x y l => simp only [sumLs]; omega
  | trans _ _ h1 h2 => rw [h1, h2]
theorem sumLs_syms (G : Int → Int) (l : List Int) : ∀ n, sumLs G (symsL l n) = sumN (fun i => if 0 < l.getD i 0 then G i else 0) n
  | 0 => by simp [symsL, sumLs, sumN]
  | n + 1 => by
    rw [symsL_succ, sumN, ← sumLs_syms G l n]
    by_cases h : 0 < l.getD n 0
    · simp only [if_pos h, sumLs_append, sumLs]; omega
    · simp only [if_neg h]; omega
theorem sumLs_srt (G : Int → Int) (l : List Int) : sumLs G (srtS l) = sumN (fun i => if 0 < l.getD i 0 then G i else 0) l.length := by
  rw [← sumLs_syms]
  exact sumLs_perm G (St.sortF_perm _ _)
theorem sumLs_idx (G : Int → Int) : ∀ ss : List Int, sumLs G ss = sumN (fun j => G (ss.getD j 0)) ss.length
  | [] => rfl
  | x :: l => by
    rw [List.length_cons, sumN_shift]
    simp only [sumLs, sumLs_idx G l, List.getD_cons_zero, List.getD_cons_succ]
theorem dot_sum : ∀ (ws : List Int) (f : Nat → Nat), dot ws f = sumN (fun j => ws.getD j 0 * f j) ws.length
  | [], f => rfl
  | x :: l, f => by
    rw [List.length_cons, sumN_shift]
    simp only [dot, dot_sum l, List.getD_cons_zero, List.getD_cons_succ]
theorem kr_sum (m : Nat) (f : Nat → Nat) : ∀ n, (kr m f n : Int) = sumN (fun j => ((2 ^ (m - f j) : Nat) : Int)) n
  | 0 => rfl
  | n + 1 => by rw [kr, sumN, ← kr_sum m f n]; omega
theorem ksum_sum (m : Nat) (zs : List Int) : ∀ k, k ≤ zs.length → (ksum m (zs.take k) : Int) = sumN (fun i => ((KraftMath.part m (zs.getD i 0) : Nat) : Int)) k
  | 0, _ => by simp [ksum, sumN]
  | k + 1, h => by rw [ksum_succ' m zs k (by omega), sumN, ← ksum_sum m zs k (by omega)]; omega
theorem used_sum (zs : List Int) : ∀ k, k ≤ zs.length → (used (zs.take k) : Int) = sumN (fun i => if 0 < zs.getD i 0 then 1 else 0) k
  | 0, _ => by simp [used, sumN]
  | k + 1, h => by
    rw [used_succ zs k (by omega), sumN, ← used_sum zs k (by omega)]
    split <;> omega
def cst (x y : Int) : Int := if 0 ≤ x ∧ x ≤ 4294967295 ∧ 0 ≤ y ∧ y ≤ 16 then x * y else 0
def costL : List Int → List Int → Int
  | x :: l, y :: o => cst x y + costL l o
  | _, _ => 0
theorem costL_sum : ∀ (l o : List Int) k, k ≤ l.length → k ≤ o.length → costL (l.take k) (o.take k) = sumN (fun i => cst (l.getD i 0) (o.getD i 0)) k
  | l, o, 0, _, _ => by cases l <;> simp [costL, sumN]
  | [], o, k + 1, h, _ => by simp at h
  | x :: l, [], k + 1, _, h => by simp at h
  | x :: l, y :: o, k + 1, h, h' => by
    rw [List.take_succ_cons, List.take_succ_cons, sumN_shift]
    simp only [costL, List.getD_cons_zero, List.getD_cons_succ]
    rw [costL_sum l o k (by simpa using h) (by simpa using h')]
theorem costL_min : ∀ (l o : List Int), costL l o = costL (l.take (min l.length o.length)) (o.take (min l.length o.length))
  | [], o => by simp [costL]
  | x :: l, [] => by simp [costL]
  | x :: l, y :: o => by
    have e : min (x :: l).length (y :: o).length = min l.length o.length + 1 := by simp only [List.length_cons]; omega
    rw [e, List.take_succ_cons, List.take_succ_cons]
    simp only [costL]
    rw [costL_min l o]
theorem costL_all (l o : List Int) : costL l o = sumN (fun i => cst (l.getD i 0) (o.getD i 0)) (min l.length o.length) := by
  rw [costL_min, costL_sum l o _ (by omega) (by omega)]
theorem getD_set (o : List Int) (a : Nat) (v : Int) (x : Nat) (h : a < o.length) : (o.set a v).getD x 0 = if a = x then v else o.getD x 0 := by
  rw [List.getD_eq_getElem?_getD, List.getElem?_set, List.getD_eq_getElem?_getD]
  by_cases e : a = x
  · rw [if_pos e, if_pos h, if_pos e]; rfl
  · rw [if_neg e, if_neg e]
theorem incAll_get : ∀ (t : List Int) (o : List Int) (x : Nat), t.Nodup → (∀ u ∈ t, ∃ k : Nat, u = k ∧ k < o.length) → (incAll o t).getD x 0 = o.getD x 0 + if (x : Int) ∈ t then 1 else 0
  | [], o, x, _, _ => by simp [incAll]
  | y :: t, o, x, hn, hb => by
    obtain ⟨k, rfl, hk⟩ := hb y (by simp)
    have hn' := List.nodup_cons.1 hn
    rw [incAll, incAll_get t _ x hn'.2 (fun u hu => by
      obtain ⟨i, h1, h2⟩ := hb u (by simp [hu])
      exact ⟨i, h1, by rw [List.length_set]; exact h2⟩), Int.toNat_natCast, getD_set _ _ _ _ hk]
    by_cases e : k = x
    · subst e
      rw [if_pos rfl, if_neg hn'.1, if_pos (by simp)]; omega
    · rw [if_neg e]
      have : ((x : Int) ∈ (k : Int) :: t) ↔ (x : Int) ∈ t := by
        rw [List.mem_cons]
        constructor
        · rintro (h | h)
          · omega
          · exact h
        · exact .inr
      by_cases h : (x : Int) ∈ t
      · rw [if_pos h, if_pos (this.2 h)]
      · rw [if_neg h, if_neg (fun h' => h (this.1 h'))]
theorem addF_len (ss : List Int) : ∀ (ks : List Nat) (o : List Int), (addF ss o ks).length = o.length
  | [], o => rfl
  | s :: r, o => by rw [addF, addF_len ss r, incAll_len]
theorem addF_at (ss : List Int) (hn : ss.Nodup) (j : Nat) (hj : j < ss.length) (x : Nat) (hx : ss[j] = (x : Int)) : ∀ (ks : List Nat) (o : List Int), (∀ u ∈ ss, ∃ k : Nat, u = k ∧ k < o.length) → (addF ss o ks).getD x 0 = o.getD x 0 + (lenAt ks j : Nat)
  | [], o, _ => by simp [addF, lenAt]
  | s :: r, o, hb => by
    rw [addF, addF_at ss hn j hj x hx r _ (fun u hu => by rw [incAll_len]; exact hb u hu), incAll_get _ _ _ (hn.sublist (List.take_sublist _ _)) (fun u hu => hb u (List.mem_of_mem_take hu))]
    have hm : (x : Int) ∈ ss.take s ↔ j < s := by
      rw [List.mem_take_iff_getElem]
      constructor
      · rintro ⟨i, hi, e⟩
        have := (List.getElem_inj hn).1 (e.trans hx.symm)
        omega
      · intro h
        exact ⟨j, by omega, hx⟩
    simp only [lenAt]
    by_cases h : j < s
    · rw [if_pos (hm.2 h), if_pos h]; omega
    · rw [if_neg (fun h' => h (hm.1 h')), if_neg h]; omega
theorem addF_out (ss : List Int) (hn : ss.Nodup) (x : Nat) (hx : ¬ (x : Int) ∈ ss) : ∀ (ks : List Nat) (o : List Int), (∀ u ∈ ss, ∃ k : Nat, u = k ∧ k < o.length) → (addF ss o ks).getD x 0 = o.getD x 0
  | [], o, _ => rfl
  | s :: r, o, hb => by
    rw [addF, addF_out ss hn x hx r _ (fun u hu => by rw [incAll_len]; exact hb u hu), incAll_get _ _ _ (hn.sublist (List.take_sublist _ _)) (fun u hu => hb u (List.mem_of_mem_take hu)), if_neg (fun h => hx (List.mem_of_mem_take h))]; omega
theorem rep_get (n x : Nat) : (List.replicate n (0 : Int)).getD x 0 = 0 := by
  rw [List.getD_eq_getElem?_getD, List.getElem?_replicate]; split <;> rfl
/-- The length of the j-th symbol in order. -/
def lj (l : List Int) (L j : Nat) : Nat := if (srtS l).length = 1 then 1 else lenAt (ksF ((srtS l).map (frL l)) L) j
theorem srtS_nodup (l : List Int) : (srtS l).Nodup := (St.sortF_perm _ _).nodup_iff.2 (St.asc_nodup (symsL_asc l _))
theorem lensV_len (l : List Int) (L : Nat) : (lensV l L).length = l.length := by
  unfold lensV
  split
  · simp
  · rw [addF_len]; simp
theorem lensV_at (l : List Int) (L j x : Nat) (hj : j < (srtS l).length) (hx : (srtS l)[j] = (x : Int)) : (lensV l L).getD x 0 = (lj l L j : Nat) := by
  have hb : ∀ u ∈ srtS l, ∃ k : Nat, u = k ∧ k < (List.replicate l.length (0 : Int)).length := fun u hu => by
    obtain ⟨k, h1, h2, -⟩ := srtS_mem hu
    exact ⟨k, h1, by simpa using h2⟩
  unfold lensV lj
  by_cases h : (srtS l).length = 1
  · rw [if_pos h, if_pos h]
    obtain rfl : j = 0 := by omega
    have hx0 : (srtS l).getD 0 0 = (x : Int) := by rw [List.getD_eq_getElem?_getD, List.getElem?_eq_getElem hj, hx]; rfl
    obtain ⟨k, h1, h2⟩ := hb x (by rw [← hx]; exact List.getElem_mem hj)
    obtain rfl : x = k := by omega
    rw [hx0, Int.toNat_natCast, getD_set _ _ _ _ h2, if_pos rfl]; rfl
  · rw [if_neg h, if_neg h, addF_at _ (srtS_nodup l) j hj x hx _ _ hb, rep_get]; omega
theorem srtS_iff (l : List Int) (x : Nat) : (x : Int) ∈ srtS l ↔ x < l.length ∧ 0 < l.getD x 0 := by
  unfold srtS
  rw [(St.sortF_perm _ _).mem_iff, symsL_mem]
  constructor
  · rintro ⟨k, h1, h2, h3⟩
    obtain rfl : x = k := by omega
    exact ⟨h2, h3⟩
  · rintro ⟨h1, h2⟩; exact ⟨x, rfl, h1, h2⟩
theorem lensV_out (l : List Int) (L x : Nat) (hx : ¬ 0 < l.getD x 0) : (lensV l L).getD x 0 = 0 := by
  have hb : ∀ u ∈ srtS l, ∃ k : Nat, u = k ∧ k < (List.replicate l.length (0 : Int)).length := fun u hu => by
    obtain ⟨k, h1, h2, -⟩ := srtS_mem hu
    exact ⟨k, h1, by simpa using h2⟩
  have hn : ¬ (x : Int) ∈ srtS l := fun h => hx ((srtS_iff l x).1 h).2
  unfold lensV
  by_cases h : (srtS l).length = 1
  · rw [if_pos h]
    obtain ⟨y, hy⟩ := List.length_eq_one_iff.1 h
    obtain ⟨k, h1, h2⟩ := hb y (by rw [hy]; simp)
    rw [hy]
    show ((List.replicate l.length (0 : Int)).set y.toNat 1).getD x 0 = 0
    rw [h1, Int.toNat_natCast, getD_set _ _ _ _ h2, rep_get, if_neg (fun e => hn (by rw [hy, h1, e]; simp))]
  · rw [if_neg h, addF_out _ (srtS_nodup l) x hn _ _ hb, rep_get]
end Go.Proofs.Ytofmjcelmbkebaa
