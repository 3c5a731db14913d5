/- Layer 7: the lengths cost what the best of all do. -/
import Derived.Test.YtofmjcelmbkebaaAJ7
namespace Go.Proofs.Ytofmjcelmbkebaa
open Go.ChangeShapes Go.WideShapes Go.ChangeAt Go.RowKit
set_option linter.unusedVariables false
set_option linter.unusedSimpArgs false
set_option maxRecDepth 100000
open KraftMath Pm
def costM : List Int → List Nat → Int
  | x :: l, m :: ms => x * m + costM l ms
  | _, _ => 0
def kM (K : Nat) : List Nat → Nat
  | [] => 0
  | m :: ms => 2 ^ (K - m) + kM K ms
theorem loopB_from (K len room : Nat) (x : Int) (F : Nat → Nat → Int) (fr : Nat) : ∀ i, 0 ≤ loopB K len room x F fr i → ∃ n, fr ≤ n ∧ n < fr + i ∧ 2 ^ (K - n) ≤ room ∧ 0 ≤ F n (room - 2 ^ (K - n)) ∧ loopB K len room x F fr i = F n (room - 2 ^ (K - n)) + x * n
  | 0, h => by simp [loopB] at h
  | i + 1, h => by
    have ih := loopB_from K len room x F fr i
    simp only [loopB, nextB, stepB] at h ⊢
    split
    · rename_i hc
      rw [if_pos hc] at h
      obtain ⟨n, h1, h2, h3⟩ := ih h
      exact ⟨n, h1, by omega, h3⟩
    · rename_i hc
      rw [if_neg hc] at h
      split
      · rename_i hd
        exact ⟨fr + i, by omega, by omega, by omega, hd.1, rfl⟩
      · rename_i hd
        rw [if_neg hd] at h
        obtain ⟨n, h1, h2, h3⟩ := ih h
        exact ⟨n, h1, by omega, h3⟩
theorem loopB_below (K len room : Nat) (x : Int) (F : Nat → Nat → Int) (fr n : Nat) (hn : fr ≤ n) (hx : 0 ≤ x) (h1 : 2 ^ (K - n) ≤ room) (h2 : room ≤ 2 ^ (K - n) * len) (h3 : len ≤ room) (h4 : 0 ≤ F n (room - 2 ^ (K - n))) : ∀ i, n < fr + i → 0 ≤ loopB K len room x F fr i ∧ loopB K len room x F fr i ≤ F n (room - 2 ^ (K - n)) + x * n
  | 0, h => by omega
  | i + 1, h => by
    simp only [loopB, nextB, stepB]
    by_cases e : n = fr + i
    · have hp : 0 ≤ x * (n : Int) := Int.mul_nonneg hx (by omega)
      rw [← e, if_neg (by omega)]
      split <;> omega
    · have ih := loopB_below K len room x F fr n hn hx h1 h2 h3 h4 i (by omega)
      have hp : 0 ≤ x * ((fr + i : Nat) : Int) := Int.mul_nonneg hx (by omega)
      split
      · exact ih
      · split <;> omega
theorem leastF_sound (K : Nat) : ∀ (l : List Int) (fr room : Nat), 0 ≤ leastF K l fr room → ∃ ms : List Nat, ms.length = l.length ∧ (∀ m ∈ ms, fr ≤ m ∧ m ≤ K) ∧ kM K ms = room ∧ leastF K l fr room = costM l ms
  | [], fr, room, h => by
    unfold leastF at h ⊢
    split at h
    · rename_i h0
      exact ⟨[], rfl, by simp, by simp [kM, h0], by rw [if_pos h0]; rfl⟩
    · simp at h
  | x :: l, fr, room, h => by
    simp only [leastF] at h ⊢
    obtain ⟨n, h1, h2, h3, h4, h5⟩ := loopB_from _ _ _ _ _ _ _ h
    obtain ⟨ms, g1, g2, g3, g4⟩ := leastF_sound K l n _ h4
    refine ⟨n :: ms, by simp [g1], fun m hm => ?_, by simp only [kM, g3]; omega, by rw [h5, g4]; simp only [costM]; omega⟩
    rcases List.mem_cons.1 hm with rfl | hm
    · omega
    · have := g2 m hm; omega
theorem kM_bd (K n : Nat) : ∀ ms : List Nat, (∀ m ∈ ms, n ≤ m) → ms.length ≤ kM K ms ∧ kM K ms ≤ 2 ^ (K - n) * ms.length
  | [], _ => by simp [kM]
  | m :: ms, h => by
    have ih := kM_bd K n ms (fun m hm => h m (by simp [hm]))
    have hm := h m (by simp)
    have h1 : 1 ≤ 2 ^ (K - m) := Nat.pow_pos (by decide)
    have h2 : 2 ^ (K - m) ≤ 2 ^ (K - n) := Nat.pow_le_pow_right (by decide) (by omega)
    simp only [kM, List.length_cons, Nat.mul_add, Nat.mul_one]
    omega
theorem leastF_below (K : Nat) : ∀ (l : List Int) (ms : List Nat) (fr room : Nat), (∀ x ∈ l, 0 ≤ x) → ms.length = l.length → ms.Pairwise (· ≤ ·) → (∀ m ∈ ms, fr ≤ m ∧ m ≤ K) → kM K ms = room → 0 ≤ leastF K l fr room ∧ leastF K l fr room ≤ costM l ms
  | [], ms, fr, room, hx, hl, hp, hb, hk => by
    obtain rfl : ms = [] := List.length_eq_zero_iff.1 (by simpa using hl)
    simp only [kM] at hk
    unfold leastF
    rw [if_pos hk.symm]
    simp [costM]
  | x :: l, [], fr, room, hx, hl, hp, hb, hk => by simp at hl
  | x :: l, n :: ms, fr, room, hx, hl, hp, hb, hk => by
    have hp' := List.pairwise_cons.1 hp
    have hn := hb n (by simp)
    have hall : ∀ m ∈ n :: ms, n ≤ m := fun m hm => by
      rcases List.mem_cons.1 hm with rfl | hm
      · exact Nat.le_refl _
      · exact hp'.1 m hm
    have hbd := kM_bd K n (n :: ms) hall
    have hll : (n :: ms).length = l.length + 1 := by rw [hl]; rfl
    rw [hk, hll] at hbd
    simp only [kM] at hk
    have ih := leastF_below K l ms n (room - 2 ^ (K - n)) (fun y hy => hx y (by simp [hy])) (by simpa using hl) hp'.2 (fun m hm => ⟨hp'.1 m hm, (hb m (by simp [hm])).2⟩) (by omega)
    have hb2 := loopB_below K (l.length + 1) room x (leastF K l) fr n hn.1 (hx x (by simp)) (by omega) (by omega) (by omega) ih.1 (K + 1 - fr) (by omega)
    simp only [leastF, costM]
    omega
theorem costM_append : ∀ (a : List Int) (p : List Nat) (x : Int) (m : Nat), p.length = a.length → costM (a ++ [x]) (p ++ [m]) = costM a p + x * m
  | [], [], x, m, _ => by simp [costM]
  | y :: a, n :: p, x, m, h => by
    simp only [List.cons_append, costM, costM_append a p x m (by simpa using h)]; omega
  | [], n :: p, x, m, h => by simp at h
  | y :: a, [], x, m, h => by simp at h
theorem costM_rev : ∀ (a : List Int) (p : List Nat), p.length = a.length → costM a.reverse p.reverse = costM a p
  | [], [], _ => rfl
  | y :: a, n :: p, h => by
    rw [List.reverse_cons, List.reverse_cons, costM_append _ _ _ _ (by simpa using h), costM_rev a p (by simpa using h)]
    simp only [costM]; omega
  | [], n :: p, h => by simp at h
  | y :: a, [], h => by simp at h
theorem kM_append (K : Nat) (a b : List Nat) : kM K (a ++ b) = kM K a + kM K b := by
  induction a with
  | nil => simp [kM]
  | cons x a ih => simp only [List.cons_append, kM, ih]; omega
theorem kM_rev (K : Nat) (a : List Nat) : kM K a.reverse = kM K a := by
  induction a with
  | nil => rfl
  | cons x a ih => rw [List.reverse_cons, kM_append, ih]; simp only [kM]; omega
theorem kM_map (K : Nat) (f : Nat → Nat) : ∀ n, kM K ((List.range n).map f) = kr K f n
  | 0 => rfl
  | n + 1 => by rw [List.range_succ, List.map_append, kM_append, kM_map K f n]; simp [kM, kr]
theorem costM_map : ∀ (ws : List Int) (f : Nat → Nat), costM ws ((List.range ws.length).map f) = dot ws f
  | [], f => rfl
  | w :: ws, f => by
    rw [List.length_cons, List.range_succ_eq_map, List.map_cons, List.map_map]
    simp only [costM, dot]
    rw [← costM_map ws]; rfl
theorem prodG_zip : ∀ (ms : List Nat) (ws : List Int), ms.length = ws.length → prodG (ms.zip ws) = costM ws ms
  | [], [], _ => rfl
  | m :: ms, w :: ws, h => by
    simp only [List.zip_cons_cons, prodG, costM, prodG_zip ms ws (by simpa using h)]
    rw [Int.mul_comm]
  | [], w :: ws, h => by simp at h
  | m :: ms, [], h => by simp at h
theorem filG_zip (K : Nat) : ∀ (ms : List Nat) (ws : List Int), ms.length = ws.length → (∀ m ∈ ms, 1 ≤ m) → filG K 1 (ms.zip ws) = kM K ms
  | [], [], _, _ => rfl
  | m :: ms, w :: ws, h, hb => by
    simp only [List.zip_cons_cons, filG, kM, filG_zip K ms ws (by simpa using h) (fun m hm => hb m (by simp [hm])), if_pos (hb m (by simp))]
  | [], w :: ws, h, _ => by simp at h
  | m :: ms, [], h, _ => by simp at h
theorem dsc_unique : ∀ (a b : List Int), Dsc a → Dsc b → a.Perm b → a = b
  | [], b, _, _, h => by simpa using h.symm.eq_nil.symm
  | x :: a, [], _, _, h => by have := h.length_eq; simp at this
  | x :: a, y :: b, ha, hb, h => by
    have hx : x ∈ y :: b := h.mem_iff.1 (by simp)
    have hy : y ∈ x :: a := h.mem_iff.2 (by simp)
    have ha' := List.pairwise_cons.1 ha
    have hb' := List.pairwise_cons.1 hb
    have e : x = y := by
      rcases List.mem_cons.1 hx with e | h1
      · exact e
      · rcases List.mem_cons.1 hy with e | h2
        · exact e.symm
        · have := ha'.1 y h2
          have := hb'.1 x h1
          omega
    subst e
    rw [dsc_unique a b ha'.2 hb'.2 (List.Perm.cons_inv h)]
theorem syms_pos (l : List Int) : ∀ n, n ≤ l.length → (symsL l n).map (frL l) = posF l n
  | 0, _ => by simp [symsL, posF]
  | n + 1, h => by
    rw [symsL_succ, posF_succ l n (by omega), ← syms_pos l n (by omega)]
    split
    · simp [frL]
    · rfl
theorem fall_eq (l F : List Int) (h1 : Dsc F) (h2 : F.Perm (posF l l.length)) : F = ((srtS l).map (frL l)).reverse := by
  refine dsc_unique _ _ h1 ?_ (h2.trans ?_)
  · unfold Dsc
    rw [List.pairwise_reverse]
    exact srtS_asc l
  · rw [← syms_pos l l.length (Nat.le_refl _)]
    exact ((St.sortF_perm _ _).symm.map _).trans (List.reverse_perm _).symm
theorem cost_ours (l : List Int) (L : Nat) (h : chkP l L = 0) : costL l (lensV l L) = dot ((srtS l).map (frL l)) (lj l L) := by
  obtain ⟨m, hm, h1, h2, h3, h4, h5, h6⟩ := chk_ok h
  obtain rfl : L = m := by omega
  have hbd := lensV_bd l L h
  rw [cost_srt l _ (lensV_len l L).symm h4 (fun i => ⟨(hbd i).1, by have := (hbd i).2.1; omega⟩), dot_sum, List.length_map, sumLs_idx]
  refine sumN_congr _ (fun j hj => ?_)
  obtain ⟨x, hx, -⟩ := srtS_mem (l := l) (u := (srtS l)[j]) (List.getElem_mem hj)
  rw [idx_get (srtS l) j hj, idx_get ((srtS l).map (frL l)) j (by rw [List.length_map]; exact hj), List.getElem_map, hx, Int.toNat_natCast, lensV_at l L j x hj hx]
def bestF (K : Nat) (F : List Int) : Int := if F.length = 1 then F.getD 0 0 else leastF K F 1 (2 ^ K)
theorem best_eq (l F : List Int) (L : Nat) (h : chkP l L = 0) (h1 : Dsc F) (h2 : F.Perm (posF l l.length)) : costL l (lensV l L) = bestF L F := by
  obtain ⟨m, hm, g1, g2, g3, g4, g5, g6⟩ := chk_ok h
  obtain rfl : L = m := by omega
  have hF := fall_eq l F h1 h2
  have hlen : F.length = (srtS l).length := by rw [hF, List.length_reverse, List.length_map]
  have hu := srtS_len l
  rw [cost_ours l L h]
  obtain ⟨ws, hws⟩ : ∃ ws, (srtS l).map (frL l) = ws := ⟨_, rfl⟩
  have hwl : ws.length = (srtS l).length := by rw [← hws, List.length_map]
  have hwa : ws.Pairwise (· ≤ ·) := by rw [← hws]; exact srtS_asc l
  have hwp : ∀ w ∈ ws, 0 < w := by rw [← hws]; exact srtS_pos l
  obtain ⟨b1, b2, b3, b4⟩ := lj_bd l L h
  rw [hws] at hF ⊢
  unfold bestF
  by_cases e : (srtS l).length = 1
  · rw [if_pos (by omega), hF]
    obtain ⟨w, rfl⟩ := List.length_eq_one_iff.1 (hwl.trans e)
    have : lj l L 0 = 1 := by unfold lj; rw [if_pos e]
    simp [dot, this]
  · rw [if_neg (by omega)]
    obtain ⟨c1, c2⟩ := b3 e
    have hlt : lj l L = lenAt (ksF ws L) := by funext j; unfold lj; rw [if_neg e, hws]
    have hle := leastF_below L F ((List.range ws.length).map (lj l L)).reverse 1 (2 ^ L) (fun x hx => by
      rw [hF, List.mem_reverse] at hx
      have := hwp x hx; omega) (by simp [hlen, hwl]) (by
      rw [List.pairwise_reverse, List.pairwise_map]
      exact List.pairwise_lt_range.imp (fun {i j} hij => b4 i j (by omega))) (fun m hm => by
      rw [List.mem_reverse, List.mem_map] at hm
      obtain ⟨j, hj, rfl⟩ := hm
      rw [List.mem_range, hwl] at hj
      exact ⟨b1 j hj, b2 j⟩) (by rw [kM_rev, kM_map, hwl]; exact c2)
    have hc : costM F ((List.range ws.length).map (lj l L)).reverse = dot ws (lj l L) := by
      rw [hF, costM_rev _ _ (by simp), costM_map]
    rw [hc] at hle
    obtain ⟨ms, s1, s2, s3, s4⟩ := leastF_sound L F 1 (2 ^ L) hle.1
    have hg := least ws L g1 (by omega) (by omega) hwa hwp (ms.reverse.zip ws) (List.map_snd_zip (by simp [s1, hlen, hwl])) (fun z hz => by
      have := (List.of_mem_zip hz).1
      rw [List.mem_reverse] at this
      exact s2 _ this) (by
      rw [filG_zip L _ _ (by simp [s1, hlen, hwl]) (fun m hm => (s2 m (by rwa [List.mem_reverse] at hm)).1), kM_rev, s3])
    rw [prodG_zip _ _ (by simp [s1, hlen, hwl]), ← hlt] at hg
    have hc2 : costM F ms = costM ws ms.reverse := by
      rw [hF, ← costM_rev ws ms.reverse (by simp [s1, hlen, hwl]), List.reverse_reverse]
    omega
end Go.Proofs.Ytofmjcelmbkebaa
