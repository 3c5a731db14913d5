import Derived.Test.YtopiiickeojpmaaJ08
/- Layer 7: the lengths may be, and no others cost less. -/
namespace Go.Proofs.Ytopiiickeojpmaa
open Go.ChangeShapes Go.WideShapes Go.ChangeAt Go.RowKit
set_option linter.unusedVariables false
set_option linter.unusedSimpArgs false
set_option maxRecDepth 100000
open KraftMath Pm
def mayP (l o : List Int) (L : Int) : Prop := l.length = o.length ∧ check o L = 0 ∧ ∀ i, i < o.length → (0 < o.getD i 0 ↔ 0 < l.getD i 0)
theorem mem_idx {l : List Int} {v : Int} (h : v ∈ l) : ∃ i, i < l.length ∧ l.getD i 0 = v := by
  obtain ⟨i, hi, rfl⟩ := List.mem_iff_getElem.1 h
  exact ⟨i, hi, by rw [List.getD_eq_getElem?_getD, List.getElem?_eq_getElem hi]; rfl⟩
theorem getD_out {l : List Int} {i : Nat} (h : l.length ≤ i) : l.getD i 0 = 0 := by
  rw [List.getD_eq_getElem?_getD, List.getElem?_eq_none h]; rfl
theorem idx_get (l : List Int) (j : Nat) (h : j < l.length) : l.getD j 0 = l[j] := by
  rw [List.getD_eq_getElem?_getD, List.getElem?_eq_getElem h]; rfl
theorem cost_srt (l o : List Int) (hl : l.length = o.length) (h1 : ∀ i, 0 ≤ l.getD i 0 ∧ l.getD i 0 ≤ 4294967295) (h2 : ∀ i, 0 ≤ o.getD i 0 ∧ o.getD i 0 ≤ 16) : costL l o = sumLs (fun x => frL l x * o.getD x.toNat 0) (srtS l) := by
  rw [costL_all, sumLs_srt, ← hl, Nat.min_self]
  refine sumN_congr _ (fun i hi => ?_)
  unfold cst
  rw [if_pos ⟨(h1 i).1, (h1 i).2, (h2 i).1, (h2 i).2⟩]
  by_cases h : 0 < l.getD i 0
  · rw [if_pos h]; rfl
  · rw [if_neg h]
    have : l.getD i 0 = 0 := by have := (h1 i).1; omega
    rw [this, Int.zero_mul]
theorem ksum_srt (m : Nat) (l o : List Int) (hl : l.length = o.length) (h2 : ∀ i, i < o.length → (0 < o.getD i 0 → 0 < l.getD i 0)) : (ksum m o : Int) = sumLs (fun x => ((KraftMath.part m (o.getD x.toNat 0) : Nat) : Int)) (srtS l) := by
  have := ksum_sum m o o.length (Nat.le_refl _)
  rw [List.take_of_length_le (Nat.le_refl _)] at this
  rw [this, sumLs_srt, hl]
  refine sumN_congr _ (fun i hi => ?_)
  by_cases h : 0 < l.getD i 0
  · rw [if_pos h]; rfl
  · rw [if_neg h]
    have : ¬ (1 ≤ o.getD i 0 ∧ o.getD i 0 ≤ m) := fun hh => h (h2 i hi (by omega))
    unfold KraftMath.part
    rw [if_neg this]; rfl
theorem used_srt (l o : List Int) (hl : l.length = o.length) (h : ∀ i, i < o.length → (0 < o.getD i 0 ↔ 0 < l.getD i 0)) : used o = used l := by
  have h1 := used_sum o o.length (Nat.le_refl _)
  have h2 := used_sum l l.length (Nat.le_refl _)
  rw [List.take_of_length_le (Nat.le_refl _)] at h1 h2
  have : (used o : Int) = used l := by
    rw [h1, h2, hl]
    refine sumN_congr _ (fun i hi => ?_)
    by_cases e : 0 < l.getD i 0
    · rw [if_pos e, if_pos ((h i hi).2 e)]
    · rw [if_neg e, if_neg (fun h' => e ((h i hi).1 h'))]
  omega
theorem lj_bd (l : List Int) (L : Nat) (h : chkP l L = 0) : (∀ j, j < (srtS l).length → 1 ≤ lj l L j) ∧ (∀ j, lj l L j ≤ L) ∧ ((srtS l).length ≠ 1 → 2 ≤ (srtS l).length ∧ kr L (lj l L) (srtS l).length = 2 ^ L) ∧ (∀ i j, i ≤ j → lj l L j ≤ lj l L i) := by
  obtain ⟨m, hm, h1, h2, h3, h4, h5, h6⟩ := chk_ok h
  obtain rfl : L = m := by omega
  have hu := srtS_len l
  by_cases e : (srtS l).length = 1
  · have hlj : ∀ j, lj l L j = 1 := fun j => by unfold lj; rw [if_pos e]
    exact ⟨fun j _ => by rw [hlj]; exact Nat.le_refl _, fun j => by rw [hlj]; exact h1, fun h => absurd e h, fun i j _ => by rw [hlj, hlj]; exact Nat.le_refl _⟩
  · have hlj : lj l L = lenAt (ksF ((srtS l).map (frL l)) L) := by funext j; unfold lj; rw [if_neg e]
    have hlen : ((srtS l).map (frL l)).length = (srtS l).length := List.length_map ..
    have h2' : 2 ≤ (srtS l).length := by omega
    obtain ⟨o1, o2, o3, o4, o5⟩ := ours ((srtS l).map (frL l)) L h1 (by omega) (by omega) (srtS_asc l) (srtS_pos l)
    rw [hlen] at o1 o2
    rw [hlj]
    exact ⟨o2, o3, fun _ => ⟨h2', o1⟩, fun i j hij => lenAt_mono _ i j hij⟩
theorem lensV_bd (l : List Int) (L : Nat) (h : chkP l L = 0) (i : Nat) : 0 ≤ (lensV l L).getD i 0 ∧ (lensV l L).getD i 0 ≤ L ∧ (0 < (lensV l L).getD i 0 ↔ 0 < l.getD i 0) := by
  obtain ⟨b1, b2, b3, b4⟩ := lj_bd l L h
  by_cases hp : 0 < l.getD i 0
  · have hi : i < l.length := by
      apply Classical.byContradiction
      intro hn
      rw [getD_out (by omega)] at hp; omega
    obtain ⟨j, hj, e⟩ := List.mem_iff_getElem.1 ((srtS_iff l i).2 ⟨hi, hp⟩)
    rw [lensV_at l L j i hj e]
    have := b1 j hj
    have := b2 j
    exact ⟨by omega, by omega, ⟨fun _ => hp, fun _ => by omega⟩⟩
  · rw [lensV_out l L i hp]
    exact ⟨by omega, by omega, ⟨fun h => by omega, fun h => absurd h hp⟩⟩
theorem lens_may (l : List Int) (L : Nat) (h : chkP l L = 0) : mayP l (lensV l L) L := by
  obtain ⟨m, hm, h1, h2, h3, h4, h5, h6⟩ := chk_ok h
  obtain rfl : L = m := by omega
  have hbd := lensV_bd l L h
  have hlen := lensV_len l L
  refine ⟨hlen.symm, ?_, fun i hi => (hbd i).2.2⟩
  have hus := used_srt l (lensV l L) hlen.symm (fun i _ => (hbd i).2.2)
  have hks := ksum_srt L l (lensV l L) hlen.symm (fun i _ => (hbd i).2.2.1)
  have hu := srtS_len l
  obtain ⟨b1, b2, b3, b4⟩ := lj_bd l L h
  have hG : sumLs (fun x => ((KraftMath.part L ((lensV l L).getD x.toNat 0) : Nat) : Int)) (srtS l) = sumN (fun j => ((2 ^ (L - lj l L j) : Nat) : Int)) (srtS l).length := by
    rw [sumLs_idx]
    refine sumN_congr _ (fun j hj => ?_)
    obtain ⟨x, hx, -⟩ := srtS_mem (l := l) (u := (srtS l)[j]) (List.getElem_mem hj)
    rw [idx_get _ _ hj, hx, Int.toNat_natCast, lensV_at l L j x hj hx]
    have := b1 j hj
    have := b2 j
    unfold KraftMath.part
    rw [if_pos ⟨by omega, by omega⟩, Int.toNat_natCast]
  rw [hG] at hks
  refine (check_ok _ L).2 ⟨h1, h2, by rw [hlen]; exact h3, fun v hv => ?_, ?_⟩
  · obtain ⟨i, -, rfl⟩ := mem_idx hv
    exact ⟨(hbd i).1, (hbd i).2.1⟩
  · rw [hus]
    by_cases e : (srtS l).length = 1
    · refine .inl ⟨by omega, ?_⟩
      rw [e] at hks
      have hl1 : lj l L 0 = 1 := by unfold lj; rw [if_pos e]
      simp only [sumN, hl1] at hks
      have : ksum L (lensV l L) = 2 ^ (L - 1) := by omega
      rw [this, ← (pow_half L 1 (Nat.le_refl _) h1).2 rfl]
    · refine .inr ⟨by omega, ?_⟩
      rw [← kr_sum, (b3 e).2] at hks
      exact Int.ofNat_inj.1 hks
theorem prodG_map (h : Int → Nat × Int) : ∀ ss : List Int, prodG (ss.map h) = sumLs (fun x => (h x).1 * (h x).2) ss
  | [] => rfl
  | x :: l => by simp only [List.map_cons, prodG, sumLs, prodG_map h l]
theorem filG_map (L : Nat) (h : Int → Nat × Int) : ∀ ss : List Int, (filG L 1 (ss.map h) : Int) = sumLs (fun x => if 1 ≤ (h x).1 then ((2 ^ (L - (h x).1) : Nat) : Int) else 0) ss
  | [] => rfl
  | x :: l => by
    simp only [List.map_cons, filG, sumLs, ← filG_map L h l]
    split <;> omega
theorem sumLs_congr {G H : Int → Int} : ∀ l : List Int, (∀ x ∈ l, G x = H x) → sumLs G l = sumLs H l
  | [], _ => rfl
  | x :: l, h => by simp only [sumLs, h x (by simp), sumLs_congr l (fun y hy => h y (by simp [hy]))]
theorem sumLs_le {G H : Int → Int} : ∀ l : List Int, (∀ x ∈ l, G x ≤ H x) → sumLs G l ≤ sumLs H l
  | [], _ => Int.le_refl _
  | x :: l, h => by
    have h1 := h x (by simp)
    have h2 := sumLs_le l (fun y hy => h y (by simp [hy]))
    simp only [sumLs]; omega
theorem lens_least (l : List Int) (L : Nat) (h : chkP l L = 0) (o : List Int) (hm : mayP l o L) : costL l (lensV l L) ≤ costL l o := by
  obtain ⟨m, hmm, h1, h2, h3, h4, h5, h6⟩ := chk_ok h
  obtain rfl : L = m := by omega
  obtain ⟨m1, m2, m3⟩ := hm
  obtain ⟨k1, k2, k3, k4, k5⟩ := (check_ok o L).1 m2
  have hbd := lensV_bd l L h
  have hlen := lensV_len l L
  have hob : ∀ i, 0 ≤ o.getD i 0 ∧ o.getD i 0 ≤ L := fun i => by
    by_cases hi : i < o.length
    · exact k4 _ (mem_getD hi)
    · rw [getD_out (by omega)]; omega
  have hopos : ∀ x ∈ srtS l, 1 ≤ o.getD x.toNat 0 := fun x hx => by
    obtain ⟨k, rfl, q1, q2⟩ := srtS_mem hx
    rw [Int.toNat_natCast]
    have := (m3 k (by omega)).2 q2
    omega
  rw [cost_srt l _ hlen.symm h4 (fun i => ⟨(hbd i).1, by have := (hbd i).2.1; omega⟩), cost_srt l o m1 h4 (fun i => ⟨(hob i).1, by have := (hob i).2; omega⟩)]
  have hu := srtS_len l
  by_cases e : (srtS l).length = 1
  · refine sumLs_le _ (fun x hx => ?_)
    obtain ⟨j, hj, hxj⟩ := List.mem_iff_getElem.1 hx
    obtain ⟨k, rfl, q1, q2⟩ := srtS_mem hx
    have hp := hopos k hx
    rw [Int.toNat_natCast] at hp ⊢
    rw [lensV_at l L j k hj hxj]
    have : lj l L j = 1 := by unfold lj; rw [if_pos e]
    rw [this]
    exact Int.mul_le_mul_of_nonneg_left (by omega) (h4 _).1
  · have h2' : 2 ≤ (srtS l).length := by omega
    have hlen' : ((srtS l).map (frL l)).length = (srtS l).length := List.length_map ..
    have hus := used_srt l o m1 m3
    have hks : ksum L o = 2 ^ L := by
      rcases k5 with ⟨a, -⟩ | ⟨-, b⟩
      · omega
      · exact b
    have hk2 := ksum_srt L l o m1 (fun i hi => (m3 i hi).1)
    have hl := least ((srtS l).map (frL l)) L h1 (by omega) (by omega) (srtS_asc l) (srtS_pos l) ((srtS l).map (fun x => ((o.getD x.toNat 0).toNat, frL l x))) (by rw [List.map_map]; rfl) (fun z hz => by
      obtain ⟨x, hx, rfl⟩ := List.mem_map.1 hz
      have a := hopos x hx
      have b := (hob x.toNat).2
      simp only; omega) (by
      have := filG_map L (fun x => ((o.getD x.toNat 0).toNat, frL l x)) (srtS l)
      have e2 : sumLs (fun x => if 1 ≤ (o.getD x.toNat 0).toNat then ((2 ^ (L - (o.getD x.toNat 0).toNat) : Nat) : Int) else 0) (srtS l) = sumLs (fun x => ((KraftMath.part L (o.getD x.toNat 0) : Nat) : Int)) (srtS l) := sumLs_congr _ (fun x hx => by
        have a := hopos x hx
        have b := (hob x.toNat).2
        unfold KraftMath.part
        rw [if_pos (by omega), if_pos ⟨by omega, by omega⟩])
      rw [e2, ← hk2, hks] at this
      exact Int.ofNat_inj.1 this)
    rw [prodG_map, dot_sum, hlen'] at hl
    have e3 : sumLs (fun x => frL l x * (lensV l L).getD x.toNat 0) (srtS l) = sumN (fun j => ((srtS l).map (frL l)).getD j 0 * (lenAt (ksF ((srtS l).map (frL l)) L) j : Nat)) (srtS l).length := by
      rw [sumLs_idx]
      refine sumN_congr _ (fun j hj => ?_)
      obtain ⟨x, hx, -⟩ := srtS_mem (l := l) (u := (srtS l)[j]) (List.getElem_mem hj)
      rw [idx_get (srtS l) j hj, idx_get ((srtS l).map (frL l)) j (by rw [hlen']; exact hj), List.getElem_map, hx, Int.toNat_natCast, lensV_at l L j x hj hx]
      unfold lj
      rw [if_neg e]
    have e4 : sumLs (fun x => frL l x * o.getD x.toNat 0) (srtS l) = sumLs (fun x => (((o.getD x.toNat 0).toNat : Nat) : Int) * frL l x) (srtS l) := sumLs_congr _ (fun x hx => by
      have a := hopos x hx
      rw [Int.toNat_of_nonneg (by omega), Int.mul_comm])
    rw [e3, e4]
    exact hl
end Go.Proofs.Ytopiiickeojpmaa
