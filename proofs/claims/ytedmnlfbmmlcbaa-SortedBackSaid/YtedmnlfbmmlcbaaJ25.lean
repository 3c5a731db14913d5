import Derived.Test.YtedmnlfbmmlcbaaJ24
import Derived.Test.YtedmnlfbmmlcbaaJ20
/- Layer 48: what Back tells, turned again (mathematics). -/
namespace Go.Proofs.Ytedmnlfbmmlcbaa
open Go.ChangeShapes Go.WideShapes Go.ChangeAt Go.RowKit
set_option linter.unusedVariables false
set_option linter.unusedSimpArgs false
set_option maxRecDepth 100000
/-- The row after j steps, and what is told by then. -/
def wlk (T : List UInt8) (at_ : Nat) : Nat → Nat
  | 0 => 0
  | j + 1 => ahd T at_ (wlk T at_ j)
def tol (T : List UInt8) (at_ : Nat) : Nat → List UInt8
  | 0 => []
  | j + 1 => T.getD (sOfB at_ (wlk T at_ j)) 0 :: tol T at_ j
theorem tol_len (T : List UInt8) (at_ : Nat) : ∀ j, (tol T at_ j).length = j
  | 0 => rfl
  | j + 1 => by rw [tol, List.length_cons, tol_len T at_ j]
theorem tol_at (T : List UInt8) (at_ : Nat) : ∀ j i, i < j → (tol T at_ j).getD (j - 1 - i) 0 = T.getD (sOfB at_ (wlk T at_ i)) 0
  | 0, i, h => by omega
  | j + 1, i, h => by
    by_cases e : i = j
    · subst e
      rw [show i + 1 - 1 - i = 0 by omega]; rfl
    · have := tol_at T at_ j i (by omega)
      rw [show j + 1 - 1 - i = (j - 1 - i) + 1 by omega]
      exact this
theorem bk_some (T : List UInt8) (at_ : Nat) : ∀ k j, (∀ i, j ≤ i → i < j + k → wlk T at_ i ≠ at_) → bk T at_ k (wlk T at_ j) (tol T at_ j) = some (tol T at_ (j + k))
  | 0, j, _ => rfl
  | k + 1, j, h => by
    rw [bk, if_neg (h j (Nat.le_refl _) (by omega))]
    have := bk_some T at_ k (j + 1) (fun i h1 h2 => h i (by omega) (by omega))
    rw [show j + (k + 1) = j + 1 + k by omega]
    exact this
theorem bk_none (T : List UInt8) (at_ i : Nat) (he : wlk T at_ i = at_) : ∀ k j, j ≤ i → i < j + k → bk T at_ k (wlk T at_ j) (tol T at_ j) = none
  | 0, j, h1, h2 => by omega
  | k + 1, j, h1, h2 => by
    rw [bk]
    by_cases e : wlk T at_ j = at_
    · rw [if_pos e]
    · rw [if_neg e]
      have hj : j ≠ i := fun x => e (by rw [x]; exact he)
      exact bk_none T at_ i he k (j + 1) (by omega) (by omega)
theorem range_getD (n s : Nat) (hs : s < n) : (List.range n).getD s 0 = s := by simp [List.getD_eq_getElem?_getD, hs]
section
variable {T : List UInt8} {at_ : Nat} (ha : at_ ≤ T.length) (hw : ∀ i, i < T.length → wlk T at_ i ≠ at_)
include ha hw
theorem wlk_le : ∀ j, j ≤ T.length → wlk T at_ j ≤ T.length
  | 0, _ => Nat.zero_le _
  | j + 1, h => ahd_le T at_ _ (wlk_le j (by omega)) ha (hw j (by omega))
theorem sOf_lt (j : Nat) (h : j < T.length) : sOfB at_ (wlk T at_ j) < T.length := by
  have h1 := wlk_le ha hw j (by omega)
  have h2 := hw j h
  unfold sOfB; split <;> omega
theorem ahd_cmp (i j : Nat) (hi : i < T.length) (hj : j < T.length) (h : wlk T at_ (i + 1) < wlk T at_ (j + 1)) : byteAtU T (sOfB at_ (wlk T at_ i)) < byteAtU T (sOfB at_ (wlk T at_ j)) ∨ (byteAtU T (sOfB at_ (wlk T at_ i)) = byteAtU T (sOfB at_ (wlk T at_ j)) ∧ wlk T at_ i < wlk T at_ j) := by
  have si := sOf_lt ha hw i hi
  have sj := sOf_lt ha hw j hj
  have ni := hw i hi
  have nj := hw j hj
  have key : ¬ (byteAtU T (sOfB at_ (wlk T at_ j)) < byteAtU T (sOfB at_ (wlk T at_ i)) ∨ (byteAtU T (sOfB at_ (wlk T at_ j)) = byteAtU T (sOfB at_ (wlk T at_ i)) ∧ sOfB at_ (wlk T at_ j) < sOfB at_ (wlk T at_ i))) := fun hx => by
    have := posn_inc (byteAtU T) (List.range T.length) (sOfB at_ (wlk T at_ j)) (sOfB at_ (wlk T at_ i)) (by rw [List.length_range]; exact sj) (by rw [List.length_range]; exact si) (by rw [range_getD _ _ sj, range_getD _ _ si]; exact hx)
    rw [wlk, wlk] at h
    unfold ahd at h
    omega
  have hne : wlk T at_ i ≠ wlk T at_ j := fun e => by rw [wlk, wlk, e] at h; omega
  have hs : sOfB at_ (wlk T at_ i) < sOfB at_ (wlk T at_ j) → wlk T at_ i < wlk T at_ j := by
    unfold sOfB; split <;> split <;> omega
  have hse : sOfB at_ (wlk T at_ i) = sOfB at_ (wlk T at_ j) → wlk T at_ i = wlk T at_ j := by
    unfold sOfB; split <;> split <;> omega
  omega
theorem wlk_inj : ∀ i j, i < j → j ≤ T.length → wlk T at_ i ≠ wlk T at_ j
  | 0, j, h1, h2 => by
    obtain ⟨k, rfl⟩ : ∃ k, j = k + 1 := ⟨j - 1, by omega⟩
    rw [wlk, wlk]; unfold ahd; omega
  | i + 1, j, h1, h2 => by
    obtain ⟨k, rfl⟩ : ∃ k, j = k + 1 := ⟨j - 1, by omega⟩
    intro e
    rw [wlk, wlk] at e
    have si := sOf_lt ha hw i (by omega)
    have sj := sOf_lt ha hw k (by omega)
    have ni := hw i (by omega)
    have nj := hw k (by omega)
    have hh : posn (byteAtU T) (List.range T.length) (sOfB at_ (wlk T at_ i)) = posn (byteAtU T) (List.range T.length) (sOfB at_ (wlk T at_ k)) := by unfold ahd at e; omega
    have hs := posn_inj _ _ _ _ (by rw [List.length_range]; exact si) (by rw [List.length_range]; exact sj) hh
    refine wlk_inj i k (by omega) (by omega) ?_
    revert hs
    unfold sOfB; split <;> split <;> omega
theorem wlk_all (r : Nat) (hr : r ≤ T.length) : ∃ j, j ≤ T.length ∧ wlk T at_ j = r := by
  have hnd : ((List.range (T.length + 1)).map (wlk T at_)).Nodup := by
    refine List.pairwise_iff_getElem.2 (fun a b h1 h2 hab => ?_)
    simp only [List.length_map, List.length_range] at h1 h2
    simp only [List.getElem_map, List.getElem_range]
    exact wlk_inj ha hw a b hab (by omega)
  have hlt : ∀ x ∈ (List.range (T.length + 1)).map (wlk T at_), x < T.length + 1 := fun x hx => by
    obtain ⟨j, hj, e⟩ := List.mem_map.1 hx
    have hj := List.mem_range.1 hj
    have := wlk_le ha hw j (by omega)
    omega
  have := (pig (T.length + 1) _ hnd hlt).2 (by simp) r (by omega)
  obtain ⟨j, hj, e⟩ := List.mem_map.1 this
  exact ⟨j, by have := List.mem_range.1 hj; omega, e⟩
theorem wlk_end : wlk T at_ T.length = at_ := by
  obtain ⟨j, hj, e⟩ := wlk_all ha hw at_ ha
  by_cases h : j = T.length
  · rw [← h]; exact e
  · exact absurd e (hw j (by omega))
omit ha hw in
theorem tol_dg (j : Nat) (hj : j < T.length) : dg (tol T at_ T.length) (T.length - (j + 1)) = byteAtU T (sOfB at_ (wlk T at_ j)) + 1 := by
  rw [dg_in _ _ (by rw [tol_len]; omega), show T.length - (j + 1) = T.length - 1 - j by omega, tol_at T at_ T.length j hj]
  rfl
omit ha hw in
theorem key_cons (S : List UInt8) (p m : Nat) : key S p (m + 1) = dg S p * 257 ^ m + key S (p + 1) m := by
  have := key_add S p 1 m
  rwa [show 1 + m = m + 1 by omega, key_one] at this
theorem tol_keys : ∀ m j j', j ≤ T.length → j' ≤ T.length → j < m → wlk T at_ j < wlk T at_ j' → key (tol T at_ T.length) (T.length - j) m < key (tol T at_ T.length) (T.length - j') m
  | 0, j, j', _, _, h, _ => by omega
  | m + 1, j, 0, _, _, _, h => by rw [wlk] at h; omega
  | m + 1, 0, j' + 1, _, h2, _, _ => by
    rw [key_out _ _ (by rw [tol_len]; omega), key_cons, tol_dg j' (by omega)]
    have : 0 < 257 ^ m := Nat.pow_pos (by decide)
    have h3 : 1 * 257 ^ m ≤ (byteAtU T (sOfB at_ (wlk T at_ j')) + 1) * 257 ^ m := Nat.mul_le_mul_right _ (by omega)
    omega
  | m + 1, j + 1, j' + 1, h1, h2, h3, h => by
    rw [key_cons, key_cons, tol_dg j (by omega), tol_dg j' (by omega), lex_lt (key_lt _ _ _) (key_lt _ _ _)]
    rw [show T.length - (j + 1) + 1 = T.length - j by omega, show T.length - (j' + 1) + 1 = T.length - j' by omega]
    rcases ahd_cmp ha hw j j' (by omega) (by omega) h with g | ⟨g1, g2⟩
    · left; omega
    · exact .inr ⟨by omega, tol_keys m j j' (by omega) (by omega) (by omega) g2⟩
/-- The step at which a row is met. -/
theorem met_ex : ∃ inv : Nat → Nat, ∀ r, r ≤ T.length → inv r ≤ T.length ∧ wlk T at_ (inv r) = r :=
  ⟨fun r => if h : r ≤ T.length then Classical.choose (wlk_all ha hw r h) else 0, fun r h => by
    simp only [dif_pos h]; exact Classical.choose_spec (wlk_all ha hw r h)⟩
theorem back_turned : ∃ a, IsSuf (tol T at_ T.length) a ∧ Pr a T.length at_ = 0 ∧ tB (tol T at_ T.length) a at_ = T := by
  obtain ⟨inv, hinv⟩ := met_ex ha hw
  have uniq : ∀ j, j ≤ T.length → inv (wlk T at_ j) = j := fun j hj => by
    have h1 := wlk_le ha hw j hj
    obtain ⟨g1, g2⟩ := hinv _ h1
    rcases Nat.lt_trichotomy (inv (wlk T at_ j)) j with f | f | f
    · exact absurd g2 (wlk_inj ha hw _ _ f hj)
    · exact f
    · exact absurd g2.symm (wlk_inj ha hw _ _ f g1)
  have h0 : inv 0 = 0 := uniq 0 (Nat.zero_le _)
  have hat : inv at_ = T.length := by
    have := uniq T.length (Nat.le_refl _)
    rwa [wlk_end ha hw] at this
  have hpos : ∀ r, 0 < r → r ≤ T.length → 0 < inv r := fun r h1 h2 => by
    apply Classical.byContradiction
    intro hx
    have := (hinv r h2).2
    rw [show inv r = 0 by omega, wlk] at this
    omega
  obtain ⟨a, haa⟩ : ∃ a, (List.range T.length).map (fun s => T.length - inv (s + 1)) = a := ⟨_, rfl⟩
  have hal : a.length = T.length := by rw [← haa]; simp
  have hag : ∀ s, s < T.length → a.getD s 0 = T.length - inv (s + 1) := fun s hs => by
    rw [← haa]; simp [List.getD_eq_getElem?_getD, hs]
  have hPr : ∀ r, r ≤ T.length → Pr a T.length r = T.length - inv r := fun r hr => by
    unfold Pr
    by_cases e : r = 0
    · subst e; rw [if_pos rfl, h0]; rfl
    · rw [if_neg e, hag _ (by omega), show r - 1 + 1 = r by omega]
  have hsuf : IsSuf (tol T at_ T.length) a := by
    refine ⟨by rw [hal, tol_len], fun x hx => ?_, pw_of_getD (fun i j hij hj => ?_)⟩
    · rw [tol_len]
      rw [← haa] at hx
      obtain ⟨s, hs, e⟩ := List.mem_map.1 hx
      have hs := List.mem_range.1 hs
      have := hpos (s + 1) (by omega) (by omega)
      omega
    · rw [hal] at hj
      rw [hag i (by omega), hag j hj, tol_len]
      obtain ⟨g1, g2⟩ := hinv (i + 1) (by omega)
      obtain ⟨g3, g4⟩ := hinv (j + 1) (by omega)
      have hk := tol_keys ha hw (T.length + 1) (inv (i + 1)) (inv (j + 1)) g1 g3 (by omega) (by rw [g2, g4]; omega)
      have e1 := key_add (tol T at_ T.length) (T.length - inv (i + 1)) T.length 1
      have e2 := key_add (tol T at_ T.length) (T.length - inv (j + 1)) T.length 1
      rw [key_one, dg_out _ _ (by rw [tol_len]; omega)] at e1 e2
      omega
  refine ⟨a, hsuf, by rw [hPr _ ha, hat]; omega, ?_⟩
  apply List.ext_getElem?
  intro s
  have hl1 := tB_len (tol T at_ T.length) a at_
  rw [tol_len] at hl1
  by_cases hs : s < T.length
  · have hr : rwB at_ s ≤ T.length ∧ rwB at_ s ≠ at_ ∧ sOfB at_ (rwB at_ s) = s := by
      unfold rwB sOfB; split <;> split <;> omega
    obtain ⟨g1, g2⟩ := hinv (rwB at_ s) hr.1
    have gne : inv (rwB at_ s) ≠ T.length := fun e => by
      rw [e, wlk_end ha hw] at g2
      exact hr.2.1 g2.symm
    have e := tol_at T at_ T.length (inv (rwB at_ s)) (by omega)
    rw [g2, hr.2.2] at e
    have e3 : (tB (tol T at_ T.length) a at_).getD s 0 = T.getD s 0 := by
      rw [← e]
      unfold tB
      rw [show (tol T at_ T.length).length = T.length from tol_len T at_ _]
      have hsl : s < (plB a T.length at_).length := by rw [plB_len]; exact hs
      have hp := plB_getD a T.length at_ s hs
      rw [hPr _ hr.1] at hp
      rw [List.getD_eq_getElem?_getD, List.getElem?_map, List.getElem?_eq_getElem hsl, Option.map_some, Option.getD_some]
      rw [List.getD_eq_getElem?_getD, List.getElem?_eq_getElem hsl, Option.getD_some] at hp
      rw [hp, show T.length - inv (rwB at_ s) - 1 = T.length - 1 - inv (rwB at_ s) by omega]
    rw [List.getElem?_eq_getElem (by omega), List.getElem?_eq_getElem hs]
    simp only [List.getD_eq_getElem?_getD, List.getElem?_eq_getElem hs, List.getElem?_eq_getElem (show s < (tB (tol T at_ T.length) a at_).length by omega), Option.getD_some] at e3
    rw [e3]
  · rw [List.getElem?_eq_none (by omega), List.getElem?_eq_none (by omega)]
end
/-- How many come before a byte's place, so far. -/
def cbf (T : List UInt8) (s0 k : Nat) : Nat := (List.range k).countP (fun s => decide (byteAtU T s < byteAtU T s0 ∨ (byteAtU T s = byteAtU T s0 ∧ s < s0)))
theorem cbf_step (T : List UInt8) (s0 k : Nat) : cbf T s0 (k + 1) = cbf T s0 k + if byteAtU T k < byteAtU T s0 ∨ (byteAtU T k = byteAtU T s0 ∧ k < s0) then 1 else 0 := by
  unfold cbf
  rw [List.range_succ, List.countP_append, List.countP_singleton]
  by_cases h : byteAtU T k < byteAtU T s0 ∨ (byteAtU T k = byteAtU T s0 ∧ k < s0) <;> simp [h]
theorem cbf_le (T : List UInt8) (s0 k : Nat) : cbf T s0 k ≤ k := by
  have := List.countP_le_length (l := List.range k) (p := fun s => decide (byteAtU T s < byteAtU T s0 ∨ (byteAtU T s = byteAtU T s0 ∧ s < s0)))
  rw [List.length_range] at this
  exact this
theorem cbf_split (T : List UInt8) (s0 : Nat) : ∀ k, cbf T s0 k = (List.range k).countP (fun s => decide (byteAtU T s < byteAtU T s0)) + (List.range (min k s0)).countP (fun s => decide (byteAtU T s = byteAtU T s0))
  | 0 => by simp [cbf]
  | k + 1 => by
    rw [cbf_step, cbf_split T s0 k, List.range_succ, List.countP_append, List.countP_singleton]
    by_cases h : k < s0
    · rw [show min (k + 1) s0 = k + 1 by omega, show min k s0 = k by omega, List.range_succ, List.countP_append, List.countP_singleton]
      by_cases h1 : byteAtU T k < byteAtU T s0
      · have h2 : ¬ byteAtU T k = byteAtU T s0 := by omega
        simp [h, h1, h2]; omega
      · by_cases h2 : byteAtU T k = byteAtU T s0
        · simp [h, h2]; omega
        · simp [h, h1, h2]
    · rw [show min (k + 1) s0 = s0 by omega, show min k s0 = s0 by omega]
      by_cases h1 : byteAtU T k < byteAtU T s0
      · simp [h, h1]; omega
      · simp [h, h1]
theorem cbf_posn (T : List UInt8) (s0 : Nat) (h : s0 < T.length) : cbf T s0 T.length = posn (byteAtU T) (List.range T.length) s0 := by
  rw [cbf_split]
  unfold posn bel sam
  rw [range_getD _ _ h, List.take_range]
  congr 3
  omega
end Go.Proofs.Ytedmnlfbmmlcbaa

/- Layer 48: the document's Turn, and the row ahead by counting. -/
namespace Go.Proofs.Ytedmnlfbmmlcbaa
open Go.ChangeShapes Go.WideShapes Go.ChangeAt Go.RowKit
set_option linter.unusedVariables false
set_option linter.unusedSimpArgs false
set_option maxRecDepth 100000
def kOf (at_ k : Nat) : Nat := if at_ < k then k - 1 else k
end Go.Proofs.Ytedmnlfbmmlcbaa

/- Layer 48: the document's Turn. -/
namespace Go.Proofs.Ytedmnlfbmmlcbaa
open Go.ChangeShapes Go.WideShapes Go.ChangeAt Go.RowKit
set_option linter.unusedVariables false
set_option linter.unusedSimpArgs false
set_option maxRecDepth 100000
set_option maxHeartbeats 3200000 in
theorem dTurnB (L : List UInt8) (w : World) (hL : L.length ≤ 10000) :
    Calls Try.prog 14 #[.string (sM L)] w fun e w' => ∃ (a : List Nat) (at_ : Nat), e = .returned (.tuple #[.string (sM (tB L a at_)), .int .i64 at_]) ∧ IsSuf L a ∧ at_ ≤ L.length ∧ Pr a L.length at_ = 0 ∧ Below w.heap.size w w' := by
  obtain ⟨n, hn⟩ : ∃ n, L.length = n := ⟨_, rfl⟩
  have hS : (sM L).size = n := by rw [sM_size, hn]
  have CS := Lib.hid (fun W => dSort L W hL)
  go_enter Try.func14, Try.ntmps14
  go_wp2_with fail
  refine (CS.out _).mono ?_; rintro e w1 ⟨v, a, rfl, ho, hs, hb⟩
  have hal : a.length = n := by rw [← hn]; exact hs.len
  obtain ⟨va, vc, rfl, hi⟩ := ho.isL (by rw [nI_len, hal]; omega)
  rw [show (nI a).length = n by rw [nI_len, hal]] at ho ⊢
  have HI := Lib.hid hi
  have HS := Lib.hid hs
  have HN := Lib.hid hn
  have HB := Lib.hid hb
  have hz := hb.size
  obtain ⟨at_, hat, h0⟩ := Pr_all hs 0 (Nat.zero_le _)
  have ht := turned_out hs at_ hat h0
  have hfin : ∀ (e : Ending) (w' : World), e = .returned (.tuple #[.string (sM (outF L a (n + 1))), .int .i64 (atF L a (n + 1) : Nat)]) → Below w.heap.size w w' → ∃ (a : List Nat) (at_ : Nat), e = .returned (.tuple #[.string (sM (tB L a at_)), .int .i64 at_]) ∧ IsSuf L a ∧ at_ ≤ L.length ∧ Pr a L.length at_ = 0 ∧ Below w.heap.size w w' := fun e w' h1 h2 => by
    rw [hn] at ht
    rw [ht.1, ht.2] at h1
    exact ⟨a, at_, h1, hs, hat, h0, h2⟩
  have HF := Lib.hid hfin
  rw [hn] at hL
  clear ho hi hs hb CS hfin ht hat h0 hn
  by_cases hn0 : n = 0
  · subst hn0
    have e1 : outF L a (0 + 1) = [] ∧ atF L a (0 + 1) = 0 := by
      rw [outF, atF, outF, atF, HN.out]
      have : Pr a 0 0 = 0 := rfl
      rw [this]; exact ⟨rfl, rfl⟩
    go_wp2_with fail
    go_loopw [5, 6, 7] (fun ov av iv wr => ov = .slice none 0 0 ∧ av = .int .i64 0 ∧ iv = .int .i64 0 ∧ Hid (Below w.heap.size w wr)) (fun _ _ _ _ => 0)
    case atStart => exact ⟨rfl, rfl, rfl, HB⟩
    case round =>
      clear HB
      obtain ⟨rfl, rfl, rfl, HB⟩ := hrel
      have hcv := fun W => (show OwnY 0 W (.slice none 0 0) [] from OwnS.nil).convY
      go_wp2_with fail
      go_ret2
      exact HF.out _ _ (by rw [e1.1, e1.2]; rfl) HB.out
  · have hnp : (0 : Int) < n := by omega
    have hnz : (0 : Int) ≠ n := by omega
    obtain ⟨z, hzz⟩ : ∃ z, n - 1 = z := ⟨_, rfl⟩
    have hzi : (n : Int) - 1 = (z : Int) := by omega
    have x0 := ixM L (z : Int) z rfl (by have := HN.out; omega)
    have hzn : (z : Int) < n := by omega
    have HE := Lib.hid (show outF L a 1 = [] ++ [L.getD z 0] ∧ atF L a 1 = 0 from by
      rw [outF, atF, outF, atF, HN.out]
      have : Pr a n 0 = n := rfl
      rw [this, if_pos (by omega), if_pos (by omega), hzz]; exact ⟨rfl, rfl⟩)
    obtain ⟨Y, hY⟩ : ∃ Y, L.getD z 0 = Y := ⟨_, rfl⟩
    rw [hY] at x0 HE
    clear hY hzz
    go_wp2_with (at_builtin; refine app_u8 rfl _ _ rfl w1.heap.size _ (.slice none 0 0) [] Y rfl OwnS.nil w1.heap.size 1 rfl rfl (by simp) (Nat.le_refl _) ?_; intro v5 w5 ho5 hb5 hg5)
    have HO := Lib.hid (show OwnY w1.heap.size w5 v5 (outF L a 1) from by rw [HE.out.1]; exact ho5)
    have HB1 := Lib.hid hb5
    clear ho5 hb5 hg5 x0 hzi hzn
    go_wp2_with fail
    go_loopw [5, 6, 7] (fun ov av iv wr => ∃ i : Nat, i ≤ n ∧ iv = .int .i64 i ∧ av = .int .i64 (atF L a (i + 1) : Nat) ∧ Hid (OwnY w1.heap.size wr ov (outF L a (i + 1))) ∧ Hid (Below w1.heap.size w1 wr)) (fun _ _ iv _ => n - (intOf iv).toNat)
    case atStart => exact ⟨0, Nat.zero_le _, rfl, by rw [HE.out.2]; rfl, HO, HB1⟩
    case round =>
      clear HO HB1 HE
      obtain ⟨i, hi, rfl, rfl, HO, HB1⟩ := hrel
      obtain ⟨oa, oc, rfl⟩ := HO.out.slice
      by_cases hlt : i < n
      · have hii : (i : Int) < n := by omega
        have HIr := Lib.hid (HI.out.kept HB1.out)
        obtain ⟨x, rfl, hxb, hc⟩ := HIr.out.at i (by rw [nI_len, hal]; exact hlt)
        have cz := hc i (by rw [nI_len, hal]; exact hlt)
        have hg : (nI a).getD i 0 = ((a.getD i 0 : Nat) : Int) := mapN_getD a i (by omega)
        rw [hg] at cz
        have hPi : Pr a n (i + 1) = a.getD i 0 := by unfold Pr; rw [if_neg (by omega), Nat.add_sub_cancel]
        have hst1 : outF L a (i + 1 + 1) = outF L a (i + 1) ++ if 0 < a.getD i 0 then [L.getD (a.getD i 0 - 1) 0] else [] := by rw [outF, HN.out, hPi]
        have hst2 : atF L a (i + 1 + 1) = if 0 < a.getD i 0 then atF L a (i + 1) else (i + 1) := by rw [atF, HN.out, hPi]
        have hal2 := HS.out.lt _ (getD_mem a i (by omega))
        rw [HN.out] at hal2
        have hol := outF_len L a (i + 1)
        obtain ⟨p, hp⟩ : ∃ p, a.getD i 0 = p := ⟨_, rfl⟩
        rw [hp] at cz hst1 hst2 hal2
        obtain ⟨O, hO⟩ : ∃ O, outF L a (i + 1) = O := ⟨_, rfl⟩
        obtain ⟨U, hU⟩ : ∃ U, atF L a (i + 1) = U := ⟨_, rfl⟩
        rw [hO] at HO hst1 hol ⊢
        rw [hU] at hst2 ⊢
        clear hp hO hU hPi hg hc
        by_cases hp0 : p = 0
        · subst hp0
          rw [if_neg (by omega)] at hst1 hst2
          rw [List.append_nil] at hst1
          have H1 := Lib.hid hst1
          have H2 := Lib.hid hst2
          clear hst1 hst2
          go_wp2_with fail
          go_roundw
          case rel => exact ⟨i + 1, by omega, by go_num, by rw [H2.out]; go_num, by rw [H1.out]; exact HO, HB1⟩
          case measure => simp [intOf] <;> omega
        · have hpe : ((p : Int) == 0) = false := by rw [beq_eq_false_iff_ne]; omega
          rw [if_pos (by omega)] at hst1 hst2
          obtain ⟨z, hzz⟩ : ∃ z, p - 1 = z := ⟨_, rfl⟩
          rw [hzz] at hst1
          have hzi : (p : Int) - 1 = (z : Int) := by omega
          have x1 := ixM L (z : Int) z rfl (by have := HN.out; omega)
          obtain ⟨Y, hY⟩ : ∃ Y, L.getD z 0 = Y := ⟨_, rfl⟩
          rw [hY] at x1 hst1
          have hzn : (z : Int) < n := by omega
          have H1 := Lib.hid hst1
          have H2 := Lib.hid hst2
          have HLn := Lib.hid (show O.length ≤ 1099511627776 by omega)
          have HBs := Lib.hid (show w1.heap.size ≤ wr.heap.size from HB1.out.size)
          clear hst1 hst2 hY hzz hp0
          go_wp2_with (at_builtin; refine app_u8 rfl _ _ rfl w1.heap.size _ (.slice oa O.length oc) O Y rfl HO.out wr.heap.size 1 rfl rfl HLn.out HBs.out ?_; intro v5 w5 ho5 hb5 hg5)
          have HO5 := Lib.hid ho5
          have HB5 := Lib.hid (HB1.out.trans hb5)
          clear ho5 hb5 hg5 HO HB1 HIr
          go_wp2_with fail
          go_roundw
          case rel => exact ⟨i + 1, by omega, by go_num, by rw [H2.out], by rw [H1.out]; exact HO5, HB5⟩
          case measure => simp [intOf] <;> omega
      · obtain rfl : i = n := by omega
        have hii : ¬ (i : Int) < i := by omega
        have hcv := HO.out.convY
        obtain ⟨O, hO⟩ : ∃ O, outF L a (i + 1) = O := ⟨_, rfl⟩
        obtain ⟨U, hU⟩ : ∃ U, atF L a (i + 1) = U := ⟨_, rfl⟩
        rw [hO] at hcv ⊢
        rw [hU]
        have HOO := Lib.hid hO
        have HUU := Lib.hid hU
        clear hO hU
        go_wp2_with fail
        go_ret2
        exact HF.out _ _ (by rw [HOO.out, HUU.out]; rfl) (HB.out.trans (HB1.out.mono hz))
end Go.Proofs.Ytedmnlfbmmlcbaa
