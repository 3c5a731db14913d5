import Derived.Test.YtedmnlfbmmlcbaaJ15
import Derived.Test.YtedmnlfbmmlcbaaJ16
import Derived.Lib.SliceRun
/- Layer 19: blocks of numbers; turn. -/
namespace Go.Proofs.Ytedmnlfbmmlcbaa
open Go.ChangeShapes Go.WideShapes Go.ChangeAt Go.RowKit
set_option linter.unusedVariables false
set_option linter.unusedSimpArgs false
set_option maxRecDepth 100000
/-- A block of numbers. -/
def nA (l : List Nat) : Array Value := (l.map (fun (x : Nat) => Value.int .i64 (x : Int))).toArray
def IsA (T : TypeId) (w : World) (g : Nat) (l : List Nat) : Prop := w.heap[g]? = some (.cells (nA l) T (0, 0))
abbrev IsN (w : World) (g : Nat) (l : List Nat) : Prop := IsA 3 w g l
theorem IsA.cell {T : TypeId} {w : World} {g : Nat} {l : List Nat} (h : IsA T w g l) (j : Nat) (hj : j < l.length) : w.cell? ⟨g, j, none⟩ = some (.int .i64 (l.getD j 0 : Nat)) := by
  refine cell_lit h j _ ?_
  unfold nA
  simp [List.getD_eq_getElem?_getD, hj]
theorem IsA.free {T : TypeId} {w : World} {g : Nat} {l : List Nat} (h : IsA T w g l) (j : Nat) : w.frozen? ⟨g, j, none⟩ = false := free_in h j
theorem IsA.set {T : TypeId} {w : World} {g : Nat} {l : List Nat} (h : IsA T w g l) (j : Nat) (x : Nat) : IsA T (w.setCell ⟨g, j, none⟩ (.int .i64 (x : Int))) g (l.set j x) := by
  have := block_set h j (.int .i64 (x : Int))
  unfold IsA
  rw [this]
  congr 2
  unfold nA
  simp [List.map_set]
theorem IsA.away {T : TypeId} {w : World} {g k j : Nat} {l : List Nat} {u : Value} (h : IsA T w g l) (hk : g ≠ k) : IsA T (w.setCell ⟨k, j, none⟩ u) g l :=
  (Below.heap_setCell _ _ _ _ hk).trans h
theorem IsA.drewN {T : TypeId} {w : World} {g : Nat} {l : List Nat} (h : IsA T w g l) (n : Nat) : IsA T (w.drewN n) g l := h
theorem IsA.keeps {T : TypeId} {S : Nat → Prop} {w w' : World} {g : Nat} {l : List Nat} (h : IsA T w g l) (hk : Keeps S w w') (hS : ¬ S g) : IsA T w' g l := (hk.block g (block_lt h) hS).trans h
theorem IsA.kept {T : TypeId} {w w' : World} {g : Nat} {l : List Nat} (h : IsA T w g l) (hb : Below w.heap.size w w') : IsA T w' g l := (hb.block _ (block_lt h)).trans h
/-- Laid over so far. -/
def ovr (T o : List Nat) (t : Nat) : List Nat := T.take t ++ o.drop t
theorem ovr_zero (T o : List Nat) : ovr T o 0 = o := by simp [ovr]
theorem ovr_all (T o : List Nat) (h : T.length = o.length) : ovr T o o.length = T := by simp [ovr, ← h]
theorem ovr_len (T o : List Nat) (t : Nat) (h : T.length = o.length) (ht : t ≤ o.length) : (ovr T o t).length = o.length := by
  simp [ovr]; omega
theorem ovr_set (T o : List Nat) (t : Nat) (h : T.length = o.length) (ht : t < o.length) (x : Nat) (hx : T.getD t 0 = x) : (ovr T o t).set t x = ovr T o (t + 1) := by
  subst hx
  apply List.ext_getElem?
  intro j
  unfold ovr
  rw [List.getElem?_set]
  by_cases e : t = j
  · subst e
    rw [if_pos rfl, if_pos (by simp; omega), List.getElem?_append_left (by simp; omega)]
    simp [List.getElem?_take, List.getD_eq_getElem?_getD, show t < T.length by omega]
  · rw [if_neg e]
    by_cases h1 : j < t
    · rw [List.getElem?_append_left (by simp; omega), List.getElem?_append_left (by simp; omega), List.getElem?_take, List.getElem?_take, if_pos h1, if_pos (by omega)]
    · rw [List.getElem?_append_right (by simp; omega), List.getElem?_append_right (by simp; omega), List.getElem?_drop, List.getElem?_drop]
      congr 1
      simp; omega
theorem turn_first (n k : Nat) (a : List Nat) (j : Nat) (hj : j < k) : (turnL n k a).getD j 0 = n - k + j := by
  unfold turnL
  rw [List.getD_eq_getElem?_getD, List.getElem?_append_left (by simp; omega)]
  simp [hj]
def fk (k : Nat) (a : List Nat) (p : Nat) : Nat := ((a.take p).filter (fun i => decide (k ≤ i))).length
theorem fk_step (k : Nat) (a : List Nat) (p : Nat) (hp : p < a.length) : fk k a (p + 1) = fk k a p + if k ≤ a.getD p 0 then 1 else 0 := by
  unfold fk
  rw [takeN a p hp, List.filter_append, List.length_append]
  generalize a.getD p 0 = x
  by_cases h : k ≤ x <;> simp [h]
theorem turn_next (n k : Nat) (a : List Nat) (p : Nat) (hp : p < a.length) (h : k ≤ a.getD p 0) : (turnL n k a).getD (k + fk k a p) 0 = a.getD p 0 - k := by
  unfold turnL fk
  have e : a = a.take p ++ (a.getD p 0 :: a.drop (p + 1)) := by
    rw [show a.getD p 0 :: a.drop (p + 1) = a.drop p by rw [List.drop_eq_getElem_cons hp]; simp [List.getD_eq_getElem?_getD, hp], List.take_append_drop]
  rw [List.getD_eq_getElem?_getD, List.getElem?_append_right (by simp), List.length_range', show k + ((a.take p).filter (fun i => decide (k ≤ i))).length - k = ((a.take p).filter (fun i => decide (k ≤ i))).length by omega, List.getElem?_map]
  have e2 : a.filter (fun i => decide (k ≤ i)) = (a.take p).filter (fun i => decide (k ≤ i)) ++ (a.getD p 0 :: (a.drop (p + 1)).filter (fun i => decide (k ≤ i))) := by
    conv => lhs; rw [e]
    rw [List.filter_append, List.filter_cons_of_pos (by simpa using h)]
  rw [e2, List.getElem?_append_right (Nat.le_refl _)]
  simp
theorem fk_all (n k : Nat) (a : List Nat) : k + fk k a a.length = (turnL n k a).length := by
  unfold fk turnL
  rw [List.take_length, List.length_append, List.length_map, List.length_range']
theorem fk_lt (n k : Nat) (a : List Nat) (p : Nat) (hp : p < a.length) (h : k ≤ a.getD p 0) : k + fk k a p < (turnL n k a).length := by
  have h1 := fk_step k a p hp
  rw [if_pos h] at h1
  have h2 : ∀ d, fk k a (p + 1) ≤ fk k a (p + 1 + d) := by
    intro d
    induction d with
    | zero => exact Nat.le_refl _
    | succ d ih =>
      by_cases h3 : p + 1 + d < a.length
      · have := fk_step k a (p + 1 + d) h3
        rw [← Nat.add_assoc]; omega
      · unfold fk at ih ⊢
        rw [List.take_of_length_le (show a.length ≤ p + 1 + (d + 1) by omega)]
        rw [List.take_of_length_le (show a.length ≤ p + 1 + d by omega)] at ih
        exact ih
  have h3 := h2 (a.length - (p + 1))
  rw [show p + 1 + (a.length - (p + 1)) = a.length by omega] at h3
  have := fk_all n k a
  omega
set_option maxHeartbeats 1600000 in
theorem cTurn (n k ga go : Nat) (a o : List Nat) (w : World) (ha : IsN w ga a) (ho : IsN w go o) (hne : ga ≠ go) (hal : a.length = n) (hol : o.length = n) (hT : (turnL n k a).length = n) (hkn : k < n) (hn : (n : Int) ≤ 100000) (hlt : ∀ x ∈ a, x < n) :
    Calls Try.prog 47 #[.slice (some ⟨ga, 0, none⟩) n n, .slice (some ⟨go, 0, none⟩) n n, .int .i64 k] w fun e w' => e = .returned (.tuple #[]) ∧ IsN w' go (turnL n k a) ∧ Keeps (fun j => j = go) w w' := by
  obtain ⟨T, hTT⟩ : ∃ T, turnL n k a = T := ⟨_, rfl⟩
  have HF := Lib.hid (fun j (hj : j < k) => turn_first n k a j hj)
  have HX := Lib.hid (fun p (hp : p < a.length) (h : k ≤ a.getD p 0) => And.intro (turn_next n k a p hp h) (fk_lt n k a p hp h))
  have HS := Lib.hid (fk_step k a)
  have HE := Lib.hid (fk_all n k a)
  rw [hTT] at HF HX HE hT
  have HTl := Lib.hid hT
  have HOl := Lib.hid hol
  have HAl := Lib.hid hal
  have HLT := Lib.hid hlt
  have HA := Lib.hid ha
  have HO := Lib.hid ho
  have hga := block_lt ha
  have hgo := block_lt ho
  have c1 : ((n : Int) - k) = ((n - k : Nat) : Int) := by omega
  rw [hTT]
  clear hTT hT hal hol hlt ha ho
  go_enter Try.func47, Try.ntmps47
  go_wp2_with fail
  go_loopw [7, 8] (fun av iv wr => ∃ j : Nat, j ≤ k ∧ av = .int .i64 j ∧ iv = .int .i64 (((n - k : Nat) : Int) + j) ∧ Hid (IsN wr go (ovr T o j)) ∧ Hid (Keeps (fun j => j = go) w wr)) (fun av _ _ => k - (intOf av).toNat)
  case atStart => exact ⟨0, Nat.zero_le _, rfl, by go_num, Lib.hid (by rw [ovr_zero]; exact HO.out), Lib.hid (Keeps.refl _ _)⟩
  case round =>
    clear c1
    obtain ⟨j, hj, rfl, rfl, ho, hk⟩ := hrel
    by_cases hlt : j < k
    · have d1 : ((n - k : Nat) : Int) + j < n := by omega
      have hj0 : (0 : Int) ≤ (j : Int) := by omega
      have hjn : (j : Int) < n := by omega
      have hol := ovr_len T o j (by rw [HTl.out, HOl.out]) (by have := HOl.out; omega)
      rw [HOl.out] at hol
      have co := ho.out.cell j (by omega)
      have fo := ho.out.free j
      have hg := block_lt ho.out
      have e1 := ovr_set T o j (by rw [HTl.out, HOl.out]) (by rw [HOl.out]; omega) (n - k + j) (HF.out j hlt)
      have HO2 := Lib.hid (show IsN (wr.setCell ⟨go, j, none⟩ (.int .i64 (((n - k : Nat) : Int) + j))) go (ovr T o (j + 1)) by
        rw [← e1, show ((n - k : Nat) : Int) + j = ((n - k + j : Nat) : Int) by omega]; exact ho.out.set j (n - k + j))
      have HK2 := Lib.hid (hk.out.setCell (p := ⟨go, j, none⟩) (.inr rfl) (.int .i64 (((n - k : Nat) : Int) + j)))
      clear e1 hol
      go_wp2_with fail
      go_roundw
      case rel => exact ⟨j + 1, by omega, by go_num, by go_num, HO2, HK2⟩
      case measure => simp [intOf]; omega
    · obtain rfl : j = k := by omega
      have d1 : ¬ ((n - j : Nat) : Int) + j < n := by omega
      have HA2 := Lib.hid (HA.out.keeps hk.out hne)
      go_wp2_with fail
      go_loopw [7, 29] (fun av pv wr => ∃ p : Nat, p ≤ n ∧ pv = .int .i64 p ∧ av = .int .i64 ((j + fk j a p : Nat) : Int) ∧ Hid (IsN wr go (ovr T o (j + fk j a p))) ∧ Hid (IsN wr ga a) ∧ Hid (Keeps (fun j => j = go) w wr)) (fun _ pv _ => n - (intOf pv).toNat)
      case atStart => exact ⟨0, Nat.zero_le _, rfl, rfl, ho, HA2, hk⟩
      case round =>
        clear ho hk HA2 d1
        obtain ⟨p, hp, rfl, rfl, ho, hA, hk⟩ := hrel
        by_cases hlp : p < n
        · have hp1 : (p : Int) < n := by omega
          have hp0 : (0 : Int) ≤ (p : Int) := by omega
          have ca := hA.out.cell p (by rw [HAl.out]; exact hlp)
          have hga := block_lt hA.out
          have hst := HS.out p (by rw [HAl.out]; exact hlp)
          have hxl := HLT.out _ (getD_mem a p (by rw [HAl.out]; exact hlp))
          have hX := HX.out p (by rw [HAl.out]; exact hlp)
          obtain ⟨x, hx⟩ : ∃ x, a.getD p 0 = x := ⟨_, rfl⟩
          rw [hx] at ca hst hX hxl
          obtain ⟨q, hq⟩ : ∃ q, j + fk j a p = q := ⟨_, rfl⟩
          rw [hq] at ho hX ⊢
          by_cases hjx : j ≤ x
          · have hjx2 : (j : Int) ≤ x := by omega
            rw [if_pos hjx] at hst
            obtain ⟨hX1, hX2⟩ := hX hjx
            rw [HTl.out] at hX2
            have hq0 : (0 : Int) ≤ (q : Int) := by omega
            have hqn : (q : Int) < n := by omega
            have hol := ovr_len T o q (by rw [HTl.out, HOl.out]) (by have := HOl.out; omega)
            rw [HOl.out] at hol
            have co := ho.out.cell q (by omega)
            have fo := ho.out.free q
            have hg := block_lt ho.out
            have e1 := ovr_set T o q (by rw [HTl.out, HOl.out]) (by rw [HOl.out]; omega) (x - j) hX1
            have e2 : j + fk j a (p + 1) = q + 1 := by omega
            have HO2 := Lib.hid (show IsN (wr.setCell ⟨go, q, none⟩ (.int .i64 ((x : Int) - j))) go (ovr T o (j + fk j a (p + 1))) by
              rw [e2, ← e1, show (x : Int) - j = ((x - j : Nat) : Int) by omega]; exact ho.out.set q (x - j))
            have HA3 := Lib.hid (show IsN (wr.setCell ⟨go, q, none⟩ (.int .i64 ((x : Int) - j))) ga a from hA.out.away hne)
            have HK2 := Lib.hid (hk.out.setCell (p := ⟨go, q, none⟩) (.inr rfl) (.int .i64 ((x : Int) - j)))
            have HE2 := Lib.hid e2
            clear e1 hol hX1 hX2 hX hst hx hq e2
            go_wp2_with fail
            go_roundw
            case rel => exact ⟨p + 1, by omega, by go_num, by rw [HE2.out]; go_num, HO2, HA3, HK2⟩
            case measure => simp [intOf]; omega
          · have hjx2 : ¬ (j : Int) ≤ x := by omega
            rw [if_neg hjx, Nat.add_zero] at hst
            have HE2 := Lib.hid (show j + fk j a (p + 1) = q by omega)
            clear hX hst hx hq hjx
            go_wp2_with fail
            go_roundw
            case rel => exact ⟨p + 1, by omega, by go_num, by rw [HE2.out], by rw [HE2.out]; exact ho, hA, hk⟩
            case measure => simp [intOf]; omega
        · obtain rfl : p = n := by omega
          have e3 : j + fk j a p = p := by have := HE.out; rw [HTl.out, HAl.out] at this; exact this
          have HO9 := Lib.hid (show IsN wr go T by have := ho.out; rw [e3, ← HOl.out, ovr_all T o (by rw [HTl.out, HOl.out])] at this; exact this)
          clear e3
          go_wp2_with fail
          go_end0
          exact ⟨rfl, HO9.out, hk.out⟩
end Go.Proofs.Ytedmnlfbmmlcbaa

/- Layer 19: byRank. -/
namespace Go.Proofs.Ytedmnlfbmmlcbaa
open Go.ChangeShapes Go.WideShapes Go.ChangeAt Go.RowKit
set_option linter.unusedVariables false
set_option linter.unusedSimpArgs false
set_option maxRecDepth 100000
theorem clr (g : Nat) : ∀ (k o : Nat) (w : World) (l : List Nat), IsN w g l → o + k = l.length → IsN (w.setCells g o (List.replicate k (.int .i64 0))) g (l.take o ++ List.replicate k 0) ∧ Keeps (fun j => j = g) w (w.setCells g o (List.replicate k (.int .i64 0)))
  | 0, o, w, l, h, hl => by
    rw [List.replicate_zero, List.replicate_zero, List.append_nil, List.take_of_length_le (by omega)]
    exact ⟨h, Keeps.refl _ _⟩
  | k + 1, o, w, l, h, hl => by
    have h1 := h.set o 0
    have ih := clr g k (o + 1) (w.setCell ⟨g, o, none⟩ (.int .i64 0)) (l.set o 0) h1 (by rw [List.length_set]; omega)
    rw [List.replicate_succ, List.replicate_succ]
    have e : (l.set o 0).take (o + 1) ++ List.replicate k 0 = l.take o ++ 0 :: List.replicate k 0 := by
      rw [List.take_succ_eq_append_getElem (by rw [List.length_set]; omega)]
      rw [List.take_set_of_le (Nat.le_refl _)]
      simp
    rw [e] at ih
    exact ⟨ih.1, ((Keeps.refl (fun j => j = g) w).setCell (p := ⟨g, o, none⟩) (.inr rfl) (.int .i64 0)).trans ih.2⟩
theorem run_clr (X : World) (g n : Nat) (l : List Nat) (hX : IsN X g l) (hl : l.length = n) (hn : 0 < n) : (Builtin.clear_ #[29] 0 #[.slice (some ⟨g, 0, none⟩) n n]).run Try.prog X = .ok (.tuple #[]) (X.setCells g 0 (List.replicate n (.int .i64 0))) :=
  Go.Lib.run_clear_slice (P := Try.prog) X 29 3 0 (.int .i64 0) Try.underlying29 (fun w => by simp [go_sem]) rfl rfl g 0 n n hn (fun j hj => by rw [Nat.zero_add, hX.cell j (by omega)]; rfl) (fun j hj => by rw [Nat.zero_add]; exact hX.free j)
/-- How often each rank is met, one place on. -/
def C1 (rank c : List Nat) (m t : Nat) : Prop := c.length = m ∧ c.getD 0 0 = 0 ∧ ∀ q, q + 1 < m → c.getD (q + 1) 0 = (rank.take t).countP (fun x => decide (x = q))
theorem C1.start (rank : List Nat) (m : Nat) : C1 rank (List.replicate m 0) m 0 := by
  refine ⟨List.length_replicate, ?_, fun q hq => ?_⟩
  · rw [List.getD_eq_getElem?_getD, List.getElem?_replicate]; split <;> rfl
  · rw [List.getD_eq_getElem?_getD, List.getElem?_replicate, if_pos hq]; simp
theorem C1.step {rank c : List Nat} {m t : Nat} (h : C1 rank c m t) (ht : t < rank.length) (r : Nat) (hr : rank.getD t 0 = r) (hm : r + 1 < m) (x : Nat) (hx : c.getD (r + 1) 0 = x) : x ≤ t ∧ C1 rank (c.set (r + 1) (x + 1)) m (t + 1) := by
  obtain ⟨h1, h2, h3⟩ := h
  refine ⟨?_, by rw [List.length_set]; exact h1, ?_, fun q hq => ?_⟩
  · rw [← hx, h3 r hm]
    exact Nat.le_trans List.countP_le_length (by rw [List.length_take]; omega)
  · rw [setN_getD _ _ _ _ (by omega), if_neg (by omega)]; exact h2
  · rw [setN_getD _ _ _ _ (by omega), takeN rank t ht, List.countP_append, hr]
    by_cases e : r = q
    · subst e
      rw [if_pos rfl, ← hx, h3 r hm]; simp
    · rw [if_neg (by omega), h3 q hq]; simp [e]
/-- How many are less, up to some rank. -/
def C2 (rk : Nat → Nat) (pl c : List Nat) (m r : Nat) : Prop := c.length = m ∧ (∀ q, q < r → q < m → c.getD q 0 = bel rk pl q) ∧ ∀ q, r ≤ q → q < m → c.getD q 0 = sam rk pl (q - 1)
theorem count_sam (rank pl : List Nat) (hp : pl.Nodup) (hlt : ∀ x ∈ pl, x < rank.length) (hl : pl.length = rank.length) (q : Nat) : rank.countP (fun x => decide (x = q)) = sam (fun i => rank.getD i 0) pl q := by
  have hperm : pl.Perm (List.range rank.length) := (List.perm_ext_iff_of_nodup hp List.nodup_range).2 (fun x => by
    rw [List.mem_range]
    exact ⟨hlt x, (pig rank.length pl hp hlt).2 hl x⟩)
  unfold sam
  rw [hperm.countP_eq]
  have e : rank = (List.range rank.length).map (fun i => rank.getD i 0) := by
    apply List.ext_getElem (by simp)
    intro i h1 h2
    simp [List.getD_eq_getElem?_getD, h1]
  conv => lhs; rw [e, List.countP_map]
  rfl
theorem C1.done {rank c pl : List Nat} {m : Nat} (h : C1 rank c m rank.length) (hp : pl.Nodup) (hlt : ∀ x ∈ pl, x < rank.length) (hl : pl.length = rank.length) : C2 (fun i => rank.getD i 0) pl c m 1 := by
  obtain ⟨h1, h2, h3⟩ := h
  refine ⟨h1, fun q hq _ => ?_, fun q hq hm => ?_⟩
  · have : q = 0 := by omega
    subst this; rw [h2, bel_zero]
  · have := h3 (q - 1) (by omega)
    rw [show q - 1 + 1 = q by omega, List.take_length, count_sam rank pl hp hlt hl] at this
    exact this
theorem C2.step {rk : Nat → Nat} {pl c : List Nat} {m r : Nat} (h : C2 rk pl c m r) (hr : 1 ≤ r) (hm : r < m) (x y : Nat) (hx : c.getD r 0 = x) (hy : c.getD (r - 1) 0 = y) : x + y ≤ pl.length ∧ C2 rk pl (c.set r (x + y)) m (r + 1) := by
  obtain ⟨h1, h2, h3⟩ := h
  have ex := h3 r (Nat.le_refl _) hm
  have ey := h2 (r - 1) (by omega) (by omega)
  have hs := bel_succ rk (r - 1) pl
  rw [show r - 1 + 1 = r by omega] at hs
  have e : x + y = bel rk pl r := by omega
  refine ⟨by rw [e]; exact bel_le rk pl r, by rw [List.length_set]; exact h1, fun q hq hm2 => ?_, fun q hq hm2 => ?_⟩
  · rw [setN_getD _ _ _ _ (by omega)]
    by_cases f : r = q
    · subst f; rw [if_pos rfl, e]
    · rw [if_neg f]; exact h2 q (by omega) hm2
  · rw [setN_getD _ _ _ _ (by omega), if_neg (by omega)]; exact h3 q (by omega) hm2
theorem C2.done {rk : Nat → Nat} {pl c o : List Nat} {m : Nat} (h : C2 rk pl c m m) (ho : o.length = pl.length) : Laid rk pl m 0 c o :=
  ⟨h.1, ho, fun r hr => by rw [h.2.1 r hr hr]; simp [sam], fun s hs => by omega⟩
def two (a b : Nat) : Nat → Prop := fun j => j = a ∨ j = b
set_option maxHeartbeats 3200000 in
theorem cByRank (n m gp go gr gc : Nat) (pl o rank cnt : List Nat) (w : World) (hp : IsN w gp pl) (ho : IsN w go o) (hr : IsN w gr rank) (hc : IsN w gc cnt) (n1 : gp ≠ go) (n2 : gp ≠ gc) (n3 : gr ≠ go) (n4 : gr ≠ gc) (n5 : go ≠ gc)
    (hpl : pl.length = n) (hol : o.length = n) (hrl : rank.length = n) (hcl : cnt.length = m) (hn0 : 0 < n) (hn : (n : Int) ≤ 100000) (hm0 : 0 < m) (hm : (m : Int) ≤ 200000) (hrk : ∀ i, i < n → rank.getD i 0 + 1 < m) (hnd : pl.Nodup) (hlt : ∀ x ∈ pl, x < n) :
    Calls Try.prog 48 #[.slice (some ⟨gp, 0, none⟩) n n, .slice (some ⟨go, 0, none⟩) n n, .slice (some ⟨gr, 0, none⟩) n n, .slice (some ⟨gc, 0, none⟩) m m] w fun e w' => e = .returned (.tuple #[]) ∧ (∃ out cnt', IsN w' go out ∧ IsN w' gc cnt' ∧ cnt'.length = m ∧ Laid (fun i => rank.getD i 0) pl m pl.length cnt' out) ∧ Keeps (two go gc) w w' := by
  have HP := Lib.hid hp
  have HO := Lib.hid ho
  have HR := Lib.hid hr
  have hC := Lib.hid hc
  have HPL := Lib.hid hpl
  have HOL := Lib.hid hol
  have HRL := Lib.hid hrl
  have HCL := Lib.hid hcl
  have HRK := Lib.hid hrk
  have HND := Lib.hid hnd
  have HLT := Lib.hid hlt
  have hg1 := block_lt hp
  have hg2 := block_lt ho
  have hg3 := block_lt hr
  have hg4 := block_lt hc
  clear hp ho hr hc hpl hol hrl hcl hrk hnd hlt
  go_enter Try.func48, Try.ntmps48
  have hclr := run_clr w gc m cnt hC.out HCL.out hm0
  have hcc := clr gc m 0 w cnt hC.out (by rw [HCL.out]; omega)
  have HC1 := Lib.hid (show IsN (w.setCells gc 0 (List.replicate m (.int .i64 0))) gc (List.replicate m 0) by simpa using hcc.1)
  have HK0 := Lib.hid hcc.2
  have HK1 := Lib.hid (hcc.2.mono (S' := two go gc) (fun k _ h => .inr h))
  clear hcc
  generalize w.setCells gc 0 (List.replicate m (.int .i64 0)) = w1 at *
  go_wp2_with fail
  have HP1 := Lib.hid (HP.out.keeps HK1.out (fun h => h.elim n1 n2))
  have HR1 := Lib.hid (HR.out.keeps HK1.out (fun h => h.elim n3 n4))
  have HO1 := Lib.hid (HO.out.keeps HK0.out n5)
  clear hg1 hg2 hg3 hg4 hclr HK0
  go_loopw [16] (fun tv wr => ∃ (t : Nat) (c : List Nat), t ≤ n ∧ tv = .int .i64 t ∧ Hid (C1 rank c m t) ∧ Hid (IsN wr gc c) ∧ Hid (IsN wr gr rank) ∧ Hid (IsN wr gp pl) ∧ Hid (IsN wr go o) ∧ Hid (Keeps (two go gc) w wr)) (fun tv _ => n - (intOf tv).toNat)
  case atStart => exact ⟨0, List.replicate m 0, Nat.zero_le _, rfl, Lib.hid (C1.start rank m), HC1, HR1, HP1, HO1, HK1⟩
  case round =>
    clear HC1 HR1 HP1 HO1 HK1
    obtain ⟨t, c, ht, rfl, H1, HC1, HR1, HP1, HO1, HK1⟩ := hrel
    by_cases hlt : t < n
    · have hti : (t : Int) < n := by omega
      have cr := HR1.out.cell t (by rw [HRL.out]; exact hlt)
      have hgr := block_lt HR1.out
      have hgc := block_lt HC1.out
      have hrk := HRK.out
      obtain ⟨r, hr⟩ : ∃ r, rank.getD t 0 = r := ⟨_, rfl⟩
      have hrm : r + 1 < m := by rw [← hr]; exact hrk t hlt
      obtain ⟨x, hx⟩ : ∃ x, c.getD (r + 1) 0 = x := ⟨_, rfl⟩
      obtain ⟨hxt, h2⟩ := H1.out.step (by rw [HRL.out]; exact hlt) r hr hrm x hx
      have cc := HC1.out.cell (r + 1) (by rw [H1.out.1]; exact hrm)
      have fc := HC1.out.free (r + 1)
      rw [hr] at cr
      rw [hx] at cc
      have hrm2 : (r : Int) + 1 < m := by omega
      have H2 := Lib.hid h2
      have HC2 := Lib.hid (show IsN (wr.setCell ⟨gc, r + 1, none⟩ (.int .i64 ((x : Int) + 1))) gc (c.set (r + 1) (x + 1)) from HC1.out.set (r + 1) (x + 1))
      have HR2 := Lib.hid (show IsN (wr.setCell ⟨gc, r + 1, none⟩ (.int .i64 ((x : Int) + 1))) gr rank from HR1.out.away n4)
      have HP2 := Lib.hid (show IsN (wr.setCell ⟨gc, r + 1, none⟩ (.int .i64 ((x : Int) + 1))) gp pl from HP1.out.away n2)
      have HO2 := Lib.hid (show IsN (wr.setCell ⟨gc, r + 1, none⟩ (.int .i64 ((x : Int) + 1))) go o from HO1.out.away n5)
      have HK2 := Lib.hid (HK1.out.setCell (p := ⟨gc, r + 1, none⟩) (.inr (.inr rfl)) (.int .i64 ((x : Int) + 1)))
      clear h2 hx hr hrk hrm
      go_wp2_with fail
      go_roundw
      case rel => exact ⟨t + 1, _, by omega, by go_num, H2, HC2, HR2, HP2, HO2, HK2⟩
      case measure => simp [intOf]; omega
    · obtain rfl : t = n := by omega
      have H2 := Lib.hid (C1.done (rank := rank) (pl := pl) (by rw [HRL.out]; exact H1.out) HND.out (by rw [HRL.out]; exact HLT.out) (by rw [HRL.out]; exact HPL.out))
      go_wp2_with fail
      go_loopw [10] (fun tv wr => ∃ (q : Nat) (c : List Nat), 1 ≤ q ∧ q ≤ m ∧ tv = .int .i64 q ∧ Hid (C2 (fun i => rank.getD i 0) pl c m q) ∧ Hid (IsN wr gc c) ∧ Hid (IsN wr gr rank) ∧ Hid (IsN wr gp pl) ∧ Hid (IsN wr go o) ∧ Hid (Keeps (two go gc) w wr)) (fun tv _ => m - (intOf tv).toNat)
      case atStart => exact ⟨1, c, Nat.le_refl _, hm0, rfl, H2, HC1, HR1, HP1, HO1, HK1⟩
      case round =>
        clear H1 H2 HC1 HR1 HP1 HO1 HK1
        obtain ⟨q, c, hq1, hqm, rfl, H1, HC1, HR1, HP1, HO1, HK1⟩ := hrel
        by_cases hlt : q < m
        · have hqi : (q : Int) < m := by omega
          have hgc := block_lt HC1.out
          obtain ⟨x, hx⟩ : ∃ x, c.getD q 0 = x := ⟨_, rfl⟩
          obtain ⟨y, hy⟩ : ∃ y, c.getD (q - 1) 0 = y := ⟨_, rfl⟩
          obtain ⟨hxy, h2⟩ := H1.out.step hq1 hlt x y hx hy
          rw [HPL.out] at hxy
          have cx := HC1.out.cell q (by rw [H1.out.1]; exact hlt)
          have cy := HC1.out.cell (q - 1) (by rw [H1.out.1]; omega)
          have fc := HC1.out.free q
          rw [hx] at cx
          rw [hy] at cy
          obtain ⟨z, hz⟩ : ∃ z, q - 1 = z := ⟨_, rfl⟩
          have hz2 : (q : Int) - 1 = (z : Int) := by omega
          have hzm : (z : Int) < m := by omega
          rw [hz] at cy
          have H2 := Lib.hid h2
          have HC2 := Lib.hid (show IsN (wr.setCell ⟨gc, q, none⟩ (.int .i64 ((x : Int) + y))) gc (c.set q (x + y)) from HC1.out.set q (x + y))
          have HR2 := Lib.hid (show IsN (wr.setCell ⟨gc, q, none⟩ (.int .i64 ((x : Int) + y))) gr rank from HR1.out.away n4)
          have HP2 := Lib.hid (show IsN (wr.setCell ⟨gc, q, none⟩ (.int .i64 ((x : Int) + y))) gp pl from HP1.out.away n2)
          have HO2 := Lib.hid (show IsN (wr.setCell ⟨gc, q, none⟩ (.int .i64 ((x : Int) + y))) go o from HO1.out.away n5)
          have HK2 := Lib.hid (HK1.out.setCell (p := ⟨gc, q, none⟩) (.inr (.inr rfl)) (.int .i64 ((x : Int) + y)))
          clear h2 hx hy hz
          go_wp2_with fail
          go_region
          go_wp2_with fail
          go_roundw
          case rel => exact ⟨q + 1, _, by omega, by omega, by go_num, H2, HC2, HR2, HP2, HO2, Lib.hid HK2.out.drew⟩
          case measure => simp [intOf]; omega
        · obtain rfl : q = m := by omega
          have H2 := Lib.hid (H1.out.done (o := o) (by rw [HOL.out, HPL.out]))
          go_wp2_with fail
          go_loopw [47] (fun tv wr => ∃ (s : Nat) (c u : List Nat), s ≤ t ∧ tv = .int .i64 s ∧ Hid (Laid (fun i => rank.getD i 0) pl q s c u) ∧ Hid (IsN wr gc c) ∧ Hid (IsN wr gr rank) ∧ Hid (IsN wr gp pl) ∧ Hid (IsN wr go u) ∧ Hid (Keeps (two go gc) w wr)) (fun tv _ => t - (intOf tv).toNat)
          case atStart => exact ⟨0, c, o, Nat.zero_le _, rfl, H2, HC1, HR1, HP1, HO1, HK1⟩
          case round =>
            clear H1 H2 HC1 HR1 HP1 HO1 HK1
            obtain ⟨s, c, u, hs, rfl, H1, HC1, HR1, HP1, HO1, HK1⟩ := hrel
            by_cases hlt : s < t
            · have hsi : (s : Int) < t := by omega
              have cp := HP1.out.cell s (by rw [HPL.out]; exact hlt)
              have hxl := HLT.out _ (getD_mem pl s (by rw [HPL.out]; exact hlt))
              have hrk := HRK.out
              obtain ⟨i, hi⟩ : ∃ i, pl.getD s 0 = i := ⟨_, rfl⟩
              rw [hi] at cp hxl
              have cr := HR1.out.cell i (by rw [HRL.out]; exact hxl)
              obtain ⟨r, hr⟩ : ∃ r, rank.getD i 0 = r := ⟨_, rfl⟩
              have hrm : r + 1 < q := by rw [← hr]; exact hrk i hxl
              obtain ⟨C, hC⟩ : ∃ C, c.getD r 0 = C := ⟨_, rfl⟩
              obtain ⟨hCl, h2⟩ := H1.out.step (by rw [HPL.out]; exact hlt) r (by rw [hi]; exact hr) (by omega) C hC
              have hul := H1.out.ol
              rw [HPL.out] at hul
              rw [hul] at hCl
              rw [hi] at h2
              have cc := HC1.out.cell r (by rw [H1.out.cl]; omega)
              have cu := HO1.out.cell C (by omega)
              have fc := HC1.out.free r
              have fu := HO1.out.free C
              rw [hr] at cr
              rw [hC] at cc
              have l1 := block_lt HC1.out
              have l2 := block_lt HR1.out
              have l3 := block_lt HP1.out
              have l4 := block_lt HO1.out
              have hri : (r : Int) < q := by omega
              have hCi : (C : Int) < t := by omega
              have hii : (i : Int) < t := by omega
              have H2 := Lib.hid h2
              have n5' := n5.symm
              clear h2 hC hr hrk hrm hi
              go_wp2_with fail
              go_roundw
              case rel => exact ⟨s + 1, _, _, by omega, by go_num, H2, (HC1.out.away n5').set r (C + 1), (HR1.out.away n3).away n4, (HP1.out.away n1).away n2, (HO1.out.set C i).away n5, (HK1.out.setCell (p := ⟨go, C, none⟩) (.inr (.inl rfl)) (.int .i64 (i : Int))).setCell (p := ⟨gc, r, none⟩) (.inr (.inr rfl)) _⟩
              case measure => simp [intOf]; omega
            · obtain rfl : s = t := by omega
              have H9 := Lib.hid (show Laid (fun i => rank.getD i 0) pl q pl.length c u by rw [HPL.out]; exact H1.out)
              go_wp2_with fail
              go_end0
              exact ⟨rfl, ⟨u, c, HO1.out, HC1.out, H9.out.cl, H9.out⟩, HK1.out⟩
end Go.Proofs.Ytedmnlfbmmlcbaa

/- Layer 19: by the first byte (mathematics). -/
namespace Go.Proofs.Ytedmnlfbmmlcbaa
open Go.ChangeShapes Go.WideShapes Go.ChangeAt Go.RowKit
set_option linter.unusedVariables false
set_option linter.unusedSimpArgs false
set_option maxRecDepth 100000
/-- How many numbers below b occur. -/
def usd (f : Nat → Nat) : Nat → Nat
  | 0 => 0
  | b + 1 => usd f b + if 0 < f b then 1 else 0
theorem usd_mono (f : Nat → Nat) (b : Nat) : ∀ d, usd f b ≤ usd f (b + d)
  | 0 => Nat.le_refl _
  | d + 1 => by have := usd_mono f b d; rw [← Nat.add_assoc, usd]; omega
theorem usd_le (f : Nat → Nat) : ∀ b, usd f b ≤ b
  | 0 => Nat.le_refl _
  | b + 1 => by have := usd_le f b; rw [usd]; split <;> omega
theorem usd_none (f : Nat → Nat) (b : Nat) : ∀ d, (∀ x, b ≤ x → x < b + d → f x = 0) → usd f (b + d) = usd f b
  | 0, _ => rfl
  | d + 1, h => by
    have ih := usd_none f b d (fun x h1 h2 => h x h1 (by omega))
    rw [← Nat.add_assoc, usd, ih, h (b + d) (by omega) (by omega)]; simp
def byteAtU (L : List UInt8) (i : Nat) : Nat := (L.getD i 0).toNat
theorem byteAt_lt (L : List UInt8) (i : Nat) : byteAtU L i < 256 := (L.getD i 0).toNat_lt
theorem sam_pos (rk : Nat → Nat) (l : List Nat) (r : Nat) : 0 < sam rk l r ↔ ∃ x ∈ l, rk x = r := by
  unfold sam
  rw [List.countP_pos_iff]
  simp
abbrev occ (L : List UInt8) : Nat → Nat := sam (byteAtU L) (List.range L.length)
theorem occ_in (L : List UInt8) (i : Nat) (hi : i < L.length) : 0 < occ L (byteAtU L i) := (sam_pos _ _ _).2 ⟨i, List.mem_range.2 hi, rfl⟩
theorem occ_pos (L : List UInt8) (b : Nat) (h : 0 < occ L b) : ∃ i, i < L.length ∧ byteAtU L i = b := by
  obtain ⟨i, hi, e⟩ := (sam_pos _ _ _).1 h
  exact ⟨i, List.mem_range.1 hi, e⟩
theorem key_byte (L : List UInt8) (i : Nat) (hi : i < L.length) : key L i 1 = byteAtU L i + 1 := by rw [key_one, dg_in L i hi]; rfl
theorem first_rkd {L : List UInt8} {m : Nat} {cnt a rank : List Nat} (h : Laid (byteAtU L) (List.range L.length) m L.length cnt a) (hr : rank.length = L.length) (hx : ∀ i, i < L.length → rank.getD i 0 = usd (occ L) (byteAtU L i)) : Rkd L 1 a rank := by
  have h' : Laid (byteAtU L) (List.range L.length) m (List.range L.length).length cnt a := by rw [List.length_range]; exact h
  have hs := h'.sorted (Q := fun p q => p < q) List.pairwise_lt_range
  have hlt : ∀ x ∈ a, x < L.length := fun x hx => List.mem_range.1 (h'.mem x hx)
  have hal : a.length = L.length := by have := h.ol; rwa [List.length_range] at this
  have hnd : a.Nodup := hs.imp (fun h e => by
    rcases h with h | h
    · rw [e] at h; exact Nat.lt_irrefl _ h
    · rw [e] at h; exact Nat.lt_irrefl _ h.2)
  have hle : ∀ i j, i < j → j < a.length → byteAtU L (a.getD i 0) ≤ byteAtU L (a.getD j 0) := fun i j hij hj => by
    rcases pw_getD hs i j hij hj with h | h
    · exact Nat.le_of_lt h
    · omega
  have hall := (pig L.length a hnd hlt).2 hal
  have up : ∀ b c, b < c → 0 < occ L b → usd (occ L) b < usd (occ L) c := fun b c hbc hb => by
    have h1 := usd_mono (occ L) (b + 1) (c - (b + 1))
    rw [show b + 1 + (c - (b + 1)) = c by omega, usd, if_pos hb] at h1
    omega
  have dn : ∀ b c, b ≤ c → usd (occ L) b ≤ usd (occ L) c := fun b c hbc => by
    have h1 := usd_mono (occ L) b (c - b)
    rwa [show b + (c - b) = c by omega] at h1
  refine ⟨hal, hlt, hnd, pw_of_getD (fun i j hij hj => ?_), hr, fun i j hi hj => ?_, fun h0 => ?_, fun j hj => ?_⟩
  · have li := hlt _ (getD_mem a i (by omega))
    have lj := hlt _ (getD_mem a j hj)
    rw [key_byte L _ li, key_byte L _ lj]
    have := hle i j hij hj
    omega
  · rw [hx i hi, hx j hj, key_byte L i hi, key_byte L j hj]
    constructor
    · intro h1
      apply Classical.byContradiction
      intro h2
      have := dn (byteAtU L j) (byteAtU L i) (by omega)
      omega
    · intro h1
      exact up _ _ (by omega) (occ_in L i hi)
  · have l0 := hlt _ (getD_mem a 0 (by omega))
    rw [hx _ l0]
    have := usd_none (occ L) 0 (byteAtU L (a.getD 0 0)) (fun x _ hx2 => by
      apply Classical.byContradiction
      intro hne
      obtain ⟨i, hi, e⟩ := occ_pos L x (by omega)
      obtain ⟨y, hy, ey⟩ := List.getElem_of_mem (hall i hi)
      have gy : a.getD y 0 = i := by rw [List.getD_eq_getElem?_getD, List.getElem?_eq_getElem hy, Option.getD_some, ey]
      by_cases hy0 : y = 0
      · subst hy0; rw [gy] at hx2; omega
      · have := hle 0 y (by omega) hy
        rw [gy] at this; omega)
    rw [Nat.zero_add] at this
    rw [this]; rfl
  · have l0 := hlt _ (getD_mem a j (by omega))
    have l1 := hlt _ (getD_mem a (j + 1) (by omega))
    rw [hx _ l0, hx _ l1]
    have hb := hle j (j + 1) (Nat.lt_succ_self _) (by omega)
    obtain ⟨b, hbb⟩ : ∃ b, byteAtU L (a.getD j 0) = b := ⟨_, rfl⟩
    obtain ⟨c, hcc⟩ : ∃ c, byteAtU L (a.getD (j + 1) 0) = c := ⟨_, rfl⟩
    rw [hbb, hcc] at hb ⊢
    by_cases e : b = c
    · subst e; omega
    · have := usd_none (occ L) (b + 1) (c - (b + 1)) (fun x hx1 hx2 => by
        apply Classical.byContradiction
        intro hne
        obtain ⟨i, hi, ei⟩ := occ_pos L x (by omega)
        obtain ⟨y, hy, ey⟩ := List.getElem_of_mem (hall i hi)
        have gy : a.getD y 0 = i := by rw [List.getD_eq_getElem?_getD, List.getElem?_eq_getElem hy, Option.getD_some, ey]
        rcases Nat.lt_trichotomy y j with f | f | f
        · have := hle y j f (by omega); rw [gy] at this; omega
        · subst f; rw [gy] at hbb; omega
        · by_cases f2 : y = j + 1
          · subst f2; rw [gy] at hcc; omega
          · have := hle (j + 1) y (by omega) hy; rw [gy] at this; omega)
      rw [show b + 1 + (c - (b + 1)) = c by omega] at this
      rw [this, usd]
      split <;> omega
/-- How often each byte is met, one place on; and how many are less. -/
def bys (L : List UInt8) : List Nat := (List.range L.length).map (byteAtU L)
theorem bys_len (L : List UInt8) : (bys L).length = L.length := by simp [bys]
theorem bys_getD (L : List UInt8) (i : Nat) (hi : i < L.length) : (bys L).getD i 0 = byteAtU L i := by simp [bys, List.getD_eq_getElem?_getD, hi]
theorem C1.bytes {L : List UInt8} {c : List Nat} (h : C1 (bys L) c 257 L.length) : C2 (byteAtU L) (List.range L.length) c 257 1 := by
  have := C1.done (rank := bys L) (pl := List.range L.length) (by rw [bys_len]; exact h) List.nodup_range (fun x hx => by rw [bys_len]; exact List.mem_range.1 hx) (by rw [bys_len, List.length_range])
  obtain ⟨h1, h2, h3⟩ := this
  have e : ∀ x ∈ List.range L.length, (bys L).getD x 0 = byteAtU L x := fun x hx => bys_getD L x (List.mem_range.1 hx)
  refine ⟨h1, fun q hq hm => ?_, fun q hq hm => ?_⟩
  · rw [h2 q hq hm]
    unfold bel
    exact List.countP_congr (fun x hx => by simp only [e x hx])
  · rw [h3 q hq hm]
    unfold sam
    exact List.countP_congr (fun x hx => by simp only [e x hx])
end Go.Proofs.Ytedmnlfbmmlcbaa
