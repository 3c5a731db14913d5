/- Layer 19: blocks of numbers; turn. -/
import Derived.Test.YtpkidedepcnoaaaK3
import Derived.Test.YtpkidedepcnoaaaU2
namespace Go.Proofs.Ytpkidedepcnoaaa
open Go.ChangeShapes Go.WideShapes Go.ChangeAt Go.RowKit
set_option linter.unusedVariables false
set_option linter.unusedSimpArgs false
set_option maxRecDepth 100000
/-- A block of numbers. -/
def nA (l : List Nat) : Array Value := (l.map (fun (x : Nat) => Value.int .i64 (x : Int))).toArray
def IsA (T : TypeId) (w : World) (g : Nat) (l : List Nat) : Prop := w.heap[g]? = some (.cells (nA l) T (0, 0))
abbrev IsN (w : World) (g : Nat) (l : List Nat) : Prop := IsA 3 w g l
theorem IsA.cell {T : TypeId} {w : World} {g : Nat} {l : List Nat} (h : IsA T w g l) (j : Nat) (hj : j < l.length) : w.cell? ⟨g, j, none⟩ = some (.int .i64 (l.getD j 0 : Nat)) := by
  refine cell_lit h j _ ?_
  unfold nA
  simp [List.getD_eq_getElem?_getD, hj]
theorem IsA.free {T : TypeId} {w : World} {g : Nat} {l : List Nat} (h : IsA T w g l) (j : Nat) : w.frozen? ⟨g, j, none⟩ = false := free_in h j
theorem IsA.set {T : TypeId} {w : World} {g : Nat} {l : List Nat} (h : IsA T w g l) (j : Nat) (x : Nat) : IsA T (w.setCell ⟨g, j, none⟩ (.int .i64 (x : Int))) g (l.set j x) := by
  have := block_set h j (.int .i64 (x : Int))
  unfold IsA
  rw [this]
  congr 2
  unfold nA
  simp [List.map_set]
theorem IsA.away {T : TypeId} {w : World} {g k j : Nat} {l : List Nat} {u : Value} (h : IsA T w g l) (hk : g ≠ k) : IsA T (w.setCell ⟨k, j, none⟩ u) g l :=
  (Below.heap_setCell _ _ _ _ hk).trans h
theorem IsA.drewN {T : TypeId} {w : World} {g : Nat} {l : List Nat} (h : IsA T w g l) (n : Nat) : IsA T (w.drewN n) g l := h
theorem IsA.keeps {T : TypeId} {S : Nat → Prop} {w w' : World} {g : Nat} {l : List Nat} (h : IsA T w g l) (hk : Keeps S w w') (hS : ¬ S g) : IsA T w' g l := (hk.block g (block_lt h) hS).trans h
theorem IsA.kept {T : TypeId} {w w' : World} {g : Nat} {l : List Nat} (h : IsA T w g l) (hb : Below w.heap.size w w') : IsA T w' g l := (hb.block _ (block_lt h)).trans h
/-- Laid over so far. -/
def ovr (T o : List Nat) (t : Nat) : List Nat := T.take t ++ o.drop t
theorem ovr_zero (T o : List Nat) : ovr T o 0 = o := by simp [ovr]
theorem ovr_all (T o : List Nat) (h : T.length = o.length) : ovr T o o.length = T := by simp [ovr, ← h]
theorem ovr_len (T o : List Nat) (t : Nat) (h : T.length = o.length) (ht : t ≤ o.length) : (ovr T o t).length = o.length := by
  simp [ovr]; omega
theorem ovr_set (T o : List Nat) (t : Nat) (h : T.length = o.length) (ht : t < o.length) (x : Nat) (hx : T.getD t 0 = x) : (ovr T o t).set t x = ovr T o (t + 1) := by
  subst hx
  apply List.ext_getElem?
  intro j
  unfold ovr
  rw [List.getElem?_set]
  by_cases e : t = j
  · subst e
    rw [if_pos rfl, if_pos (by simp; omega), List.getElem?_append_left (by simp; omega)]
    simp [List.getElem?_take, List.getD_eq_getElem?_getD, show t < T.length by omega]
  · rw [if_neg e]
    by_cases h1 : j < t
    · rw [List.getElem?_append_left (by simp; omega), List.getElem?_append_left (by simp; omega), List.getElem?_take, List.getElem?_take, if_pos h1, if_pos (by omega)]
    · rw [List.getElem?_append_right (by simp; omega), List.getElem?_append_right (by simp; omega), List.getElem?_drop, List.getElem?_drop]
      congr 1
      simp; omega
theorem turn_first (n k : Nat) (a : List Nat) (j : Nat) (hj : j < k) : (turnL n k a).getD j 0 = n - k + j := by
  unfold turnL
  rw [List.getD_eq_getElem?_getD, List.getElem?_append_left (by simp; omega)]
  simp [hj]
def fk (k : Nat) (a : List Nat) (p : Nat) : Nat := ((a.take p).filter (fun i => decide (k ≤ i))).length
theorem fk_step (k : Nat) (a : List Nat) (p : Nat) (hp : p < a.length) : fk k a (p + 1) = fk k a p + if k ≤ a.getD p 0 then 1 else 0 := by
  unfold fk
  rw [takeN a p hp, List.filter_append, List.length_append]
  generalize a.getD p 0 = x
  by_cases h : k ≤ x <;> simp [h]
theorem turn_next (n k : Nat) (a : List Nat) (p : Nat) (hp : p < a.length) (h : k ≤ a.getD p 0) : (turnL n k a).getD (k + fk k a p) 0 = a.getD p 0 - k := by
  unfold turnL fk
  have e : a = a.take p ++ (a.getD p 0 :: a.drop (p + 1)) := by
    rw [show a.getD p 0 :: a.drop (p + 1) = a.drop p by rw [List.drop_eq_getElem_cons hp]; simp [List.getD_eq_getElem?_getD, hp], List.take_append_drop]
  rw [List.getD_eq_getElem?_getD, List.getElem?_append_right (by simp), List.length_range', show k + ((a.take p).filter (fun i => decide (k ≤ i))).length - k = ((a.take p).filter (fun i => decide (k ≤ i))).length by omega, List.getElem?_map]
  have e2 : a.filter (fun i => decide (k ≤ i)) = (a.take p).filter (fun i => decide (k ≤ i)) ++ (a.getD p 0 :: (a.drop (p + 1)).filter (fun i => decide (k ≤ i))) := by
    conv => lhs; rw [e]
    rw [List.filter_append, List.filter_cons_of_pos (by simpa using h)]
  rw [e2, List.getElem?_append_right (Nat.le_refl _)]
  simp
theorem fk_all (n k : Nat) (a : List Nat) : k + fk k a a.length = (turnL n k a).length := by
  unfold fk turnL
  rw [List.take_length, List.length_append, List.length_map, List.length_range']
theorem fk_lt (n k : Nat) (a : List Nat) (p : Nat) (hp : p < a.length) (h : k ≤ a.getD p 0) : k + fk k a p < (turnL n k a).length := by
  have h1 := fk_step k a p hp
  rw [if_pos h] at h1
  have h2 : ∀ d, fk k a (p + 1) ≤ fk k a (p + 1 + d) := by
    intro d
    induction d with
    | zero => exact Nat.le_refl _
    | succ d ih =>
      by_cases h3 : p + 1 + d < a.length
      · have := fk_step k a (p + 1 + d) h3
        rw [← Nat.add_assoc]; omega
      · unfold fk at ih ⊢
        rw [List.take_of_length_le (show a.length ≤ p + 1 + (d + 1) by omega)]
        rw [List.take_of_length_le (show a.length ≤ p + 1 + d by omega)] at ih
        exact ih
  have h3 := h2 (a.length - (p + 1))
  rw [show p + 1 + (a.length - (p + 1)) = a.length by omega] at h3
  have := fk_all n k a
  omega
set_option maxHeartbeats 1600000 in
theorem cTurn (n k ga go : Nat) (a o : List Nat) (w : World) (ha : IsN w ga a) (ho : IsN w go o) (hne : ga ≠ go) (hal : a.length = n) (hol : o.length = n) (hT : (turnL n k a).length = n) (hkn : k < n) (hn : (n : Int) ≤ 100000) (hlt : ∀ x ∈ a, x < n) :
    Calls Try.prog 35 #[.slice (some ⟨ga, 0, none⟩) n n, .slice (some ⟨go, 0, none⟩) n n, .int .i64 k] w fun e w' => e = .returned (.tuple #[]) ∧ IsN w' go (turnL n k a) ∧ Keeps (fun j => j = go) w w' := by
  obtain ⟨T, hTT⟩ : ∃ T, turnL n k a = T := ⟨_, rfl⟩
  have HF := Lib.hid (fun j (hj : j < k) => turn_first n k a j hj)
  have HX := Lib.hid (fun p (hp : p < a.length) (h : k ≤ a.getD p 0) => And.intro (turn_next n k a p hp h) (fk_lt n k a p hp h))
  have HS := Lib.hid (fk_step k a)
  have HE := Lib.hid (fk_all n k a)
  rw [hTT] at HF HX HE hT
  have HTl := Lib.hid hT
  have HOl := Lib.hid hol
  have HAl := Lib.hid hal
  have HLT := Lib.hid hlt
  have HA := Lib.hid ha
  have HO := Lib.hid ho
  have hga := block_lt ha
  have hgo := block_lt ho
  have c1 : ((n : Int) - k) = ((n - k : Nat) : Int) := by omega
  rw [hTT]
  clear hTT hT hal hol hlt ha ho
  go_enter Try.func35, Try.ntmps35
  go_wp2_with fail
  go_loopw [7, 8] (fun av iv wr => ∃ j : Nat, j ≤ k ∧ av = .int .i64 j ∧ iv = .int .i64 (((n - k : Nat) : Int) + j) ∧ Hid (IsN wr go (ovr T o j)) ∧ Hid (Keeps (fun j => j = go) w wr)) (fun av _ _ => k - (intOf av).toNat)
  case atStart => exact ⟨0, Nat.zero_le _, rfl, by go_num, Lib.hid (by rw [ovr_zero]; exact HO.out), Lib.hid (Keeps.refl _ _)⟩
  case round =>
    clear c1
    obtain ⟨j, hj, rfl, rfl, ho, hk⟩ := hrel
    by_cases hlt : j < k
    · have d1 : ((n - k : Nat) : Int) + j < n := by omega
      have hj0 : (0 : Int) ≤ (j : Int) := by omega
      have hjn : (j : Int) < n := by omega
      have hol := ovr_len T o j (by rw [HTl.out, HOl.out]) (by have := HOl.out; omega)
      rw [HOl.out] at hol
      have co := ho.out.cell j (by omega)
      have fo := ho.out.free j
      have hg := block_lt ho.out
      have e1 := ovr_set T o j (by rw [HTl.out, HOl.out]) (by rw [HOl.out]; omega) (n - k + j) (HF.out j hlt)
      have HO2 := Lib.hid (show IsN (wr.setCell ⟨go, j, none⟩ (.int .i64 (((n - k : Nat) : Int) + j))) go (ovr T o (j + 1)) by
        rw [← e1, show ((n - k : Nat) : Int) + j = ((n - k + j : Nat) : Int) by omega]; exact ho.out.set j (n - k + j))
      have HK2 := Lib.hid (hk.out.setCell (p := ⟨go, j, none⟩) (.inr rfl) (.int .i64 (((n - k : Nat) : Int) + j)))
      clear e1 hol
      go_wp2_with fail
      go_roundw
      case rel => exact ⟨j + 1, by omega, by go_num, by go_num, HO2, HK2⟩
      case measure => simp [intOf]; omega
    · obtain rfl : j = k := by omega
      have d1 : ¬ ((n - j : Nat) : Int) + j < n := by omega
      have HA2 := Lib.hid (HA.out.keeps hk.out hne)
      go_wp2_with fail
      go_loopw [7, 29] (fun av pv wr => ∃ p : Nat, p ≤ n ∧ pv = .int .i64 p ∧ av = .int .i64 ((j + fk j a p : Nat) : Int) ∧ Hid (IsN wr go (ovr T o (j + fk j a p))) ∧ Hid (IsN wr ga a) ∧ Hid (Keeps (fun j => j = go) w wr)) (fun _ pv _ => n - (intOf pv).toNat)
      case atStart => exact ⟨0, Nat.zero_le _, rfl, rfl, ho, HA2, hk⟩
      case round =>
        clear ho hk HA2 d1
        obtain ⟨p, hp, rfl, rfl, ho, hA, hk⟩ := hrel
        by_cases hlp : p < n
        · have hp1 : (p : Int) < n := by omega
          have hp0 : (0 : Int) ≤ (p : Int) := by omega
          have ca := hA.out.cell p (by rw [HAl.out]; exact hlp)
          have hga := block_lt hA.out
          have hst := HS.out p (by rw [HAl.out]; exact hlp)
          have hxl := HLT.out _ (getD_mem a p (by rw [HAl.out]; exact hlp))
          have hX := HX.out p (by rw [HAl.out]; exact hlp)
          obtain ⟨x, hx⟩ : ∃ x, a.getD p 0 = x := ⟨_, rfl⟩
          rw [hx] at ca hst hX hxl
          obtain ⟨q, hq⟩ : ∃ q, j + fk j a p = q := ⟨_, rfl⟩
          rw [hq] at ho hX ⊢
          by_cases hjx : j ≤ x
          · have hjx2 : (j : Int) ≤ x := by omega
            rw [if_pos hjx] at hst
            obtain ⟨hX1, hX2⟩ := hX hjx
            rw [HTl.out] at hX2
            have hq0 : (0 : Int) ≤ (q : Int) := by omega
            have hqn : (q : Int) < n := by omega
            have hol := ovr_len T o q (by rw [HTl.out, HOl.out]) (by have := HOl.out; omega)
            rw [HOl.out] at hol
            have co := ho.out.cell q (by omega)
            have fo := ho.out.free q
            have hg := block_lt ho.out
            have e1 := ovr_set T o q (by rw [HTl.out, HOl.out]) (by rw [HOl.out]; omega) (x - j) hX1
            have e2 : j + fk j a (p + 1) = q + 1 := by omega
            have HO2 := Lib.hid (show IsN (wr.setCell ⟨go, q, none⟩ (.int .i64 ((x : Int) - j))) go (ovr T o (j + fk j a (p + 1))) by
              rw [e2, ← e1, show (x : Int) - j = ((x - j : Nat) : Int) by omega]; exact ho.out.set q (x - j))
            have HA3 := Lib.hid (show IsN (wr.setCell ⟨go, q, none⟩ (.int .i64 ((x : Int) - j))) ga a from hA.out.away hne)
            have HK2 := Lib.hid (hk.out.setCell (p := ⟨go, q, none⟩) (.inr rfl) (.int .i64 ((x : Int) - j)))
            have HE2 := Lib.hid e2
            clear e1 hol hX1 hX2 hX hst hx hq e2
            go_wp2_with fail
            go_roundw
            case rel => exact ⟨p + 1, by omega, by go_num, by rw [HE2.out]; go_num, HO2, HA3, HK2⟩
            case measure => simp [intOf]; omega
          · have hjx2 : ¬ (j : Int) ≤ x := by omega
            rw [if_neg hjx, Nat.add_zero] at hst
            have HE2 := Lib.hid (show j + fk j a (p + 1) = q by omega)
            clear hX hst hx hq hjx
            go_wp2_with fail
            go_roundw
            case rel => exact ⟨p + 1, by omega, by go_num, by rw [HE2.out], by rw [HE2.out]; exact ho, hA, hk⟩
            case measure => simp [intOf]; omega
        · obtain rfl : p = n := by omega
          have e3 : j + fk j a p = p := by have := HE.out; rw [HTl.out, HAl.out] at this; exact this
          have HO9 := Lib.hid (show IsN wr go T by have := ho.out; rw [e3, ← HOl.out, ovr_all T o (by rw [HTl.out, HOl.out])] at this; exact this)
          clear e3
          go_wp2_with fail
          go_end0
          exact ⟨rfl, HO9.out, hk.out⟩
end Go.Proofs.Ytpkidedepcnoaaa
