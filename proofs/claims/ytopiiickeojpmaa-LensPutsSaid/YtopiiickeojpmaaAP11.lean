import Derived.Test.YtopiiickeojpmaaJ21
/- Layer 13: what is written is read back: mathematics. -/
namespace Go.Proofs.Ytopiiickeojpmaa
set_option linter.unusedVariables false
set_option maxRecDepth 100000
open Bits hiding packF pack_length
open RunsMath KraftMath CanonMath TurnMath Pm
theorem peek_put (x n : Nat) (l : List Bool) (h : x < 2 ^ n) : peek (bitsOf x n ++ l) n = x := by
  unfold peek
  rw [List.take_append_of_le_length (by rw [bitsOf_length]; omega), List.take_of_length_le (by rw [bitsOf_length]; omega), wordOf_bitsOf, Nat.mod_eq_of_lt h]
theorem drop_len {α : Type} (a b : List α) (n : Nat) (h : a.length = n) : (a ++ b).drop n = b := by rw [← h, List.drop_left]
theorem len_7 {r : List Run} (h : RunsOk r) (i : Nat) : len (ofR r) i < 2 ^ 3 := by
  have := h.of_bd i
  show ((ofR r).getD i 0).toNat < 8
  omega
theorem head_peek {r : List Run} (h : RunsOk r) (N : Nat) (rest : List Bool) : ∀ k j, j < k → peek (((List.range k).flatMap (lenB (ofR r)) ++ rest).drop (3 * j)) 3 = len (ofR r) (placesN.getD j 0)
  | 0, j, hj => by omega
  | k + 1, j, hj => by
    rw [List.range_succ, List.flatMap_append, List.append_assoc]
    by_cases hk : j < k
    · exact head_peek h N _ k j hk
    · obtain rfl : j = k := by omega
      rw [drop_len _ _ (3 * j) (by
        have := headTo_len (ofR r) 4 j
        unfold headTo at this
        rw [List.length_append, bitsOf_length] at this
        omega)]
      show peek (([j].flatMap (lenB (ofR r))) ++ rest) 3 = _
      rw [List.flatMap_singleton]
      unfold lenB
      exact peek_put _ 3 _ (len_7 h _)
theorem places_all : ∀ x, x < 19 → ∃ i, i < 19 ∧ placesN.getD i 0 = x := by decide
theorem places_inj : ∀ i, i < 19 → ∀ j, j < 19 → placesN.getD i 0 = placesN.getD j 0 → i = j := by decide
theorem headO_at (L : List Bool) : ∀ k, k ≤ 19 → ∀ i, i < 19 → (headO L k).getD (placesN.getD i 0) 0 = if i < k then ((peek (L.drop (3 * i)) 3 : Nat) : Int) else 0
  | 0, _, i, hi => by
    rw [if_neg (by omega), headO, List.getD_eq_getElem?_getD, List.getElem?_replicate]
    split <;> rfl
  | k + 1, hk, i, hi => by
    rw [headO, getD_set _ _ _ _ (by rw [headO_len]; exact places_lt k (by omega))]
    by_cases h : k = i
    · subst h
      rw [if_pos rfl, if_pos (by omega)]
    · rw [if_neg (fun e => h (places_inj k (by omega) i hi e)), headO_at L k (by omega) i hi]
      by_cases h2 : i < k
      · rw [if_pos h2, if_pos (by omega)]
      · rw [if_neg h2, if_neg (by omega)]
theorem headN_zero (o : List Int) : ∀ k i, headN o k ≤ i → i < k → o.getD (placesN.getD i 0) 0 = 0
  | 0, i, _, h => by omega
  | k + 1, i, h1, h2 => by
    unfold headN at h1
    split at h1
    · rename_i hc
      by_cases h : i < k
      · exact headN_zero o k i h1 h
      · obtain rfl : i = k := by omega
        exact hc.2
    · omega
theorem headO_of {r : List Run} (h : RunsOk r) (rest : List Bool) : headO ((List.range (headN (ofR r) 19)).flatMap (lenB (ofR r)) ++ rest) (headN (ofR r) 19) = ofR r := by
  have hk := headN_le (ofR r) 19
  apply List.ext_getElem
  · rw [headO_len, ofR_len]
  · intro x h1 h2
    rw [headO_len] at h1
    obtain ⟨i, hi, hx⟩ := places_all x h1
    rw [← idx_get _ _ (by rw [headO_len]; exact h1), ← idx_get _ _ h2, ← hx, headO_at _ _ hk i hi]
    have hb := h.of_bd (placesN.getD i 0)
    by_cases hlt : i < headN (ofR r) 19
    · rw [if_pos hlt, head_peek h 0 rest _ i hlt]
      show (((((ofR r).getD (placesN.getD i 0) 0).toNat) : Nat) : Int) = _
      omega
    · rw [if_neg hlt, headN_zero (ofR r) 19 i (by omega) hi]
theorem next_run {r : List Run} (h : RunsOk r) {x : Run} (hx : x ∈ r) (rest : List Bool) : nextL (ofR r) 7 (runB (ofR r) x ++ rest) = (x.1, ((len (ofR r) x.1.toNat : Nat) : Int), 0) := by
  obtain ⟨s, hs, hs19, h1, h7, -⟩ := h.sym hx
  have hc := h.chk16
  rw [next_dec hc.1 hc.2 (by decide) (by decide) _ (fun _ _ => trivial)]
  have hh : Hit (ofR r) (runB (ofR r) x ++ rest) s := by
    refine ⟨by rw [ofR_len]; exact hs19, by omega, ?_⟩
    unfold runB bitsS begL
    rw [hs, Int.toNat_natCast, List.append_assoc]
    have e : (msb (code (ofR r) s) (len (ofR r) s) ++ (bitsOf x.2.toNat (extra (s : Int)) ++ rest)).take (msb (code (ofR r) s) (len (ofR r) s)).length = msb (code (ofR r) s) (len (ofR r) s) := List.take_left' rfl
    rw [e, decide_eq_true rfl, decide_eq_true (by rw [List.length_append]; omega)]
    rfl
  rw [decL_hit hc.1 hh, hs, Int.toNat_natCast]
def sumM (q : List Run) : Nat := (q.map many).sum
theorem sumM_cons (x : Run) (q : List Run) : sumM (x :: q) = many x + sumM q := by simp [sumM]
theorem unp_sum (n : Nat) : ∀ (q : List Run) (out : List Int) (a : Int) (l : List Int), unp n out a q = (0, l) → out.length ≤ n → out.length + sumM q = n
  | [], out, a, l, h, ho => by
    unfold unp at h
    split at h
    · injection h with h _; omega
    · simp [sumM]; omega
  | x :: q, out, a, l, h, ho => by
    unfold unp at h
    split at h
    · injection h with h _; omega
    · split at h
      · injection h with h _; omega
      · have := unp_sum n q _ _ _ h (by rw [List.length_append, List.length_replicate]; omega)
        rw [List.length_append, List.length_replicate] at this
        rw [sumM_cons]; omega
theorem run_len {r : List Run} (h : RunsOk r) {x : Run} (hx : x ∈ r) : (runB (ofR r) x).length = len (ofR r) x.1.toNat + extra x.1 := by
  unfold runB bitsS
  rw [List.length_append, bitsOf_length, msb_len]
theorem many_1 {r : List Run} (h : RunsOk r) {x : Run} (hx : x ∈ r) : 1 ≤ many x := by
  unfold many
  split
  · omega
  · split <;> omega
set_option maxHeartbeats 1600000 in
theorem rd_runs {r : List Run} (h : RunsOk r) (n : Nat) (rest : List Bool) : ∀ (q p : List Run) (A : List Bool) (m f : Nat), p ++ q = r → m + sumM q = n → q.length < f → (p = [] → ∀ x ∈ q.head?, x.1 ≠ 16) →
    rdR (ofR r) (A ++ q.flatMap (runB (ofR r)) ++ rest) n f A.length m p = .good r (A.length + (q.flatMap (runB (ofR r))).length) := by
  intro q
  induction q with
  | nil =>
    intro p A m f hp hm hf h16
    obtain ⟨f, rfl⟩ : ∃ f', f = f' + 1 := ⟨f - 1, by simp at hf; omega⟩
    rw [rdR, if_pos (by simp [sumM] at hm; omega)]
    simp at hp
    simp [hp]
  | cons x q ih =>
    intro p A m f hp hm hf h16
    obtain ⟨f, rfl⟩ : ∃ f', f = f' + 1 := ⟨f - 1, by simp at hf; omega⟩
    have hx : x ∈ r := by rw [← hp]; simp
    have h1 := many_1 h hx
    rw [sumM_cons] at hm
    obtain ⟨s, hs, hs19, hl1, hl7, k, hk, hkE, -⟩ := h.sym hx
    have hL : (A ++ (x :: q).flatMap (runB (ofR r)) ++ rest) = A ++ (runB (ofR r) x ++ (q.flatMap (runB (ofR r)) ++ rest)) := by simp [List.append_assoc]
    have hN := next_run h hx (q.flatMap (runB (ofR r)) ++ rest)
    have hd : nextL (ofR r) 7 ((A ++ (x :: q).flatMap (runB (ofR r)) ++ rest).drop A.length) = (x.1, ((len (ofR r) x.1.toNat : Nat) : Int), 0) := by
      rw [hL, List.drop_left]; exact hN
    have hrl := run_len h hx
    have hpk : ((peek ((A ++ (x :: q).flatMap (runB (ofR r)) ++ rest).drop (A.length + ((len (ofR r) x.1.toNat : Nat) : Int).toNat)) (extra x.1) : Nat) : Int) = x.2 := by
      rw [hL, Int.toNat_natCast, ← List.drop_drop, List.drop_left]
      unfold runB bitsS
      rw [List.append_assoc, drop_len _ _ _ (msb_len _ _), peek_put _ _ _ (by rw [hk, Int.toNat_natCast]; exact hkE), hk, Int.toNat_natCast]
    rw [rdR_step _ _ _ _ _ _ _ (by omega) _ _ _ hd, if_neg (by simp), hpk, if_neg (by
      rw [hL, List.length_append, List.length_append, hrl, Int.toNat_natCast]; omega), if_neg (by
      rintro ⟨e1, e2⟩
      exact h16 e2 x (by simp) e1), if_neg (by show ¬ n < m + many x; omega)]
    have ih := ih (p ++ [x]) (A ++ runB (ofR r) x) (m + many x) f (by simpa using hp) (by omega) (by simp at hf; omega) (fun e => by simp at e)
    rw [List.length_append, hrl] at ih
    have e1 : A.length + ((len (ofR r) x.1.toNat : Nat) : Int).toNat + extra x.1 = A.length + (len (ofR r) x.1.toNat + extra x.1) := by rw [Int.toNat_natCast]; omega
    rw [e1]
    have e2 : (A ++ (x :: q).flatMap (runB (ofR r)) ++ rest) = A ++ runB (ofR r) x ++ q.flatMap (runB (ofR r)) ++ rest := by simp [List.append_assoc]
    rw [e2]
    refine ih.trans ?_
    rw [List.flatMap_cons, List.length_append, hrl]
    congr 1
    omega
theorem pack_head {l : List Int} (hl : ∀ x ∈ l, 0 ≤ x ∧ x ≤ 15) : ∀ x ∈ (packF l.length (-1) l).head?, x.1 ≠ 16 := by
  intro x hx
  cases l with
  | nil => simp [packF] at hx
  | cons y l =>
    have hy := hl y List.mem_cons_self
    have hx : firstRun (-1) y (same y (y :: l)) = x := by simpa [packF] using hx
    rw [← hx]
    unfold firstRun
    split
    · simp
    · split
      · simp
      · rw [if_neg (fun e => by have := e.2.1; omega)]
        show y ≠ 16
        omega
/-- What is written is read back. -/
theorem read_back {l : List Int} (h0 : l ≠ []) (hl : l.length ≤ 1024) (hok : okB l = true) (rest : List Bool) (r : List Run) (hr : packL l = r) :
    let W := writeB r (ofR r) ++ rest
    let k := headN (ofR r) 19
    peek (W.drop 0) 4 + 4 = k ∧ headO (W.drop (0 + 4)) k = ofR r ∧ 0 + 4 + 3 * k ≤ (writeB r (ofR r)).length ∧ rdR (ofR r) W l.length (l.length + 1) (0 + 4 + 3 * k) 0 [] = .good r (writeB r (ofR r)).length ∧ unpack r l.length = (0, l) := by
  intro W k
  have hR : RunsOk r := by rw [← hr]; exact pack_ok h0 hl hok
  have hbd := (okB_iff l).1 hok
  have hpl : packL l = packF l.length (-1) l := by unfold packL; rw [if_pos hok]
  have hun : unpack r l.length = (0, l) := by
    unfold unpack
    rw [if_neg (by omega), Int.toNat_natCast, ← hr]
    have := unp_pack l.length l.length [] (-1) 0 l (Nat.le_refl _) hbd (by simp) (.inr rfl)
    rw [hpl]
    simpa using this
  have hk4 : 4 ≤ k := headN_ge (ofR r) 19 (by decide)
  have hk19 : k ≤ 19 := headN_le (ofR r) 19
  have hW : W = bitsOf (k - 4) 4 ++ ((List.range k).flatMap (lenB (ofR r)) ++ (r.flatMap (runB (ofR r)) ++ rest)) := by
    show writeB r (ofR r) ++ rest = _
    unfold writeB headB headTo
    simp only [List.append_assoc]
    rfl
  have hhl : (headB (ofR r)).length = 4 + 3 * k := headTo_len _ _ _
  refine ⟨?_, ?_, ?_, ?_, hun⟩
  · rw [List.drop_zero, hW, peek_put _ _ _ (by omega)]; omega
  · rw [hW, drop_len _ _ _ (by rw [bitsOf_length])]
    exact headO_of hR _
  · unfold writeB
    rw [List.length_append, hhl]; omega
  · have hsum := unp_sum l.length r [] 0 l (by
      have := hun
      unfold unpack at this
      rw [if_neg (by omega), Int.toNat_natCast] at this
      exact this) (by simp)
    have hrl : r.length ≤ l.length := by rw [← hr, hpl]; exact RunsMath.pack_length _ _ _ (Nat.le_refl _) hbd
    have := rd_runs hR l.length rest r [] (headB (ofR r)) 0 (l.length + 1) rfl (by simpa using hsum) (by omega) (fun _ => by rw [← hr, hpl]; exact pack_head hbd)
    rw [hhl] at this
    show rdR (ofR r) (writeB r (ofR r) ++ rest) l.length (l.length + 1) (0 + 4 + 3 * k) 0 [] = _
    rw [Nat.zero_add]
    unfold writeB
    rw [this, List.length_append, hhl]
end Go.Proofs.Ytopiiickeojpmaa
