import Derived.Test.YtopiiickeojpmaaAI9
import Derived.Test.YtopiiickeojpmaaJ10
import Derived.Test.YtopiiickeojpmaaJ14
import Derived.Test.YtopiiickeojpmaaJ2
/- Layer 13: what is written, and what is read: mathematics. -/
namespace Go.Proofs.Ytopiiickeojpmaa
set_option linter.unusedVariables false
set_option maxRecDepth 100000
open Bits hiding packF pack_length
open RunsMath KraftMath CanonMath Pm
/-- How often each symbol of runs occurs. -/
def cntR (r : List Run) : List Int := (List.range 19).map fun (s : Nat) => (((r.filter fun x => x.1 == (s : Int)).length : Nat) : Int)
theorem cntR_len (r : List Run) : (cntR r).length = 19 := by simp [cntR]
theorem cntR_at (r : List Run) (s : Nat) (h : s < 19) : (cntR r).getD s 0 = (((r.filter fun x => x.1 == (s : Int)).length : Nat) : Int) := by
  simp [cntR, List.getD_eq_getElem?_getD, h]
theorem cntR_nil : cntR [] = List.replicate 19 0 := by decide
theorem cntR_next (r : List Run) (x : Run) (k : Nat) (hx : x.1 = (k : Int)) (hk : k < 19) : cntR (r ++ [x]) = (cntR r).set k ((cntR r).getD k 0 + 1) := by
  apply List.ext_getElem
  · simp [cntR]
  · intro i h1 h2
    have hi : i < 19 := by simpa [cntR] using h1
    rw [← idx_get _ _ h1, ← idx_get _ _ h2, getD_set _ _ _ _ (by rw [cntR_len]; exact hk), cntR_at _ _ hi, cntR_at _ _ hi, List.filter_append, List.length_append]
    by_cases h : k = i
    · subst h
      rw [if_pos rfl, cntR_at r k hk]
      simp [hx]
    · rw [if_neg h]
      have : (x.1 == (i : Int)) = false := by rw [beq_eq_false_iff_ne, hx]; omega
      simp [this]
theorem cntR_le (r : List Run) (s : Nat) : 0 ≤ (cntR r).getD s 0 ∧ (cntR r).getD s 0 ≤ r.length := by
  by_cases h : s < 19
  · rw [cntR_at r s h]
    have := List.length_filter_le (fun x : Run => x.1 == (s : Int)) r
    omega
  · rw [List.getD_eq_getElem?_getD, List.getElem?_eq_none (by rw [cntR_len]; omega)]
    simp
theorem cntR_pos {r : List Run} {x : Run} (hx : x ∈ r) {k : Nat} (hk : x.1 = (k : Int)) (h : k < 19) : 0 < (cntR r).getD k 0 := by
  rw [cntR_at r k h]
  have : 0 < (r.filter fun x => x.1 == (k : Int)).length := List.length_pos_iff.2 (fun e => by
    have : x ∈ r.filter fun x => x.1 == (k : Int) := List.mem_filter.2 ⟨hx, by rw [hk]; simp⟩
    rw [e] at this; cases this)
  omega
def ofR (r : List Run) : List Int := lensV (cntR r) 7
/-- Runs that may be written. -/
structure RunsOk (r : List Run) : Prop where
  some : r ≠ []
  few : r.length ≤ 1024
  fine : ∀ x ∈ r, 0 ≤ x.1 ∧ x.1 ≤ 18 ∧ 0 ≤ x.2 ∧ x.2 < 2 ^ extra x.1
theorem fine_facts {x : Run} (h : fine x = true) : 0 ≤ x.1 ∧ x.1 ≤ 18 ∧ 0 ≤ x.2 ∧ x.2 < 2 ^ extra x.1 := by
  unfold fine at h
  exact of_decide_eq_true h
theorem packF_fine : ∀ (f : Nat) (a : Int) (l : List Int), (∀ x ∈ l, 0 ≤ x ∧ x ≤ 15) → ∀ x ∈ packF f a l, fine x = true
  | 0, a, l, h, x, hx => by cases l <;> simp [packF] at hx
  | f + 1, a, [], h, x, hx => by simp [packF] at hx
  | f + 1, a, y :: l, h, x, hx => by
    simp only [packF, List.mem_cons] at hx
    rcases hx with rfl | hx
    · exact first_fine _ _ _ (h y List.mem_cons_self) (by simp [same])
    · exact packF_fine f _ _ (fun z hz => h z (List.mem_of_mem_drop hz)) x hx
theorem packF_some (f : Nat) (a y : Int) (l : List Int) : packF (f + 1) a (y :: l) ≠ [] := by simp [packF]
theorem pack_ok {l : List Int} (h0 : l ≠ []) (hl : l.length ≤ 1024) (hb : okB l = true) : RunsOk (packL l) := by
  have hx := (okB_iff l).1 hb
  unfold packL
  rw [if_pos hb]
  refine ⟨?_, Nat.le_trans (pack_length _ _ _ (Nat.le_refl _) hx) hl, fun x h => fine_facts (packF_fine _ _ _ hx x h)⟩
  obtain ⟨y, l, rfl⟩ : ∃ y t, l = y :: t := by cases l with | nil => exact absurd rfl h0 | cons y t => exact ⟨y, t, rfl⟩
  exact packF_some _ _ _ _
theorem RunsOk.chk {r : List Run} (h : RunsOk r) : chkP (cntR r) ((7 : Nat) : Int) = 0 := by
  unfold chkP
  rw [if_neg (by decide), cntR_len, if_neg (by decide)]
  have hb : (cntR r).any badF = false := by
    rw [← Bool.not_eq_true]
    intro hh
    obtain ⟨v, hv, hbad⟩ := List.any_eq_true.1 hh
    obtain ⟨i, hi, e⟩ := List.mem_iff_getElem.1 hv
    have h1 := cntR_le r i
    rw [List.getD_eq_getElem?_getD, List.getElem?_eq_getElem hi, e] at h1
    have h2 := h.few
    simp only [Option.getD_some] at h1
    unfold badF at hbad
    simp at hbad
    omega
  rw [hb, if_neg (by decide)]
  have hu : used (cntR r) ≠ 0 := by
    intro hu
    obtain ⟨x, t, e⟩ : ∃ x t, r = x :: t := by cases r with | nil => exact absurd rfl h.some | cons x t => exact ⟨x, t, rfl⟩
    have hm : x ∈ r := by rw [e]; exact List.mem_cons_self
    obtain ⟨f1, f2, -, -⟩ := h.fine x hm
    have hp := cntR_pos hm (k := x.1.toNat) (by omega) (by omega)
    have hs := used_succ (cntR r) x.1.toNat (by rw [cntR_len]; omega)
    rw [if_pos hp] at hs
    have h3 : used ((cntR r).take (x.1.toNat + 1)) ≤ used (cntR r) := by
      conv => rhs; rw [← List.take_append_drop (x.1.toNat + 1) (cntR r), used_append]
      omega
    omega
  rw [if_neg hu]
  have hul := used_le (cntR r)
  rw [cntR_len] at hul
  rw [if_neg]
  have : 2 ^ ((7 : Nat) : Int).toNat = 128 := by decide
  omega
theorem ofR_len (r : List Run) : (ofR r).length = 19 := by unfold ofR; rw [lensV_len, cntR_len]
theorem RunsOk.of_bd {r : List Run} (h : RunsOk r) (i : Nat) : 0 ≤ (ofR r).getD i 0 ∧ (ofR r).getD i 0 ≤ 7 ∧ (0 < (ofR r).getD i 0 ↔ 0 < (cntR r).getD i 0) := by
  have := lensV_bd (cntR r) 7 h.chk i
  exact this
theorem RunsOk.chk7 {r : List Run} (h : RunsOk r) : check (ofR r) ((7 : Nat) : Int) = 0 := (lens_may (cntR r) 7 h.chk).2.1
theorem RunsOk.chk16 {r : List Run} (h : RunsOk r) : check (ofR r) 16 = 0 ∧ (∀ s, s < (ofR r).length → len (ofR r) s ≤ 7) := by
  have := check_16 h.chk7
  exact ⟨this.1, this.2.1⟩
theorem RunsOk.sym {r : List Run} (h : RunsOk r) {x : Run} (hx : x ∈ r) : ∃ s : Nat, x.1 = s ∧ s < 19 ∧ 1 ≤ len (ofR r) s ∧ len (ofR r) s ≤ 7 ∧ ∃ m : Nat, x.2 = m ∧ m < 2 ^ extra x.1 ∧ goodS (ofR r) x.1 = true := by
  obtain ⟨f1, f2, f3, f4⟩ := h.fine x hx
  obtain ⟨s, hs⟩ : ∃ s : Nat, x.1 = s := ⟨x.1.toNat, by omega⟩
  obtain ⟨m, hm⟩ : ∃ m : Nat, x.2 = m := ⟨x.2.toNat, by omega⟩
  have hb := h.of_bd s
  have hp := hb.2.2.2 (cntR_pos hx hs (by omega))
  have hl : len (ofR r) s = ((ofR r).getD s 0).toNat := rfl
  refine ⟨s, hs, by omega, by omega, by omega, m, hm, ?_, ?_⟩
  · rw [hm] at f4
    have e : ((2 : Int) ^ extra x.1) = ((2 ^ extra x.1 : Nat) : Int) := by simp
    rw [e] at f4
    omega
  · unfold goodS
    rw [hs, ofR_len, Int.toNat_natCast, decide_eq_true (show (0 : Int) ≤ (s : Int) by omega), decide_eq_true (show (s : Int) < ((19 : Nat) : Int) by omega), decide_eq_true (show (ofR r).getD s 0 ≠ 0 by omega)]
    rfl
def placesN : List Nat := [16, 17, 18, 0, 8, 7, 9, 6, 10, 5, 11, 4, 12, 3, 13, 2, 14, 1, 15]
def placesI : List Int := placesN.map (fun (s : Nat) => (s : Int))
theorem places_lt (i : Nat) (h : i < 19) : placesN.getD i 0 < 19 := by
  have : ∀ i, i < 19 → placesN.getD i 0 < 19 := by decide
  exact this i h
/-- How many lengths are written. -/
def headN (o : List Int) : Nat → Nat
  | 0 => 0
  | k + 1 => if 4 < k + 1 ∧ o.getD (placesN.getD k 0) 0 = 0 then headN o k else k + 1
theorem headN_le (o : List Int) : ∀ k, headN o k ≤ k
  | 0 => Nat.le_refl _
  | k + 1 => by
    unfold headN
    split
    · exact Nat.le_succ_of_le (headN_le o k)
    · exact Nat.le_refl _
theorem headN_ge (o : List Int) : ∀ k, 4 ≤ k → 4 ≤ headN o k
  | 0, h => by omega
  | k + 1, h => by
    unfold headN
    split
    · rename_i hc
      exact headN_ge o k (by omega)
    · exact h
/-- The document's way to it, from the front. -/
def headUp (o : List Int) : Nat → Nat
  | 0 => 4
  | k + 1 => if 0 < o.getD (placesN.getD k 0) 0 ∧ headUp o k < k + 1 then k + 1 else headUp o k
theorem headUp_le (o : List Int) : ∀ k, headUp o k ≤ max 4 k ∧ 4 ≤ headUp o k
  | 0 => ⟨by simp [headUp], by simp [headUp]⟩
  | k + 1 => by
    have := headUp_le o k
    unfold headUp
    split <;> omega
theorem head_same (o : List Int) (h : ∀ i, 0 ≤ o.getD i 0) : ∀ k, 4 ≤ k → headUp o k = headN o k
  | 0, hk => by omega
  | k + 1, hk => by
    have hu := headUp_le o k
    unfold headUp headN
    by_cases h4 : 4 < k + 1
    · have ih := head_same o h k (by omega)
      by_cases hz : o.getD (placesN.getD k 0) 0 = 0
      · rw [if_neg (show ¬ (0 < o.getD (placesN.getD k 0) 0 ∧ headUp o k < k + 1) from fun e => by have := e.1; omega), if_pos ⟨h4, hz⟩, ih]
      · have := h (placesN.getD k 0)
        rw [if_neg (show ¬ (4 < k + 1 ∧ o.getD (placesN.getD k 0) 0 = 0) from fun e => hz e.2), if_pos ⟨by omega, by omega⟩]
    · rw [if_neg (show ¬ (4 < k + 1 ∧ o.getD (placesN.getD k 0) 0 = 0) from fun e => h4 e.1)]
      split
      · rfl
      · omega
def lenB (o : List Int) (i : Nat) : List Bool := bitsOf (len o (placesN.getD i 0)) 3
def headTo (o : List Int) (N k : Nat) : List Bool := bitsOf (N - 4) 4 ++ (List.range k).flatMap (lenB o)
def headB (o : List Int) : List Bool := headTo o (headN o 19) (headN o 19)
def runB (o : List Int) (x : Run) : List Bool := bitsS o x.1 ++ bitsOf x.2.toNat (extra x.1)
def writeB (r : List Run) (o : List Int) : List Bool := headB o ++ r.flatMap (runB o)
theorem headTo_next (o : List Int) (N k : Nat) : headTo o N (k + 1) = headTo o N k ++ lenB o k := by
  unfold headTo
  rw [List.range_succ, List.flatMap_append, List.append_assoc]; simp
theorem headTo_len (o : List Int) (N k : Nat) : (headTo o N k).length = 4 + 3 * k := by
  induction k with
  | zero => simp [headTo, bitsOf_length]
  | succ k ih => rw [headTo_next, List.length_append, ih]; simp [lenB, bitsOf_length]; omega
theorem runs_next (o : List Int) (r : List Run) (k : Nat) (h : k < r.length) : (r.take (k + 1)).flatMap (runB o) = (r.take k).flatMap (runB o) ++ runB o (r.getD k (0, 0)) := by
  rw [List.take_succ_eq_append_getElem h, List.flatMap_append, List.getD_eq_getElem?_getD, List.getElem?_eq_getElem h]; simp
theorem extra7 (s : Int) : extra s ≤ 7 := by unfold extra; split; omega; split; omega; split <;> omega
theorem runs_len {r : List Run} (h : RunsOk r) : ∀ k, k ≤ r.length → ((r.take k).flatMap (runB (ofR r))).length ≤ 14 * k := by
  intro k
  induction k with
  | zero => intro _; simp
  | succ k ih =>
    intro hk
    rw [runs_next _ _ _ (by omega), List.length_append]
    have hx : r.getD k (0, 0) ∈ r := by rw [List.getD_eq_getElem?_getD, List.getElem?_eq_getElem (by omega)]; exact List.getElem_mem _
    obtain ⟨s, hs, -, -, h7, -⟩ := h.sym hx
    have h8 := extra7 (r.getD k (0, 0)).1
    have : (runB (ofR r) (r.getD k (0, 0))).length ≤ 14 := by
      unfold runB bitsS
      rw [List.length_append, bitsOf_length, msb_len, hs, Int.toNat_natCast]
      rw [hs] at h8
      omega
    have := ih (by omega)
    omega
end Go.Proofs.Ytopiiickeojpmaa
