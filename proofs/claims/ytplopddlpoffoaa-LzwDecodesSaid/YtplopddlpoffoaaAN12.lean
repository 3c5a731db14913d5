/- Layer 60: rows as spans of what was told: mathematics of Decode. -/
import Derived.Test.YtplopddlpoffoaaAN11
namespace Go.Proofs.Ytplopddlpoffoaa
set_option linter.unusedVariables false
set_option maxRecDepth 100000
open Bits
theorem copyZ_in (f : Nat) (O : List UInt8) : ∀ k, f + k ≤ O.length → copyZ f O k = O ++ (O.drop f).take k := by
  intro k
  induction k with
  | zero => intro h; simp [copyZ]
  | succ k ih =>
    intro h
    simp only [copyZ]
    rw [ih (by omega), List.getD_eq_getElem?_getD, List.getElem?_append_left (by omega), List.getElem?_eq_getElem (by omega), List.append_assoc]
    congr 1
    rw [List.take_add_one, List.getElem?_drop, List.getElem?_eq_getElem (by omega)]; rfl
theorem copyZ_out (f n : Nat) (O : List UInt8) (h : f + n = O.length) (hn : 1 ≤ n) : copyZ f O (n + 1) = O ++ (O.drop f ++ (O.drop f).take 1) := by
  simp only [copyZ]
  have e : (O.drop f).take n = O.drop f := List.take_of_length_le (by rw [List.length_drop]; omega)
  rw [copyZ_in f O n (by omega), e, List.append_assoc]
  congr 2
  rw [List.getD_eq_getElem?_getD, List.getElem?_append_right (by omega), show f + n - O.length = 0 by omega]
  have hl : 0 < (O.drop f).length := by rw [List.length_drop]; omega
  cases hd : O.drop f with
  | nil => rw [hd] at hl; simp at hl
  | cons a r => rfl
structure Spn (l : List Row8) (last O : Row8) (ps : List (Nat × Nat)) (lf ln : Nat) : Prop where
  len : l.length = 256 + ps.length
  one : ∀ i, i < 256 → l[i]? = some [UInt8.ofNat i]
  row : ∀ j f k, ps[j]? = some (f, k) → l[256 + j]? = some ((O.drop f).take k) ∧ f + k ≤ O.length ∧ 1 ≤ k
  got : O ≠ [] → 1 ≤ ln ∧ lf + ln = O.length ∧ last = O.drop lf
  nil : O = [] → last = []
def psN (O : Row8) (ps : List (Nat × Nat)) (lf ln m : Nat) : List (Nat × Nat) := if O ≠ [] ∧ 256 + ps.length < 2 ^ m then ps ++ [(lf, ln + 1)] else ps
theorem Spn.last_iff {l : List Row8} {last O : Row8} {ps : List (Nat × Nat)} {lf ln : Nat} (h : Spn l last O ps lf ln) : last ≠ [] ↔ O ≠ [] := by
  constructor
  · intro hl hO; exact hl (h.nil hO)
  · intro hO hl
    obtain ⟨h1, h2, h3⟩ := h.got hO
    rw [hl] at h3
    have := congrArg List.length h3
    rw [List.length_drop] at this
    simp at this; omega
theorem Spn.rows {l : List Row8} {last O : Row8} {ps : List (Nat × Nat)} {lf ln : Nat} (h : Spn l last O ps lf ln) (m : Nat) : rowsZ l last m = 256 + (psN O ps lf ln m).length := by
  unfold rowsZ psN
  rw [h.len]
  by_cases hO : O ≠ [] ∧ 256 + ps.length < 2 ^ m
  · rw [if_pos hO, if_pos ⟨h.last_iff.2 hO.1, hO.2⟩]; simp; omega
  · rw [if_neg hO, if_neg (fun e => hO ⟨h.last_iff.1 e.1, e.2⟩)]
theorem Spn.now {l : List Row8} {last O : Row8} {ps : List (Nat × Nat)} {lf ln : Nat} (h : Spn l last O ps lf ln) (m x : Nat) (hx : x < 256 + (psN O ps lf ln m).length) :
    nowZ l last x ≠ [] ∧ (x < 256 → nowZ l last x = [UInt8.ofNat x]) ∧ ∀ f k, (psN O ps lf ln m)[x - 256]? = some (f, k) → 256 ≤ x → copyZ f O k = O ++ nowZ l last x ∧ f + k ≤ O.length + 1 ∧ f < O.length ∧ (nowZ l last x).length = k := by
  have hbyte : x < 256 → nowZ l last x = [UInt8.ofNat x] := by
    intro hx2
    unfold nowZ
    rw [if_pos (by rw [h.len]; omega), List.getD_eq_getElem?_getD, h.one x hx2]; rfl
  have hrow : ∀ f k, (psN O ps lf ln m)[x - 256]? = some (f, k) → 256 ≤ x → copyZ f O k = O ++ nowZ l last x ∧ f + k ≤ O.length + 1 ∧ f < O.length ∧ (nowZ l last x).length = k := by
    intro f k hp hx2
    by_cases hxl : x - 256 < ps.length
    · have hp2 : ps[x - 256]? = some (f, k) := by
        unfold psN at hp
        split at hp
        · rwa [List.getElem?_append_left hxl] at hp
        · exact hp
      obtain ⟨h1, h2, h3⟩ := h.row _ _ _ hp2
      have hn : nowZ l last x = (O.drop f).take k := by
        unfold nowZ
        rw [if_pos (by rw [h.len]; omega), List.getD_eq_getElem?_getD, show x = 256 + (x - 256) by omega, h1]; rfl
      rw [hn]
      exact ⟨copyZ_in f O k h2, by omega, by omega, by rw [List.length_take, List.length_drop]; omega⟩
    · have hO : O ≠ [] ∧ 256 + ps.length < 2 ^ m := by
        refine Decidable.byContradiction fun hc => ?_
        unfold psN at hx
        rw [if_neg hc] at hx
        omega
      unfold psN at hp hx
      rw [if_pos hO] at hp hx
      simp only [List.length_append, List.length_singleton] at hx
      rw [List.getElem?_append_right (by omega), show x - 256 - ps.length = 0 by omega] at hp
      simp at hp
      obtain ⟨rfl, rfl⟩ := hp
      obtain ⟨h1, h2, h3⟩ := h.got hO.1
      have hn : nowZ l last x = O.drop lf ++ (O.drop lf).take 1 := by
        unfold nowZ
        rw [if_neg (by rw [h.len]; omega), h3]
      rw [hn]
      exact ⟨copyZ_out lf ln O h2 h1, by omega, by omega, by rw [List.length_append, List.length_take, List.length_drop]; omega⟩
  refine ⟨?_, hbyte, hrow⟩
  by_cases hx2 : x < 256
  · rw [hbyte hx2]; simp
  · obtain ⟨⟨f, k⟩, hp⟩ : ∃ p, (psN O ps lf ln m)[x - 256]? = some p := ⟨_, List.getElem?_eq_getElem (by omega)⟩
    have h1 := hrow f k hp (by omega)
    intro e
    rw [e, List.append_nil] at h1
    have h2 := h1.2.2.2
    simp at h2
    have h3 : 1 ≤ k := by
      unfold psN at hp
      split at hp
      · by_cases hxl : x - 256 < ps.length
        · rw [List.getElem?_append_left hxl] at hp
          exact (h.row _ _ _ hp).2.2
        · have := (List.getElem?_eq_some_iff.1 hp).1
          simp at this
          rw [List.getElem?_append_right (by omega), show x - 256 - ps.length = 0 by omega] at hp
          simp at hp; omega
      · exact (h.row _ _ _ hp).2.2
    omega
theorem Spn.step {l : List Row8} {last O : Row8} {ps : List (Nat × Nat)} {lf ln : Nat} (h : Spn l last O ps lf ln) (m : Nat) (now : Row8) (hn : now ≠ []) : Spn (moreZ l last now (rowsZ l last m)) now (O ++ now) (psN O ps lf ln m) O.length now.length := by
  have hnl : 0 < now.length := List.length_pos_iff.2 hn
  have hold : ∀ f k, f + k ≤ O.length → ((O ++ now).drop f).take k = (O.drop f).take k := by
    intro f k hfk
    rw [List.drop_append_of_le_length (by omega), List.take_append_of_le_length (by rw [List.length_drop]; omega)]
  have hlast : O ++ now ≠ [] → 1 ≤ now.length ∧ O.length + now.length = (O ++ now).length ∧ now = (O ++ now).drop O.length := fun _ => ⟨hnl, by simp, by simp⟩
  have hnone : O ++ now = [] → now = [] := fun e => (List.append_eq_nil_iff.1 e).2
  by_cases hO : O ≠ [] ∧ 256 + ps.length < 2 ^ m
  · obtain ⟨h1, h2, h3⟩ := h.got hO.1
    have e1 : psN O ps lf ln m = ps ++ [(lf, ln + 1)] := by unfold psN; rw [if_pos hO]
    have e2 : moreZ l last now (rowsZ l last m) = l ++ [last ++ now.take 1] := by
      unfold moreZ
      rw [h.rows m, e1, if_pos (by rw [h.len]; simp)]
    rw [e1, e2]
    refine ⟨by rw [List.length_append, List.length_append, h.len]; simp; omega, fun i hi => ?_, fun j f k hp => ?_, hlast, hnone⟩
    · rw [List.getElem?_append_left (by rw [h.len]; omega)]; exact h.one i hi
    · by_cases hj : j < ps.length
      · rw [List.getElem?_append_left hj] at hp
        obtain ⟨g1, g2, g3⟩ := h.row j f k hp
        refine ⟨?_, by simp; omega, g3⟩
        rw [List.getElem?_append_left (by rw [h.len]; omega), g1, hold f k g2]
      · have hjj : j = ps.length := by
          have := (List.getElem?_eq_some_iff.1 hp).1
          simp at this; omega
        subst hjj
        rw [List.getElem?_append_right (Nat.le_refl _), Nat.sub_self] at hp
        simp at hp
        obtain ⟨rfl, rfl⟩ := hp
        refine ⟨?_, by simp; omega, by omega⟩
        rw [List.getElem?_append_right (by rw [h.len]; omega), h.len, Nat.sub_self]
        simp only [List.getElem?_cons_zero]
        congr 1
        have key : ∀ (A b : List UInt8), (A ++ b).take (A.length + 1) = A ++ b.take 1 := fun A b => by rw [List.take_append, List.take_of_length_le (by omega)]; congr 2; omega
        have hl : ln + 1 = (O.drop lf).length + 1 := by rw [List.length_drop]; omega
        rw [List.drop_append_of_le_length (by omega), hl, key, h3]
  · have e1 : psN O ps lf ln m = ps := by unfold psN; rw [if_neg hO]
    have e2 : moreZ l last now (rowsZ l last m) = l := by
      unfold moreZ
      rw [h.rows m, e1, if_neg (by rw [h.len]; omega)]
    rw [e1, e2]
    refine ⟨h.len, h.one, fun j f k hp => ?_, hlast, hnone⟩
    obtain ⟨g1, g2, g3⟩ := h.row j f k hp
    exact ⟨by rw [g1, hold f k g2], by simp; omega, g3⟩
theorem spn_start : Spn freshR [] [] [] 0 0 := ⟨by rw [fresh_len]; rfl, fresh_at, fun j f k h => by simp at h, fun h => absurd rfl h, fun _ => rfl⟩
end Go.Proofs.Ytplopddlpoffoaa
