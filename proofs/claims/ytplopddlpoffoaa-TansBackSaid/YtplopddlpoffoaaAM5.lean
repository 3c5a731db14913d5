/- Layer 59: whether norms may be; how symbols are spread: mathematics, norms. -/
import Derived.Test.YtplopddlpoffoaaAM2
namespace Go.Proofs.Ytplopddlpoffoaa
open Go.ChangeShapes Go.WideShapes Go.ChangeAt Go.RowKit
set_option linter.unusedVariables false
set_option linter.unusedSimpArgs false
set_option maxRecDepth 100000
def norL (q : Int) : List Int → Int → Bool
  | [], s => decide (s = q)
  | x :: l, s => if x < 0 ∨ q - s < x then false else norL q l (s + x)
theorem sumI_nn : ∀ (l : List Int), (∀ x ∈ l, 0 ≤ x) → 0 ≤ sumI l
  | [], _ => by simp [sumI]
  | x :: l, h => by
    have h1 := sumI_nn l (fun y hy => h y (by simp [hy]))
    have h2 := h x (by simp)
    simp only [sumI]; omega
theorem norL_iff (q : Int) : ∀ (l : List Int) (s : Int), norL q l s = true ↔ (∀ x ∈ l, 0 ≤ x) ∧ s + sumI l = q
  | [], s => by simp [norL, sumI]
  | x :: l, s => by
    have ih := norL_iff q l (s + x)
    simp only [norL, sumI]
    by_cases h : x < 0 ∨ q - s < x
    · rw [if_pos h]
      constructor
      · intro h2; cases h2
      · rintro ⟨h1, h2⟩
        have h3 := h1 x (by simp)
        have h4 := sumI_nn l (fun y hy => h1 y (by simp [hy]))
        omega
    · rw [if_neg h, ih]
      constructor
      · rintro ⟨h1, h2⟩
        exact ⟨fun y hy => by rcases List.mem_cons.1 hy with e | e; (· subst e; omega); (· exact h1 y e), by omega⟩
      · rintro ⟨h1, h2⟩
        exact ⟨fun y hy => h1 y (by simp [hy]), by omega⟩
def norV (l : List Int) (q : Int) : Bool := decide (l.length ≤ 256) && norL q l 0
theorem norL_step (q : Int) (l : List Int) (k : Nat) (hk : k < l.length) (s : Int) : norL q (l.drop k) s = if l.getD k 0 < 0 ∨ q - s < l.getD k 0 then false else norL q (l.drop (k + 1)) (s + l.getD k 0) := by
  have e : l.getD k 0 = l[k] := by simp [List.getD_eq_getElem?_getD, hk]
  rw [List.drop_eq_getElem_cons hk, e]
  rfl
set_option maxHeartbeats 1600000 in
theorem cNorms (a : Option Addr) (c : Nat) (l : List Int) (q : Int) (hq0 : 0 ≤ q) (hq : q ≤ 4096) (w : World) (h : IsInts w a l) : Calls Try.prog 29 #[.slice a l.length c, .int .i64 q] w fun e w' => e = .returned (.bool (norV l q)) ∧ w' = w := by
  unfold norV
  by_cases h1 : 256 < l.length
  · have d1 : decide (l.length ≤ 256) = false := by simp; omega
    rw [d1, Bool.false_and]
    go_enter Try.func29, Try.ntmps29
    go_wp2_with fail
    go_ret
    exact ⟨rfl, rfl⟩
  have d1 : decide (l.length ≤ 256) = true := by simp; omega
  have d2 : decide ((256 : Int) < (l.length : Int)) = false := by simp; omega
  rw [d1, Bool.true_and]
  obtain ⟨R, hR⟩ : ∃ R, norL q l 0 = R := ⟨_, rfl⟩
  rw [hR]
  have HR := Lib.hid hR
  have HI := Lib.hid h
  have HS := Lib.hid (fun k hk s => norL_step q l k hk s)
  clear hR h d1
  go_enter Try.func29, Try.ntmps29
  go_wp2_with fail
  clear d2
  go_loopw [5, 13] (fun sv iv wr => ∃ (k : Nat) (s : Int), k ≤ l.length ∧ iv = .int .i64 k ∧ sv = .int .i64 s ∧ 0 ≤ s ∧ s ≤ 4096 ∧ Hid (norL q l 0 = norL q (l.drop k) s) ∧ wr = w) (fun _ iv _ => l.length - (intOf iv).toNat)
  case atStart => exact ⟨0, 0, Nat.zero_le _, rfl, rfl, by omega, by omega, Lib.hid (by simp), rfl⟩
  case round =>
    obtain ⟨k, s, hk, rfl, rfl, hs0, hs1, ht, rfl⟩ := hrel
    by_cases hlt : k < l.length
    · obtain ⟨x, rfl, -, cx0⟩ := HI.out.at k hlt
      have cx := cx0 k hlt
      have HT2 := Lib.hid (ht.out.trans (HS.out k hlt s))
      obtain ⟨V, hV⟩ : ∃ V, l.getD k 0 = V := ⟨_, rfl⟩
      rw [hV] at cx HT2
      have hkl : (k : Int) < (l.length : Int) := by omega
      have hw1 : IntKind.i64.wrap (q - s) = q - s := by rw [IntKind.wrap_i64]; omega
      clear hV cx0
      by_cases hb : V < 0 ∨ q - s < V
      · rw [if_pos hb] at HT2
        have hr := HR.out
        rw [HT2.out] at hr
        subst hr
        by_cases hb1 : V < 0
        · have hd : decide (V < 0) = true := by simpa using hb1
          clear hb
          go_wp2_with fail
          go_ret
          exact ⟨rfl, rfl⟩
        · have hd : decide (V < 0) = false := by simpa using hb1
          have hd2 : decide (q - s < V) = true := by simp; omega
          clear hb
          go_wp2_with fail
          go_ret
          exact ⟨rfl, rfl⟩
      · rw [if_neg hb] at HT2
        have hd : decide (V < 0) = false := by simp; omega
        have hd2 : decide (q - s < V) = false := by simp; omega
        have hb1 : ¬ V < 0 := by omega
        have hb2 : ¬ q - s < V := by omega
        have hw2 : IntKind.i64.wrap (s + V) = s + V := by rw [IntKind.wrap_i64]; omega
        clear hb
        go_wp2_with fail
        go_roundw
        case rel => exact ⟨k + 1, s + V, by omega, by go_num, rfl, by omega, by omega, HT2, by first | rfl | trivial⟩
        case measure => simp [intOf]; omega
    · obtain rfl : k = l.length := by omega
      have ht := ht.out
      rw [List.drop_eq_nil_of_le (Nat.le_refl _)] at ht
      have hr := HR.out
      rw [ht] at hr
      simp only [norL] at hr
      clear ht
      go_wp2_with fail
      go_ret
      exact ⟨by rw [← hr]; rfl, rfl⟩
/-- The symbols, one behind the other. -/
def symF : List Int → Nat → List Int
  | [], _ => []
  | x :: l, s => List.replicate x.toNat (s : Int) ++ symF l (s + 1)
def placeL (step size : Nat) : List Int → Nat → List Int → List Int
  | [], _, out => out
  | s :: r, p, out => placeL step size r ((p + step) % size) (out.set p s)
def stepN (q : Nat) : Nat := q / 2 + q / 8 + 3
def sprL (l : List Int) (q : Nat) : List Int := placeL (stepN q) q (symF l 0) 0 (List.replicate q 0)
theorem placeL_len (step size : Nat) : ∀ (r : List Int) (p : Nat) (out : List Int), (placeL step size r p out).length = out.length
  | [], _, _ => rfl
  | s :: r, p, out => by simp [placeL, placeL_len]
def sprV (l : List Int) (n : Int) : List Int × Int :=
  if n < 5 ∨ 12 < n then ([], 1) else if norV l (2 ^ n.toNat) = true then (sprL l (2 ^ n.toNat), 0) else ([], 4)
theorem symF_drop (l : List Int) (k : Nat) (hk : k < l.length) : symF (l.drop k) k = List.replicate (l.getD k 0).toNat (k : Int) ++ symF (l.drop (k + 1)) (k + 1) := by
  have e : l.getD k 0 = l[k] := by simp [List.getD_eq_getElem?_getD, hk]
  rw [List.drop_eq_getElem_cons hk, e]
  rfl
theorem norV_facts {l : List Int} {q : Int} (h : norV l q = true) : l.length ≤ 256 ∧ (∀ i, i < l.length → 0 ≤ l.getD i 0 ∧ l.getD i 0 ≤ q) ∧ sumI l = q := by
  unfold norV at h
  rw [Bool.and_eq_true, decide_eq_true_eq] at h
  obtain ⟨h1, h2⟩ := (norL_iff q l 0).1 h.2
  refine ⟨h.1, fun i hi => ?_, by omega⟩
  have e : l.getD i 0 = l[i] := by simp [List.getD_eq_getElem?_getD, hi]
  have h3 := h1 l[i] (List.getElem_mem hi)
  refine ⟨by omega, ?_⟩
  have h4 : ∀ (l : List Int), (∀ x ∈ l, 0 ≤ x) → ∀ x ∈ l, x ≤ sumI l := by
    intro l
    induction l with
    | nil => intro _ x hx; cases hx
    | cons y l ih =>
      intro hn x hx
      have h5 := sumI_nn l (fun z hz => hn z (by simp [hz]))
      have h6 := hn y (by simp)
      simp only [sumI]
      rcases List.mem_cons.1 hx with e | e
      · omega
      · have := ih (fun z hz => hn z (by simp [hz])) x e; omega
  have := h4 l h1 l[i] (List.getElem_mem hi)
  omega
end Go.Proofs.Ytplopddlpoffoaa
