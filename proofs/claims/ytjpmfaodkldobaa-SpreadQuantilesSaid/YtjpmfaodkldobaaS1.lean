/- Layer 57: quantiles, by numbers; the document's Quantile. -/
import Derived.Test.YtjpmfaodkldobaaK3
namespace Go.QuantMath
theorem countP_mono' {p q : Int → Bool} : ∀ (s : List Int), (∀ x ∈ s, p x = true → q x = true) → s.countP p ≤ s.countP q
  | [], _ => by simp
  | a :: s, h => by
    have := countP_mono' s (fun x hx => h x (List.mem_cons_of_mem _ hx))
    have ha := h a (List.mem_cons_self ..)
    rw [List.countP_cons, List.countP_cons]
    by_cases hp : p a = true
    · rw [if_pos hp, if_pos (ha hp)]; omega
    · rw [if_neg hp]; omega
theorem countP_all {p : Int → Bool} : ∀ (s : List Int), (∀ x ∈ s, p x = true) → s.countP p = s.length := by
  intro s h; rw [List.countP_eq_length]; exact h
theorem countP_none {p : Int → Bool} : ∀ (s : List Int), (∀ x ∈ s, ¬ p x = true) → s.countP p = 0 := by
  intro s h; rw [List.countP_eq_zero]; exact h
def srt (l : List Int) : List Int := l.mergeSort fun x y => decide (x ≤ y)
theorem srt_perm (l : List Int) : (srt l).Perm l := List.mergeSort_perm l _
theorem srt_length (l : List Int) : (srt l).length = l.length := (srt_perm l).length_eq
theorem srt_pair (l : List Int) : (srt l).Pairwise (fun x y => x ≤ y) := by
  have := List.pairwise_mergeSort (le := fun x y : Int => decide (x ≤ y)) (by intro a b c h1 h2; simp at *; omega) (by intro a b; simp; omega) l
  exact this.imp (by intro a b h; simpa using h)
theorem srt_le (l : List Int) (i j : Nat) (hij : i ≤ j) (hj : j < l.length) : (srt l).getD i 0 ≤ (srt l).getD j 0 := by
  have hl := srt_length l
  rcases Nat.lt_or_eq_of_le hij with h | rfl
  · have := (List.pairwise_iff_getElem.1 (srt_pair l)) i j (by omega) (by omega) h
    simpa [List.getD_eq_getElem?_getD, show i < (srt l).length by omega, show j < (srt l).length by omega] using this
  · exact Int.le_refl _
def less (l : List Int) (v : Int) : Nat := l.countP (fun x => decide (x < v))
def alike (l : List Int) (v : Int) : Nat := l.countP (fun x => decide (x = v))
theorem less_srt (l : List Int) (v : Int) : less (srt l) v = less l v := (srt_perm l).countP_eq _
theorem alike_srt (l : List Int) (v : Int) : alike (srt l) v = alike l v := (srt_perm l).countP_eq _
theorem mem_take_getD {s : List Int} {n : Nat} {x : Int} (h : x ∈ s.take n) : ∃ i, i < n ∧ i < s.length ∧ s.getD i 0 = x := by
  obtain ⟨i, hi, e⟩ := List.mem_iff_getElem.1 h
  rw [List.length_take] at hi
  refine ⟨i, by omega, by omega, ?_⟩
  rw [List.getElem_take] at e
  simp [List.getD_eq_getElem?_getD, show i < s.length by omega, e]
theorem mem_drop_getD {s : List Int} {n : Nat} {x : Int} (h : x ∈ s.drop n) : ∃ i, n ≤ i ∧ i < s.length ∧ s.getD i 0 = x := by
  obtain ⟨i, hi, e⟩ := List.mem_iff_getElem.1 h
  rw [List.length_drop] at hi
  refine ⟨n + i, by omega, by omega, ?_⟩
  rw [List.getElem_drop] at e
  simp [List.getD_eq_getElem?_getD, show n + i < s.length by omega, e]
theorem countP_split {p : Int → Bool} (s : List Int) (n : Nat) : s.countP p = (s.take n).countP p + (s.drop n).countP p := by
  rw [← List.countP_append, List.take_append_drop]
theorem less_alike (s : List Int) (v : Int) : less s v + alike s v = s.countP (fun x => decide (x ≤ v)) := by
  induction s with
  | nil => rfl
  | cons a s ih =>
    unfold less alike at *
    simp only [List.countP_cons]
    by_cases h1 : a < v
    · have h2 : ¬ a = v := by omega
      have h3 : a ≤ v := by omega
      simp [h1, h2, h3]; omega
    · by_cases h2 : a = v
      · subst h2; simp; omega
      · have h3 : ¬ a ≤ v := by omega
        simp [h1, h2, h3]; omega
/-- The one at a place of the sorted row is told by how many are less. -/
theorem quant_iff (l : List Int) (k : Nat) (hk : k < l.length) (v : Int) : (less l v ≤ k ∧ k < less l v + alike l v) ↔ (srt l).getD k 0 = v := by
  have hl := srt_length l
  rw [← less_srt l v, ← alike_srt l v, less_alike]
  obtain ⟨s, hs⟩ : ∃ s, srt l = s := ⟨_, rfl⟩
  have hle := srt_le l
  rw [hs] at hl hle ⊢
  unfold less
  constructor
  · rintro ⟨h1, h2⟩
    rcases Int.lt_trichotomy (s.getD k 0) v with h | h | h
    · exfalso
      rw [countP_split s (k + 1)] at h1
      rw [countP_all (s.take (k + 1)) (fun x hx => by
        obtain ⟨i, h3, h4, rfl⟩ := mem_take_getD hx
        have := hle i k (by omega) hk
        simp only [decide_eq_true_eq]; omega), List.length_take] at h1
      omega
    · exact h
    · exfalso
      rw [countP_split s k] at h2
      rw [countP_none (s.drop k) (fun x hx => by
        obtain ⟨i, h3, h4, rfl⟩ := mem_drop_getD hx
        have := hle k i (by omega) (by omega)
        simp only [decide_eq_true_eq]; omega)] at h2
      have := List.countP_le_length (p := fun x => decide (x ≤ v)) (l := s.take k)
      rw [List.length_take] at this
      omega
  · rintro rfl
    refine ⟨?_, ?_⟩
    · rw [countP_split s k, countP_none (s.drop k) (fun x hx => by
        obtain ⟨i, h3, h4, rfl⟩ := mem_drop_getD hx
        have := hle k i (by omega) (by omega)
        simp only [decide_eq_true_eq]; omega)]
      have := List.countP_le_length (p := fun x => decide (x < s.getD k 0)) (l := s.take k)
      rw [List.length_take] at this
      omega
    · rw [countP_split s (k + 1), countP_all (s.take (k + 1)) (fun x hx => by
        obtain ⟨i, h3, h4, rfl⟩ := mem_take_getD hx
        have := hle i k (by omega) hk
        simp only [decide_eq_true_eq]; omega), List.length_take]
      omega
theorem srt_mem (l : List Int) (k : Nat) (hk : k < l.length) : ∃ i, i < l.length ∧ l.getD i 0 = (srt l).getD k 0 := by
  have hl := srt_length l
  have h : (srt l).getD k 0 ∈ srt l := by
    rw [List.getD_eq_getElem?_getD, List.getElem?_eq_getElem (by omega)]; simp
  have := (srt_perm l).mem_iff.1 h
  obtain ⟨i, hi, e⟩ := List.mem_iff_getElem.1 this
  exact ⟨i, hi, by rw [List.getD_eq_getElem?_getD, List.getElem?_eq_getElem hi]; simpa using e⟩
def quantV (l : List Int) (n o : Int) : Int := (srt l).getD (n * ((l.length : Int) - 1) / o).toNat 0
theorem less_take (l : List Int) (v : Int) (k : Nat) (h : k < l.length) : less (l.take (k + 1)) v = less (l.take k) v + (if l.getD k 0 < v then 1 else 0) := by
  unfold less
  rw [show l.take (k + 1) = l.take k ++ [l.getD k 0] from by rw [List.take_succ_eq_append_getElem h]; simp [List.getD_eq_getElem?_getD, h], List.countP_append]
  congr 1
  by_cases hc : l.getD k 0 < v
  · rw [if_pos hc, List.countP_cons, List.countP_nil]; simp only [hc, decide_true, if_true]
  · rw [if_neg hc, List.countP_cons, List.countP_nil]; simp only [hc, decide_false, Bool.false_eq_true, if_false]
theorem alike_take (l : List Int) (v : Int) (k : Nat) (h : k < l.length) : alike (l.take (k + 1)) v = alike (l.take k) v + (if l.getD k 0 = v then 1 else 0) := by
  unfold alike
  rw [show l.take (k + 1) = l.take k ++ [l.getD k 0] from by rw [List.take_succ_eq_append_getElem h]; simp [List.getD_eq_getElem?_getD, h], List.countP_append]
  congr 1
  by_cases hc : l.getD k 0 = v
  · rw [if_pos hc, List.countP_cons, List.countP_nil]; simp only [hc, decide_true, if_true]
  · rw [if_neg hc, List.countP_cons, List.countP_nil]; simp only [hc, decide_false, Bool.false_eq_true, if_false]
theorem less_le (l : List Int) (v : Int) : less l v ≤ l.length := List.countP_le_length
theorem alike_le (l : List Int) (v : Int) : alike l v ≤ l.length := List.countP_le_length
end Go.QuantMath
namespace Go.Proofs.Ytjpmfaodkldobaa
open Go.ChangeShapes Go.WideShapes Go.ChangeAt Go.RowKit
set_option linter.unusedVariables false
set_option maxRecDepth 100000
open QuantMath
theorem quant_at (l : List Int) (n o : Int) (h0 : 0 < l.length) (ho : 1 ≤ o) (hn : 0 ≤ n) (hno : n ≤ o) : ∃ K : Nat, n * ((l.length : Int) - 1) / o = K ∧ K < l.length := by
  have h1 : n * ((l.length : Int) - 1) ≤ o * ((l.length : Int) - 1) := Int.mul_le_mul_of_nonneg_right hno (by omega)
  have h2 : 0 ≤ n * ((l.length : Int) - 1) := Int.mul_nonneg hn (by omega)
  have h3 := Int.ediv_le_ediv (by omega : 0 < o) h1
  rw [Int.mul_ediv_cancel_left _ (by omega)] at h3
  have h4 := Int.ediv_nonneg h2 (by omega : (0 : Int) ≤ o)
  exact ⟨(n * ((l.length : Int) - 1) / o).toNat, by omega, by omega⟩
set_option maxHeartbeats 1600000 in
theorem dQuantIn (a : Option Addr) (c : Nat) (l : List Int) (n o : Int) (w : World) (h : IsInts w a l) (hl : l.length ≤ 1000) (h0 : 0 < l.length) (ho : 1 ≤ o) (ho2 : o ≤ 1048576) (hn : 0 ≤ n) (hno : n ≤ o) (V : Int) (hV : quantV l n o = V) :
    Calls Try.prog 52 #[.slice a l.length c, .int .i64 n, .int .i64 o] w fun e w' => e = .returned (.tuple #[.int .i64 V, .int .i64 0]) ∧ ∃ k, w' = w.drewN k := by
  obtain ⟨K, hK, hKl⟩ := quant_at l n o h0 ho hn hno
  have HV := Lib.hid (show (srt l).getD K 0 = V by rw [← hV]; unfold quantV; rw [hK]; rfl)
  have hPb : 0 ≤ n * ((l.length : Int) - 1) ∧ n * ((l.length : Int) - 1) ≤ 1048576 * 1000 := by
    have h2 : 0 ≤ n * ((l.length : Int) - 1) := Int.mul_nonneg hn (by omega)
    have h3 : n * ((l.length : Int) - 1) ≤ 1048576 * ((l.length : Int) - 1) := Int.mul_le_mul_of_nonneg_right (by omega) (by omega)
    omega
  obtain ⟨P, hP⟩ : ∃ P : Int, n * ((l.length : Int) - 1) = P := ⟨_, rfl⟩
  rw [hP] at hK hPb
  obtain ⟨hP0, hP1⟩ := hPb
  clear hV
  have HI := Lib.hid h
  clear h
  go_enter Try.func52, Try.ntmps52
  go_wp2
  rw [hK]
  clear hK hP hP0 hP1 hn hno ho ho2
  go_loopw [9] (fun i wr => ∃ k : Nat, k ≤ l.length ∧ i = .int .i64 k ∧ Hid (∀ j, j < k → l.getD j 0 ≠ V) ∧ ∃ q, wr = w.drewN q) (fun i _ => l.length - (intOf i).toNat)
  case atStart => exact ⟨0, Nat.zero_le _, rfl, Lib.hid (fun j hj => by omega), 0, rfl⟩
  case round =>
    obtain ⟨i, hi, rfl, hne, q, rfl⟩ := hrel
    by_cases hit : i < l.length
    · obtain ⟨x, rfl, hxb, hcell0⟩ := HI.out.at i hit
      have ci := hcell0 i hit
      have hcell := Lib.hid hcell0
      clear hcell0
      have hQ := Lib.hid (quant_iff l K hKl (l.getD i 0))
      rw [HV.out] at hQ
      obtain ⟨X, hX⟩ : ∃ X, l.getD i 0 = X := ⟨_, rfl⟩
      have hXe := Lib.hid hX
      rw [hX] at ci hQ
      clear hX
      go_wp2
      go_loopw [10, 11, 12] (fun u v t wr => ∃ k : Nat, k ≤ l.length ∧ t = .int .i64 k ∧ u = .int .i64 (less (l.take k) X : Nat) ∧ v = .int .i64 (alike (l.take k) X : Nat) ∧ ∃ q, wr = w.drewN q) (fun _ _ t _ => l.length - (intOf t).toNat)
      case atStart => exact ⟨0, Nat.zero_le _, rfl, by simp [less], by simp [alike], _, rfl⟩
      case round =>
        obtain ⟨k, hk, rfl, rfl, rfl, q2, rfl⟩ := hrel
        by_cases hkt : k < l.length
        · have ck := hcell.out k hkt
          have h1 := Lib.hid (less_take l X k hkt)
          have h2 := Lib.hid (alike_take l X k hkt)
          have b1 := less_le (l.take k) X
          have b2 := alike_le (l.take k) X
          rw [List.length_take] at b1 b2
          obtain ⟨Y, hY⟩ : ∃ Y, l.getD k 0 = Y := ⟨_, rfl⟩
          rw [hY] at ck h1 h2
          obtain ⟨A, hA⟩ : ∃ A, less (l.take k) X = A := ⟨_, rfl⟩
          obtain ⟨B, hB⟩ : ∃ B, alike (l.take k) X = B := ⟨_, rfl⟩
          rw [hA] at h1 b1
          rw [hB] at h2 b2
          rw [hA, hB]
          clear hA hB hY
          rcases Int.lt_trichotomy Y X with hc | hc | hc
          · have e1 : decide (Y < X) = true := by simp; omega
            have e2 : (Y == X) = false := by rw [beq_eq_false_iff_ne]; omega
            rw [if_pos hc] at h1
            rw [if_neg (by omega)] at h2
            have H1 := h1; have H2 := h2
            clear h1 h2
            go_wp2
            go_region
            go_wp2
            go_region
            go_wp2
            go_roundw
            case rel => exact ⟨k + 1, by omega, by go_num, by rw [H1.out]; go_num, by rw [H2.out]; go_num, _, rfl⟩
            case measure => simp [intOf]; omega
          · subst hc
            have e1 : decide (Y < Y) = false := by simp
            rw [if_neg (by omega)] at h1
            rw [if_pos rfl] at h2
            have H1 := h1; have H2 := h2
            clear h1 h2
            go_wp2
            go_region
            go_wp2
            go_region
            go_wp2
            go_roundw
            case rel => exact ⟨k + 1, by omega, by go_num, by rw [H1.out]; go_num, by rw [H2.out]; go_num, _, rfl⟩
            case measure => simp [intOf]; omega
          · have e1 : decide (Y < X) = false := by simp; omega
            have e2 : (Y == X) = false := by rw [beq_eq_false_iff_ne]; omega
            rw [if_neg (by omega)] at h1
            rw [if_neg (by omega)] at h2
            have H1 := h1; have H2 := h2
            clear h1 h2
            go_wp2
            go_region
            go_wp2
            go_region
            go_wp2
            go_roundw
            case rel => exact ⟨k + 1, by omega, by go_num, by rw [H1.out]; go_num, by rw [H2.out]; go_num, _, rfl⟩
            case measure => simp [intOf]; omega
        · obtain rfl : k = l.length := by omega
          rw [List.take_length]
          have b1 := less_le l X
          have b2 := alike_le l X
          obtain ⟨A, hA⟩ : ∃ A, less l X = A := ⟨_, rfl⟩
          obtain ⟨B, hB⟩ : ∃ B, alike l X = B := ⟨_, rfl⟩
          rw [hA, hB] at hQ
          rw [hA] at b1
          rw [hB] at b2
          rw [hA, hB]
          clear hA hB
          by_cases hhit : A ≤ K ∧ K < A + B
          · have hv := hQ.out.1 hhit
            obtain ⟨e1, e2⟩ := hhit
            clear hQ
            go_wp2
            go_ret2
            subst hv
            exact ⟨rfl, _, rfl⟩
          · have hHn := Lib.hid (show ∀ j, j < i + 1 → l.getD j 0 ≠ V from by
              intro j hj
              by_cases e : j = i
              · subst e; rw [hXe.out]; exact fun e => hhit (hQ.out.2 e.symm)
              · exact hne.out j (by omega))
            clear hQ
            by_cases hA1 : A ≤ K
            · have hA2 : ¬ K < A + B := fun e => hhit ⟨hA1, e⟩
              clear hhit
              go_wp2
              go_roundw
              case rel => exact ⟨i + 1, by omega, by go_num, hHn, _, rfl⟩
              case measure => simp [intOf]; omega
            · clear hhit
              go_wp2
              go_roundw
              case rel => exact ⟨i + 1, by omega, by go_num, hHn, _, rfl⟩
              case measure => simp [intOf]; omega
    · exfalso
      obtain ⟨j, hj, e⟩ := srt_mem l K hKl
      rw [HV.out] at e
      exact hne.out j (by omega) e
def quantS (l : List Int) (n o : Int) : Int × Int :=
  if o < 1 ∨ 1048576 < o ∨ n < 0 ∨ o < n then (0, 1) else if l.length = 0 then (0, 7) else (quantV l n o, 0)
theorem dQuantBad (a : Option Addr) (L c : Nat) (n o : Int) (w : World) (h : o < 1 ∨ 1048576 < o ∨ n < 0 ∨ o < n) :
    Calls Try.prog 52 #[.slice a L c, .int .i64 n, .int .i64 o] w fun e w' => e = .returned (.tuple #[.int .i64 0, .int .i64 1]) ∧ ∃ k, w' = w.drewN k := by
  have e : (decide (o < 1) || decide (1048576 < o) || decide (n < 0) || decide (o < n)) = true := by simp; omega
  by_cases h1 : o < 1
  · clear h
    go_enter Try.func52, Try.ntmps52
    go_wp2
    go_ret2
    exact ⟨rfl, 0, rfl⟩
  by_cases h2 : 1048576 < o
  · clear h
    go_enter Try.func52, Try.ntmps52
    go_wp2
    go_ret2
    exact ⟨rfl, 0, rfl⟩
  by_cases h3 : n < 0
  · clear h
    go_enter Try.func52, Try.ntmps52
    go_wp2
    go_ret2
    exact ⟨rfl, 0, rfl⟩
  have h4 : o < n := by omega
  clear h
  go_enter Try.func52, Try.ntmps52
  go_wp2
  go_ret2
  exact ⟨rfl, 0, rfl⟩
theorem dQuant (a : Option Addr) (c : Nat) (l : List Int) (n o : Int) (w : World) (h : IsInts w a l) (hl : l.length ≤ 1000) (R : Int × Int) (hR : quantS l n o = R) :
    Calls Try.prog 52 #[.slice a l.length c, .int .i64 n, .int .i64 o] w fun e w' => e = .returned (.tuple #[.int .i64 R.1, .int .i64 R.2]) ∧ ∃ k, w' = w.drewN k := by
  subst hR
  unfold quantS
  by_cases hb : o < 1 ∨ 1048576 < o ∨ n < 0 ∨ o < n
  · rw [if_pos hb]; exact dQuantBad a _ c n o w hb
  · rw [if_neg hb]
    by_cases h0 : l.length = 0
    · rw [if_pos h0, h0]
      have b1 : 1 ≤ o := by omega
      have b2 : o ≤ 1048576 := by omega
      have b3 : 0 ≤ n := by omega
      have b4 : n ≤ o := by omega
      clear hb h0 h hl
      go_enter Try.func52, Try.ntmps52
      go_wp2
      go_ret2
      exact ⟨rfl, 0, rfl⟩
    · rw [if_neg h0]
      exact dQuantIn a c l n o w h hl (by omega) (by omega) (by omega) (by omega) (by omega) _ rfl
end Go.Proofs.Ytjpmfaodkldobaa
