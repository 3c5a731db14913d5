/- Layer 14: ratios, and whether two are alike; prices. -/
import Derived.Test.YtflggmbgfdglcaaAO6
namespace Go.Proofs.Ytflggmbgfdglcaa
open Go.ChangeShapes Go.WideShapes Go.ChangeAt Go.RowKit
set_option linter.unusedVariables false
set_option linter.unusedSimpArgs false
set_option maxRecDepth 100000
open Ieee
theorem fmap_notN {d : Option Datum} {r : Nat} (hd : ∀ x, d = some x → x.isNaN = false) (h : d.map double.write = some r) : isN r = false := by
  cases d with
  | none => cases h
  | some x =>
    simp only [Option.map_some, Option.some.injEq] at h
    subst h
    have hx := hd x rfl
    unfold isN
    cases x with
    | nan s f => cases hx
    | infinity s =>
      show (double.read (double.word s double.infRung)).isNaN = false
      cases s <;> decide +kernel
    | number s m e =>
      show (double.read (double.nearest s m e)).isNaN = false
      unfold Format.nearest
      split
      · cases s <;> decide +kernel
      · have hle := Nat.min_le_right ((max (e + m.log2 - double.fractionBits) double.leastPlace - double.leastPlace).toNat * double.binade + Toward.even.cut s (m <<< (e - max (e + m.log2 - double.fractionBits) double.leastPlace).toNat) (max (e + m.log2 - double.fractionBits) double.leastPlace - e).toNat) double.infRung
        dsimp only
        generalize min _ double.infRung = r at hle ⊢
        rw [dbl_inf] at hle
        rw [read_word _ _ (by omega)]
        split
        · rfl
        · split
          · rfl
          · rw [if_pos (by omega)]; rfl
theorem quo_notN {x y r : Nat} (h : double.div x y = some r) : isN r = false := by
  refine fmap_notN (fun d hd => ?_) h
  cases hx : double.read x with
  | nan s f => rw [hx] at hd; simp [Datum.quotient] at hd
  | infinity s =>
    cases hy : double.read y with
    | nan s f => rw [hx, hy] at hd; simp [Datum.quotient] at hd
    | infinity t => rw [hx, hy] at hd; simp [Datum.quotient] at hd
    | number t n j => rw [hx, hy] at hd; simp [Datum.quotient] at hd; subst hd; rfl
  | number s m i =>
    cases hy : double.read y with
    | nan s f => rw [hx, hy] at hd; simp [Datum.quotient] at hd
    | infinity t => rw [hx, hy] at hd; simp [Datum.quotient] at hd; subst hd; rfl
    | number t n j =>
      rw [hx, hy] at hd
      unfold Datum.quotient at hd
      simp only at hd
      split at hd
      · split at hd
        · cases hd
        · cases hd; rfl
      · cases hd; rfl
theorem one_quo (r : Nat) (h : isN r = false) : ∃ q, double.div 4607182418800017408 r = some q := by
  unfold Format.div
  rw [show double.read 4607182418800017408 = .number false 4503599627370496 (-52) from one_read]
  unfold isN at h
  cases hr : double.read r with
  | nan s f => rw [hr] at h; cases h
  | infinity s => exact ⟨_, rfl⟩
  | number s m e =>
    unfold Datum.quotient
    simp only
    by_cases hm : m = 0
    · rw [if_pos hm, if_neg (by decide)]; exact ⟨_, rfl⟩
    · rw [if_neg hm]; exact ⟨_, rfl⟩
theorem quo_run {x y r : Nat} (h : double.div x y = some r) (W : World) : (binOp .quo 27 (.float .f64 x) (.float .f64 y)).run Try.prog W = .ok (.float .f64 r) W := run_float_arith W .quo _ .f64 x y r h
def nf (n : Int) : Nat := floatOfInt .f64 n
theorem cRatioS (a b : Int) (r : Nat) (h : double.div (nf a) (nf b) = some r) (w : World) : Calls Try.prog 13 #[.int .i64 a, .int .i64 b] w fun e w' => e = .returned (.float .f64 r) ∧ w' = w := by
  have hq : ∀ W, (binOp .quo 27 (.float .f64 (floatOfInt .f64 a)) (.float .f64 (floatOfInt .f64 b))).run Try.prog W = .ok (.float .f64 r) W := quo_run h
  go_enter Try.func13, Try.ntmps13
  go_wp2_with fail
  go_ret
  exact ⟨rfl, rfl⟩
theorem dRatioS (a b : Int) (r : Nat) (h : double.div (nf a) (nf b) = some r) (w : World) : Calls Try.prog 14 #[.int .i64 a, .int .i64 b] w fun e w' => e = .returned (.float .f64 r) ∧ w' = w := by
  have hq : ∀ W, (binOp .quo 27 (.float .f64 (floatOfInt .f64 a)) (.float .f64 (floatOfInt .f64 b))).run Try.prog W = .ok (.float .f64 r) W := quo_run h
  go_enter Try.func14, Try.ntmps14
  go_wp2_with fail
  go_ret
  exact ⟨rfl, rfl⟩
theorem cRatioN (a b : Int) (h : double.div (nf a) (nf b) = none) (w : World) : Calls Try.prog 13 #[.int .i64 a, .int .i64 b] w fun e w' => ∃ r, e = .returned (.float .f64 r) ∧ isN r = true ∧ w' = w.drew := by
  obtain ⟨r, hr, hq⟩ := quo_off w 27 (floatOfInt .f64 a) (floatOfInt .f64 b) h
  go_enter Try.func13, Try.ntmps13
  go_wp2_with fail
  go_ret
  exact ⟨_, rfl, hr, rfl⟩
theorem dRatioN (a b : Int) (h : double.div (nf a) (nf b) = none) (w : World) : Calls Try.prog 14 #[.int .i64 a, .int .i64 b] w fun e w' => ∃ r, e = .returned (.float .f64 r) ∧ isN r = true ∧ w' = w.drew := by
  obtain ⟨r, hr, hq⟩ := quo_off w 27 (floatOfInt .f64 a) (floatOfInt .f64 b) h
  go_enter Try.func14, Try.ntmps14
  go_wp2_with fail
  go_ret
  exact ⟨_, rfl, hr, rfl⟩
set_option maxHeartbeats 1600000 in
theorem dAlikeS (r : Nat) (h : isN r = false) (w : World) : Calls Try.prog 12 #[.float .f64 r, .float .f64 r] w fun e w' => e = .returned (.bool true) ∧ w' = w := by
  have h1 : (FloatKind.f64.format.order r r != some .eq) = false := by rw [← h]; exact (isN_iff r).symm
  have h2 : (FloatKind.f64.format.order r r == some .eq) = true := by
    have : double.order r r = some .eq := ord_self (fun s f e => by unfold isN at h; rw [e] at h; cases h)
    show (double.order r r == some .eq) = true
    rw [this]; rfl
  obtain ⟨q, hq⟩ := one_quo r h
  have hr := quo_run hq
  obtain ⟨Z, hZ⟩ : ∃ Z, (FloatKind.f64.format.order r 0 != some .eq) = Z := ⟨_, rfl⟩
  obtain ⟨G, hG⟩ : ∃ G, (FloatKind.f64.format.order q 0 == some .gt) = G := ⟨_, rfl⟩
  clear h hq
  cases Z with
  | true =>
    go_enter Try.func12, Try.ntmps12
    go_wp2_with fail
    go_ret
    exact ⟨rfl, rfl⟩
  | false =>
    go_enter Try.func12, Try.ntmps12
    go_wp2_with fail
    go_ret
    exact ⟨by simp, rfl⟩
set_option maxHeartbeats 1600000 in
theorem dAlikeN (a b : Nat) (ha : isN a = true) (hb : isN b = true) (w : World) : Calls Try.prog 12 #[.float .f64 a, .float .f64 b] w fun e w' => e = .returned (.bool true) ∧ w' = w := by
  have h1 : (FloatKind.f64.format.order a a != some .eq) = true := by rw [← ha]; exact (isN_iff a).symm
  have h2 : (FloatKind.f64.format.order b b != some .eq) = true := by rw [← hb]; exact (isN_iff b).symm
  clear ha hb
  go_enter Try.func12, Try.ntmps12
  go_wp2_with fail
  go_ret
  exact ⟨rfl, rfl⟩
def fineW (l : List Int) : Bool := l.all fun n => decide (0 ≤ n) && decide (n ≤ 1048576)
theorem fineW_bad {l : List Int} {k : Nat} (hk : k < l.length) (h : l.getD k 0 < 0 ∨ 1048576 < l.getD k 0) : fineW l = false := by
  rw [← Bool.not_eq_true]
  intro h2
  have := List.all_eq_true.1 h2 l[k] (List.getElem_mem hk)
  rw [List.getD_eq_getElem?_getD, List.getElem?_eq_getElem hk] at h
  simp at this h
  omega
theorem fineW_good {l : List Int} (h : ∀ k, k < l.length → 0 ≤ l.getD k 0 ∧ l.getD k 0 ≤ 1048576) : fineW l = true := by
  refine List.all_eq_true.2 fun x hx => ?_
  obtain ⟨k, hk, e⟩ := List.mem_iff_getElem.1 hx
  have := h k hk
  rw [List.getD_eq_getElem?_getD, List.getElem?_eq_getElem hk, e] at this
  simp at this
  simp [this]
theorem fineW_at {l : List Int} (h : fineW l = true) (k : Nat) (hk : k < l.length) : 0 ≤ l.getD k 0 ∧ l.getD k 0 ≤ 1048576 := by
  have := List.all_eq_true.1 h l[k] (List.getElem_mem hk)
  rw [List.getD_eq_getElem?_getD, List.getElem?_eq_getElem hk]
  simpa using this
set_option maxHeartbeats 1600000 in
theorem cPricesW (a : Option Addr) (c : Nat) (l : List Int) (w : World) (h : IsInts w a l) (hl : l.length ≤ 300) : Calls Try.prog 22 #[.slice a l.length c] w fun e w' => e = .returned (.bool (fineW l)) ∧ ∃ n, w' = w.drewN n := by
  obtain ⟨F, hF⟩ : ∃ F, fineW l = F := ⟨_, rfl⟩
  rw [hF]
  have HF := Lib.hid hF
  have HI := Lib.hid h
  clear h hF
  go_enter Try.func22, Try.ntmps22
  go_wp2_with fail
  go_loopw [7] (fun iv wr => ∃ k : Nat, k ≤ l.length ∧ iv = .int .i64 k ∧ Hid (∀ j, j < k → 0 ≤ l.getD j 0 ∧ l.getD j 0 ≤ 1048576) ∧ ∃ nd, wr = w.drewN nd) (fun iv _ => l.length - (intOf iv).toNat)
  case atStart => exact ⟨0, Nat.zero_le _, rfl, Lib.hid (fun j hj => by omega), 0, rfl⟩
  case round =>
    obtain ⟨k, hk, rfl, hall, nd, rfl⟩ := hrel
    by_cases hlt : k < l.length
    · obtain ⟨x, rfl, hxb, cx⟩ := HI.out.at k hlt
      have cs := cx k hlt
      have hki : (k : Int) < (l.length : Int) := by omega
      have hbad := fineW_bad (l := l) hlt
      have hnext : (0 ≤ l.getD k 0 ∧ l.getD k 0 ≤ 1048576) → ∀ j, j < k + 1 → 0 ≤ l.getD j 0 ∧ l.getD j 0 ≤ 1048576 := fun h j hj => by
        by_cases e : j = k
        · subst e; exact h
        · exact hall.out j (by omega)
      obtain ⟨X, hX⟩ : ∃ X, l.getD k 0 = X := ⟨_, rfl⟩
      rw [hX] at cs hbad hnext
      rw [HF.out] at hbad
      have HBAD := Lib.hid hbad
      have HNE := Lib.hid hnext
      clear cx hX hbad hnext
      by_cases h0 : X < 0
      · obtain rfl := HBAD.out (.inl h0)
        have d0 : decide (X < 0) = true := decide_eq_true h0
        go_wp2_with fail
        skip
        go_ret
        exact ⟨rfl, _, rfl⟩
      · by_cases h1 : 1048576 < X
        · obtain rfl := HBAD.out (.inr h1)
          have d0 : decide (X < 0) = false := decide_eq_false h0
          have d1 : decide (1048576 < X) = true := decide_eq_true h1
          go_wp2_with fail
          skip
          go_ret
          exact ⟨rfl, _, rfl⟩
        · have d0 : decide (X < 0) = false := decide_eq_false h0
          have d1 : decide (1048576 < X) = false := decide_eq_false h1
          have HN2 := Lib.hid (HNE.out ⟨by omega, by omega⟩)
          go_wp2_with fail
          skip
          go_roundw
          case rel => exact ⟨k + 1, by omega, by go_num, HN2, by first | exact ⟨_, rfl⟩ | exact ⟨_, World.drewN_drewN _ _ _⟩⟩
          case measure => simp [intOf]; omega
    · obtain rfl : k = l.length := by omega
      obtain rfl : F = true := by rw [← HF.out]; exact fineW_good hall.out
      have hki : ¬ (l.length : Int) < (l.length : Int) := by omega
      go_wp2_with fail
      go_ret
      exact ⟨rfl, _, rfl⟩
set_option maxHeartbeats 1600000 in
theorem dFineW (a : Option Addr) (c : Nat) (l : List Int) (w : World) (h : IsInts w a l) (hl : l.length ≤ 300) : Calls Try.prog 23 #[.slice a l.length c] w fun e w' => e = .returned (.bool (fineW l)) ∧ ∃ n, w' = w.drewN n := by
  obtain ⟨F, hF⟩ : ∃ F, fineW l = F := ⟨_, rfl⟩
  rw [hF]
  have HF := Lib.hid hF
  have HI := Lib.hid h
  clear h hF
  go_enter Try.func23, Try.ntmps23
  go_wp2_with fail
  go_loopw [3] (fun iv wr => ∃ k : Nat, k ≤ l.length ∧ iv = .int .i64 k ∧ Hid (∀ j, j < k → 0 ≤ l.getD j 0 ∧ l.getD j 0 ≤ 1048576) ∧ ∃ nd, wr = w.drewN nd) (fun iv _ => l.length - (intOf iv).toNat)
  case atStart => exact ⟨0, Nat.zero_le _, rfl, Lib.hid (fun j hj => by omega), 0, rfl⟩
  case round =>
    obtain ⟨k, hk, rfl, hall, nd, rfl⟩ := hrel
    by_cases hlt : k < l.length
    · obtain ⟨x, rfl, hxb, cx⟩ := HI.out.at k hlt
      have cs := cx k hlt
      have hki : (k : Int) < (l.length : Int) := by omega
      have hbad := fineW_bad (l := l) hlt
      have hnext : (0 ≤ l.getD k 0 ∧ l.getD k 0 ≤ 1048576) → ∀ j, j < k + 1 → 0 ≤ l.getD j 0 ∧ l.getD j 0 ≤ 1048576 := fun h j hj => by
        by_cases e : j = k
        · subst e; exact h
        · exact hall.out j (by omega)
      obtain ⟨X, hX⟩ : ∃ X, l.getD k 0 = X := ⟨_, rfl⟩
      rw [hX] at cs hbad hnext
      rw [HF.out] at hbad
      have HBAD := Lib.hid hbad
      have HNE := Lib.hid hnext
      clear cx hX hbad hnext
      by_cases h0 : X < 0
      · obtain rfl := HBAD.out (.inl h0)
        have d0 : decide (X < 0) = true := decide_eq_true h0
        go_wp2_with fail
        skip
        go_ret
        exact ⟨rfl, _, rfl⟩
      · by_cases h1 : 1048576 < X
        · obtain rfl := HBAD.out (.inr h1)
          have d0 : decide (X < 0) = false := decide_eq_false h0
          have d1 : decide (1048576 < X) = true := decide_eq_true h1
          go_wp2_with fail
          skip
          go_ret
          exact ⟨rfl, _, rfl⟩
        · have d0 : decide (X < 0) = false := decide_eq_false h0
          have d1 : decide (1048576 < X) = false := decide_eq_false h1
          have HN2 := Lib.hid (HNE.out ⟨by omega, by omega⟩)
          go_wp2_with fail
          skip
          go_roundw
          case rel => exact ⟨k + 1, by omega, by go_num, HN2, by first | exact ⟨_, rfl⟩ | exact ⟨_, World.drewN_drewN _ _ _⟩⟩
          case measure => simp [intOf]; omega
    · obtain rfl : k = l.length := by omega
      obtain rfl : F = true := by rw [← HF.out]; exact fineW_good hall.out
      have hki : ¬ (l.length : Int) < (l.length : Int) := by omega
      go_wp2_with fail
      go_ret
      exact ⟨rfl, _, rfl⟩
end Go.Proofs.Ytflggmbgfdglcaa
