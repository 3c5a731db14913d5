import Derived.Test.YtmhjmoeeahepaaaGreatPP23
import Derived.Test.YtmhjmoeeahepaaaGreatPP22
import Derived.Test.YtmhjmoeeahepaaaGreatPP18
import Derived.Test.YtmhjmoeeahepaaaGreatPP07
import Derived.Test.YtmhjmoeeahepaaaGreatPP12
/- Layer 15, carried over: LenOf, DistOf. -/
namespace Go.Proofs.YtmhjmoeeahepaaaGreat.Slo
open Go.ChangeShapes Go.WideShapes Go.ChangeAt Go.RowKit
set_option linter.unusedVariables false
set_option linter.unusedSimpArgs false
set_option maxRecDepth 100000
theorem firstL_facts : ∀ s : Fin 28, 8 ≤ s.val → exD 0 = 0 ∧ exL s.val = s.val / 4 - 1 ∧ tbL s.val = 2 + (s.val - 4 * (s.val / 4 - 1)) * 2 ^ (s.val / 4 - 1) := by decide +kernel
theorem smallL_facts : ∀ s : Fin 8, exL s.val = 0 ∧ tbL s.val = 2 + s.val := by decide +kernel
set_option maxHeartbeats 800000 in
theorem firstL_any (s : Nat) (hs : s < 28) (w : World) :
    Calls Tryz.prog 127 #[.int .i64 s, .int .i64 8, .int .i64 4] w fun e w' => e = .returned (.tuple #[.int .i64 (tbL s - 2 : Nat), .int .i64 (exL s)]) ∧ Below w.heap.size w w' := by
  by_cases h : s < 8
  · have hf := smallL_facts ⟨s, h⟩
    simp only at hf
    rw [hf.1, hf.2, show 2 + s - 2 = s by omega]
    clear hf
    go_enter Tryz.func127, Tryz.ntmps127
    go_wp2
    go_ret2
    exact ⟨rfl, Below.refl _ _⟩
  · have hf := firstL_facts ⟨s, hs⟩ (by simp only; omega)
    simp only at hf
    have ht := (tbL_bd s (by omega)).1
    obtain ⟨F, hF⟩ : ∃ F, (s - 4 * (s / 4 - 1)) * 2 ^ (s / 4 - 1) = F := ⟨_, rfl⟩
    rw [hF] at hf
    rw [hf.2.1, hf.2.2, show 2 + F - 2 = F by omega]
    rw [hf.2.2] at ht
    obtain ⟨q, hq⟩ : ∃ q, s / 4 = q + 1 := ⟨s / 4 - 1, by omega⟩
    rw [hq, show q + 1 - 1 = q by omega] at hF ⊢
    have hqi : (s : Int) / 4 = (q : Int) + 1 := by omega
    have e1 : ((s : Int) - 4 * (q : Int)) * 2 ^ q = (F : Int) := by
      rw [← hF, Int.natCast_mul, pow_cast, Int.ofNat_sub (by omega), Int.natCast_mul]; rfl
    have e2 : 0 ≤ ((s : Int) - 4 * (q : Int)) * 2 ^ q := by rw [e1]; omega
    have e3 : ((s : Int) - 4 * (q : Int)) * 2 ^ q ≤ 200000000 := by rw [e1]; omega
    have E1 := Lib.hid e1
    clear hf hF e1 hq
    go_enter Tryz.func127, Tryz.ntmps127
    go_wp2_with fail
    (try go_quiet (fail))
    go_wp2
    go_ret2
    exact ⟨ret2_i E1.out rfl, by first | exact Below.refl _ _ | exact below_drewN (Below.refl _ _) _⟩

theorem firstD_facts : ∀ s : Fin 52, 4 ≤ s.val → exD 0 = 0 ∧ exD s.val = s.val / 2 - 1 ∧ tbD s.val = 1 + (s.val - 2 * (s.val / 2 - 1)) * 2 ^ (s.val / 2 - 1) := by decide +kernel
theorem smallD_facts : ∀ s : Fin 4, exD s.val = 0 ∧ tbD s.val = 1 + s.val := by decide +kernel
set_option maxHeartbeats 800000 in
theorem firstD_any (s : Nat) (hs : s < 52) (w : World) :
    Calls Tryz.prog 127 #[.int .i64 s, .int .i64 4, .int .i64 2] w fun e w' => e = .returned (.tuple #[.int .i64 (tbD s - 1 : Nat), .int .i64 (exD s)]) ∧ Below w.heap.size w w' := by
  by_cases h : s < 4
  · have hf := smallD_facts ⟨s, h⟩
    simp only at hf
    rw [hf.1, hf.2, show 1 + s - 1 = s by omega]
    clear hf
    go_enter Tryz.func127, Tryz.ntmps127
    go_wp2
    go_ret2
    exact ⟨rfl, Below.refl _ _⟩
  · have hf := firstD_facts ⟨s, hs⟩ (by simp only; omega)
    simp only at hf
    have ht := (tbD_bd s (by omega)).1
    obtain ⟨F, hF⟩ : ∃ F, (s - 2 * (s / 2 - 1)) * 2 ^ (s / 2 - 1) = F := ⟨_, rfl⟩
    rw [hF] at hf
    rw [hf.2.1, hf.2.2, show 1 + F - 1 = F by omega]
    rw [hf.2.2] at ht
    obtain ⟨q, hq⟩ : ∃ q, s / 2 = q + 1 := ⟨s / 2 - 1, by omega⟩
    rw [hq, show q + 1 - 1 = q by omega] at hF ⊢
    have hqi : (s : Int) / 2 = (q : Int) + 1 := by omega
    have e1 : ((s : Int) - 2 * (q : Int)) * 2 ^ q = (F : Int) := by
      rw [← hF, Int.natCast_mul, pow_cast, Int.ofNat_sub (by omega), Int.natCast_mul]; rfl
    have e2 : 0 ≤ ((s : Int) - 2 * (q : Int)) * 2 ^ q := by rw [e1]; omega
    have e3 : ((s : Int) - 2 * (q : Int)) * 2 ^ q ≤ 200000000 := by rw [e1]; omega
    have E1 := Lib.hid e1
    clear hf hF e1 hq
    go_enter Tryz.func127, Tryz.ntmps127
    go_wp2_with fail
    (try go_quiet (fail))
    go_wp2
    go_ret2
    exact ⟨ret2_i E1.out rfl, by first | exact Below.refl _ _ | exact below_drewN (Below.refl _ _) _⟩

theorem leastL : ∀ s : Fin 28, 2 ≤ tbL s.val := by decide
theorem wideL_bd : ∀ s : Fin 53, 1 ≤ wideL s.val ∧ wideL s.val ≤ 1073741824 := by decide +kernel
set_option maxHeartbeats 800000 in
theorem numberL_any (s : Nat) (m : Int) (hs : s < 28) (w : World) :
    Calls Tryz.prog 112 #[.int .i64 s, .int .i64 m, .int .i64 8, .int .i64 4, .int .i64 2] w fun e w' =>
      e = .returned (.tuple #[.int .i64 (if 0 ≤ m ∧ m < wideL s then (tbL s : Int) + m else 0), .int .i64 (if 0 ≤ m ∧ m < wideL s then 0 else 2)]) ∧ Below w.heap.size w w' := by
  have C := Lib.hid (firstL_any s hs)
  have hl := leastL ⟨s, by omega⟩
  obtain ⟨ht, hx30⟩ := tbL_bd s (by omega)
  have hw := wideL_bd ⟨s, by omega⟩
  simp only at hl hw
  have hpw : (2 : Int) ^ exL s = ((wideL s : Nat) : Int) := by rw [← pow_cast]; rfl
  obtain ⟨x, hx⟩ : ∃ x, exL s = x := ⟨_, rfl⟩
  obtain ⟨T, hT⟩ : ∃ T, tbL s = T := ⟨_, rfl⟩
  obtain ⟨W, hW⟩ : ∃ W, wideL s = W := ⟨_, rfl⟩
  rw [hx, hT] at C; rw [hx, hW] at hpw; rw [hx] at hx30; rw [hT] at hl ht ⊢; rw [hW] at hw ⊢
  have hx0 : (1 : Int) ≤ 2 ^ x := by rw [hpw]; omega
  have hx1 : (2 : Int) ^ x ≤ 1073741824 := by rw [hpw]; omega
  obtain ⟨F, rfl⟩ : ∃ F, T = F + 2 := ⟨T - 2, by omega⟩
  rw [show F + 2 - 2 = F by omega] at C
  have HP := Lib.hid hpw
  clear hw hT hx hW
  by_cases h : 0 ≤ m ∧ m < W
  · rw [if_pos h, if_pos h]
    obtain ⟨h0, h1⟩ := h
    have h2 : m < 2 ^ x := by rw [HP.out]; exact h1
    have h3 : ¬ m < 0 := by omega
    have h4 : m ≤ 2000000000 := by omega
    clear h1 hpw
    go_enter Tryz.func112, Tryz.ntmps112
    go_wp2_with fail
    refine (C.out _).mono ?_; rintro e w1 ⟨rfl, hb1⟩
    go_wp2
    go_ret2
    exact ⟨ret2_i (by omega) rfl, hb1⟩
  · rw [if_neg h, if_neg h]
    by_cases h0 : m < 0
    · clear h hpw
      go_enter Tryz.func112, Tryz.ntmps112
      go_wp2_with fail
      refine (C.out _).mono ?_; rintro e w1 ⟨rfl, hb1⟩
      go_wp2
      go_ret2
      exact ⟨rfl, hb1⟩
    · have h2 : (2 : Int) ^ x ≤ m := by rw [HP.out]; omega
      clear h hpw
      go_enter Tryz.func112, Tryz.ntmps112
      go_wp2_with fail
      refine (C.out _).mono ?_; rintro e w1 ⟨rfl, hb1⟩
      go_wp2
      go_ret2
      exact ⟨rfl, hb1⟩

theorem leastD : ∀ s : Fin 52, 1 ≤ tbD s.val := by decide
theorem wideD_bd : ∀ s : Fin 53, 1 ≤ wideD s.val ∧ wideD s.val ≤ 1073741824 := by decide +kernel
set_option maxHeartbeats 800000 in
theorem numberD_any (s : Nat) (m : Int) (hs : s < 52) (w : World) :
    Calls Tryz.prog 112 #[.int .i64 s, .int .i64 m, .int .i64 4, .int .i64 2, .int .i64 1] w fun e w' =>
      e = .returned (.tuple #[.int .i64 (if 0 ≤ m ∧ m < wideD s then (tbD s : Int) + m else 0), .int .i64 (if 0 ≤ m ∧ m < wideD s then 0 else 2)]) ∧ Below w.heap.size w w' := by
  have C := Lib.hid (firstD_any s hs)
  have hl := leastD ⟨s, by omega⟩
  obtain ⟨ht, hx30⟩ := tbD_bd s (by omega)
  have hw := wideD_bd ⟨s, by omega⟩
  simp only at hl hw
  have hpw : (2 : Int) ^ exD s = ((wideD s : Nat) : Int) := by rw [← pow_cast]; rfl
  obtain ⟨x, hx⟩ : ∃ x, exD s = x := ⟨_, rfl⟩
  obtain ⟨T, hT⟩ : ∃ T, tbD s = T := ⟨_, rfl⟩
  obtain ⟨W, hW⟩ : ∃ W, wideD s = W := ⟨_, rfl⟩
  rw [hx, hT] at C; rw [hx, hW] at hpw; rw [hx] at hx30; rw [hT] at hl ht ⊢; rw [hW] at hw ⊢
  have hx0 : (1 : Int) ≤ 2 ^ x := by rw [hpw]; omega
  have hx1 : (2 : Int) ^ x ≤ 1073741824 := by rw [hpw]; omega
  obtain ⟨F, rfl⟩ : ∃ F, T = F + 1 := ⟨T - 1, by omega⟩
  rw [show F + 1 - 1 = F by omega] at C
  have HP := Lib.hid hpw
  clear hw hT hx hW
  by_cases h : 0 ≤ m ∧ m < W
  · rw [if_pos h, if_pos h]
    obtain ⟨h0, h1⟩ := h
    have h2 : m < 2 ^ x := by rw [HP.out]; exact h1
    have h3 : ¬ m < 0 := by omega
    have h4 : m ≤ 2000000000 := by omega
    clear h1 hpw
    go_enter Tryz.func112, Tryz.ntmps112
    go_wp2_with fail
    refine (C.out _).mono ?_; rintro e w1 ⟨rfl, hb1⟩
    go_wp2
    go_ret2
    exact ⟨ret2_i (by omega) rfl, hb1⟩
  · rw [if_neg h, if_neg h]
    by_cases h0 : m < 0
    · clear h hpw
      go_enter Tryz.func112, Tryz.ntmps112
      go_wp2_with fail
      refine (C.out _).mono ?_; rintro e w1 ⟨rfl, hb1⟩
      go_wp2
      go_ret2
      exact ⟨rfl, hb1⟩
    · have h2 : (2 : Int) ^ x ≤ m := by rw [HP.out]; omega
      clear h hpw
      go_enter Tryz.func112, Tryz.ntmps112
      go_wp2_with fail
      refine (C.out _).mono ?_; rintro e w1 ⟨rfl, hb1⟩
      go_wp2
      go_ret2
      exact ⟨rfl, hb1⟩
set_option maxHeartbeats 800000 in
theorem LenOf_in (s : Nat) (m : Int) (hs : s ≤ 28) (w : World) :
    Calls Tryz.prog 87 #[.int .i64 s, .int .i64 m] w fun e w' =>
      e = .returned (.tuple #[.int .i64 (if 0 ≤ m ∧ m < wideL s then (tbL s : Int) + m else 0), .int .i64 (if 0 ≤ m ∧ m < wideL s then 0 else 2)]) ∧ Below w.heap.size w w' := by
  by_cases h28 : s = 28
  · subst h28
    rw [show wideL 28 = 1 from by decide, show tbL 28 = 258 from by decide]
    by_cases hm : m = 0
    · subst hm
      go_enter Tryz.func87, Tryz.ntmps87
      go_wp2
      go_ret2
      exact ⟨rfl, Below.refl _ _⟩
    · have hb : (m == 0) = false := by rw [beq_eq_false_iff_ne]; exact hm
      have hn : ¬ (0 ≤ m ∧ m < ((1 : Nat) : Int)) := by omega
      rw [if_neg hn, if_neg hn]
      clear hn
      go_enter Tryz.func87, Tryz.ntmps87
      go_wp2
      go_ret2
      exact ⟨rfl, Below.refl _ _⟩
  · have hb : ((s : Int) == 28) = false := by rw [beq_eq_false_iff_ne]; omega
    have hs2 : s < 28 := by omega
    have C := Lib.hid (numberL_any s m hs2)
    obtain ⟨A, hA⟩ : ∃ A, (if 0 ≤ m ∧ m < wideL s then (tbL s : Int) + m else 0) = A := ⟨_, rfl⟩
    obtain ⟨B, hB⟩ : ∃ B : Int, (if 0 ≤ m ∧ m < wideL s then (0 : Int) else 2) = B := ⟨_, rfl⟩
    rw [hA, hB] at C ⊢
    clear hA hB
    go_enter Tryz.func87, Tryz.ntmps87
    go_wp2_with fail
    refine (C.out _).mono ?_; rintro e w1 ⟨rfl, hb1⟩
    go_wp2
    go_ret2
    exact ⟨rfl, hb1⟩

set_option maxHeartbeats 800000 in
theorem DistOf_in (s : Nat) (m : Int) (hs : s ≤ 51) (w : World) :
    Calls Tryz.prog 89 #[.int .i64 s, .int .i64 m] w fun e w' =>
      e = .returned (.tuple #[.int .i64 (if 0 ≤ m ∧ m < wideD s then (tbD s : Int) + m else 0), .int .i64 (if 0 ≤ m ∧ m < wideD s then 0 else 2)]) ∧ Below w.heap.size w w' := by
  have hs2 : s < 52 := by omega
  have C := Lib.hid (numberD_any s m hs2)
  obtain ⟨A, hA⟩ : ∃ A, (if 0 ≤ m ∧ m < wideD s then (tbD s : Int) + m else 0) = A := ⟨_, rfl⟩
  obtain ⟨B, hB⟩ : ∃ B : Int, (if 0 ≤ m ∧ m < wideD s then (0 : Int) else 2) = B := ⟨_, rfl⟩
  rw [hA, hB] at C ⊢
  clear hA hB
  go_enter Tryz.func89, Tryz.ntmps89
  go_wp2_with fail
  refine (C.out _).mono ?_; rintro e w1 ⟨rfl, hb1⟩
  go_wp2
  go_ret2
  exact ⟨rfl, hb1⟩


end Go.Proofs.YtmhjmoeeahepaaaGreat.Slo

/- Layer 16, carried over: Size, Of. -/
namespace Go.Proofs.YtmhjmoeeahepaaaGreat.Tok
open Go.ChangeShapes Go.WideShapes Go.ChangeAt Go.RowKit
set_option linter.unusedVariables false
set_option linter.unusedSimpArgs false
set_option maxRecDepth 100000
set_option maxHeartbeats 800000 in
theorem size_any (k b l d r : Int) (w : World) :
    Calls Tryz.prog 59 #[.agg #[.int .i64 k, .int .i64 b, .int .i64 l, .int .i64 d, .int .i64 r]] w fun e w' => e = .returned (.int .i64 (szTok k b l d r)) ∧ Below w.heap.size w w' := by
  have C := Lib.hid (check_any k b l d r)
  by_cases h : OkTok k b l d r
  · have e1 : chk k b l d r = 0 := (chk_yes h).symm
    rw [e1] at C
    clear e1
    by_cases k0 : k = 0
    · subst k0
      have e2 : szTok 0 b l d r = 1 := by unfold szTok; rw [if_pos h, if_pos rfl]
      rw [e2]; clear e2 h
      go_enter Tryz.func59, Tryz.ntmps59
      go_wp2_with fail
      refine (C.out _).mono ?_; rintro e w1 ⟨rfl, hb1⟩
      obtain ⟨⟨q0, q1, q2⟩, q3, q4⟩ := boxed5 hb1
      have hlt : w.heap.size < w1.heap.size := by have := hb1.size; simp at this; omega
      have hbb := below_box hb1
      clear hb1
      go_wp2
      go_ret
      exact ⟨rfl, hbb⟩
    · skip
      by_cases k1 : k = 1
      · subst k1
        have e2 : szTok 1 b l d r = l := by unfold szTok; rw [if_pos h, if_neg (by decide)]
        rw [e2]; clear e2 h
        go_enter Tryz.func59, Tryz.ntmps59
        go_wp2_with fail
        refine (C.out _).mono ?_; rintro e w1 ⟨rfl, hb1⟩
        obtain ⟨⟨q0, q1, q2⟩, q3, q4⟩ := boxed5 hb1
        have hlt : w.heap.size < w1.heap.size := by have := hb1.size; simp at this; omega
        have hbb := below_box hb1
        clear hb1
        go_wp2
        go_ret
        exact ⟨rfl, hbb⟩
      · skip
        obtain rfl : k = 2 := by unfold OkTok at h; omega
        have e2 : szTok 2 b l d r = l := by unfold szTok; rw [if_pos h, if_neg (by decide)]
        rw [e2]; clear e2 h
        go_enter Tryz.func59, Tryz.ntmps59
        go_wp2_with fail
        refine (C.out _).mono ?_; rintro e w1 ⟨rfl, hb1⟩
        obtain ⟨⟨q0, q1, q2⟩, q3, q4⟩ := boxed5 hb1
        have hlt : w.heap.size < w1.heap.size := by have := hb1.size; simp at this; omega
        have hbb := below_box hb1
        clear hb1
        go_wp2
        go_ret
        exact ⟨rfl, hbb⟩
  · have e1 : chk k b l d r = 10 := (chk_no h).symm
    have e2 : szTok k b l d r = 0 := if_neg h
    rw [e1] at C
    rw [e2]; clear e1 e2 h
    go_enter Tryz.func59, Tryz.ntmps59
    go_wp2_with fail
    refine (C.out _).mono ?_; rintro e w1 ⟨rfl, hb1⟩
    have hbb := below_box hb1
    clear hb1
    go_wp2
    go_ret
    exact ⟨rfl, hbb⟩

/-- What a symbol is. -/
def ofK (s : Int) : Int := if s < 0 ∨ 400 < s then 0 else if s < 256 then 0 else if s < 285 then 1 else 2
def ofB (s : Int) : Int := if s < 0 ∨ 400 < s then 0 else if s < 256 then s else 0
def ofR (s : Int) : Int := if s < 0 ∨ 400 < s then 0 else if s < 285 then 0 else (s - 285) / 29
def ofS (s : Int) : Int := if s < 0 ∨ 400 < s then 0 else if s < 256 then 0 else if s < 285 then s - 256 else (s - 285) % 29
def ofE (s : Int) : Int := if s < 0 ∨ 400 < s then 2 else 0
theorem ret5_i {a b c d e a' b' c' d' e' : Int} (h1 : a = a') (h2 : b = b') (h3 : c = c') (h4 : d = d') (h5 : e = e') : Ending.returned (.tuple #[.int .i64 a, .int .i64 b, .int .i64 c, .int .i64 d, .int .i64 e]) = .returned (.tuple #[.int .i64 a', .int .i64 b', .int .i64 c', .int .i64 d', .int .i64 e']) := by rw [h1, h2, h3, h4, h5]

set_option maxHeartbeats 800000 in
theorem Of_any (s : Int) (w : World) : Calls Tryz.prog 83 #[.int .i64 s] w fun e w' =>
    e = .returned (.tuple #[.int .i64 (ofK s), .int .i64 (ofB s), .int .i64 (ofR s), .int .i64 (ofS s), .int .i64 (ofE s)]) ∧ w = w' := by
  by_cases h1 : s < 0
  · go_enter Tryz.func83, Tryz.ntmps83
    go_wp2
    exact bodyPost_ret (v := .tuple #[.int .i64 0, .int .i64 0, .int .i64 0, .int .i64 0, .int .i64 2]) (by simp [results, Tryz.results26, go_sem]) rfl ⟨ret5_i (by unfold ofK; rw [if_pos (.inl h1)]) (by unfold ofB; rw [if_pos (.inl h1)]) (by unfold ofR; rw [if_pos (.inl h1)]) (by unfold ofS; rw [if_pos (.inl h1)]) (by unfold ofE; rw [if_pos (.inl h1)]), rfl⟩
  · by_cases h2 : 400 < s
    · go_enter Tryz.func83, Tryz.ntmps83
      go_wp2
      exact bodyPost_ret (v := .tuple #[.int .i64 0, .int .i64 0, .int .i64 0, .int .i64 0, .int .i64 2]) (by simp [results, Tryz.results26, go_sem]) rfl ⟨ret5_i (by unfold ofK; rw [if_pos (.inr h2)]) (by unfold ofB; rw [if_pos (.inr h2)]) (by unfold ofR; rw [if_pos (.inr h2)]) (by unfold ofS; rw [if_pos (.inr h2)]) (by unfold ofE; rw [if_pos (.inr h2)]), rfl⟩
    · have hn : ¬ (s < 0 ∨ 400 < s) := by omega
      by_cases h3 : s < 256
      · have h4 : s < 285 := by omega
        have e1 : ofK s = 0 := by unfold ofK; rw [if_neg hn, if_pos h3]
        have e2 : ofB s = s := by unfold ofB; rw [if_neg hn, if_pos h3]
        have e3 : ofR s = 0 := by unfold ofR; rw [if_neg hn, if_pos h4]
        have e4 : ofS s = 0 := by unfold ofS; rw [if_neg hn, if_pos h3]
        have e5 : ofE s = 0 := by unfold ofE; rw [if_neg hn]
        rw [e1, e2, e3, e4, e5]; clear e1 e2 e3 e4 e5 hn
        go_enter Tryz.func83, Tryz.ntmps83
        go_wp2
        exact bodyPost_ret (v := .tuple #[.int .i64 0, .int .i64 s, .int .i64 0, .int .i64 0, .int .i64 0]) (by simp [results, Tryz.results26, go_sem]) rfl ⟨rfl, rfl⟩
      · by_cases h4 : s < 285
        · have e1 : ofK s = 1 := by unfold ofK; rw [if_neg hn, if_neg h3, if_pos h4]
          have e2 : ofB s = 0 := by unfold ofB; rw [if_neg hn, if_neg h3]
          have e3 : ofR s = 0 := by unfold ofR; rw [if_neg hn, if_pos h4]
          have e4 : ofS s = s - 256 := by unfold ofS; rw [if_neg hn, if_neg h3, if_pos h4]
          have e5 : ofE s = 0 := by unfold ofE; rw [if_neg hn]
          rw [e1, e2, e3, e4, e5]; clear e1 e2 e3 e4 e5 hn
          go_enter Tryz.func83, Tryz.ntmps83
          go_wp2
          exact bodyPost_ret (v := .tuple #[.int .i64 1, .int .i64 0, .int .i64 0, .int .i64 (s - 256), .int .i64 0]) (by simp [results, Tryz.results26, go_sem]) rfl ⟨rfl, rfl⟩
        · have e1 : ofK s = 2 := by unfold ofK; rw [if_neg hn, if_neg h3, if_neg h4]
          have e2 : ofB s = 0 := by unfold ofB; rw [if_neg hn, if_neg h3]
          have e3 : ofR s = (s - 285) / 29 := by unfold ofR; rw [if_neg hn, if_neg h4]
          have e4 : ofS s = (s - 285) % 29 := by unfold ofS; rw [if_neg hn, if_neg h3, if_neg h4]
          have e5 : ofE s = 0 := by unfold ofE; rw [if_neg hn]
          rw [e1, e2, e3, e4, e5]; clear e1 e2 e3 e4 e5 hn
          go_enter Tryz.func83, Tryz.ntmps83
          go_wp2
          exact bodyPost_ret (v := .tuple #[.int .i64 2, .int .i64 0, .int .i64 ((s - 285) / 29), .int .i64 ((s - 285) % 29), .int .i64 0]) (by simp [results, Tryz.results26, go_sem]) rfl ⟨rfl, rfl⟩


end Go.Proofs.YtmhjmoeeahepaaaGreat.Tok

/- Layer 11: the mathematics of codes by two tables: what is looked up is what one table says. -/
namespace Go.Proofs.YtmhjmoeeahepaaaGreat.Two
set_option linter.unusedVariables false
set_option maxRecDepth 100000
open KraftMath CanonMath TurnMath Bits
/-- An entry: symbol, bits, far, from. -/
abbrev Ent := Int × Int × Bool × Int
def z0 : Ent := (0, 0, false, 0)
def look (short long : List Ent) (root w : Nat) : Int × Int :=
  let e := short.getD (w % 2 ^ root) z0
  let f := if e.2.2.1 = true then long.getD (e.2.2.2.toNat + w / 2 ^ root) z0 else e
  (f.1, f.2.1)
abbrev TT (l : List Int) (s : Nat) : Nat := turn (code l s) (len l s)
def fillE (tab : List Ent) (T q : Nat) (e : Ent) : List Ent := (List.range tab.length).map fun v => if v % q = T then e else tab.getD v z0
def segF (tab : List Ent) (base sz T q : Nat) (e : Ent) : List Ent := (List.range tab.length).map fun v => if base ≤ v ∧ v < base + sz ∧ (v - base) % q = T then e else tab.getD v z0
theorem fillE_len (tab : List Ent) (T q : Nat) (e : Ent) : (fillE tab T q e).length = tab.length := by simp [fillE]
theorem segF_len (tab : List Ent) (b sz T q : Nat) (e : Ent) : (segF tab b sz T q e).length = tab.length := by simp [segF]
theorem fillE_get (tab : List Ent) (T q : Nat) (e : Ent) (v : Nat) (h : v < tab.length) : (fillE tab T q e).getD v z0 = if v % q = T then e else tab.getD v z0 := by
  simp [fillE, List.getD_eq_getElem?_getD, h]
theorem segF_get (tab : List Ent) (b sz T q : Nat) (e : Ent) (v : Nat) (h : v < tab.length) : (segF tab b sz T q e).getD v z0 = if b ≤ v ∧ v < b + sz ∧ (v - b) % q = T then e else tab.getD v z0 := by
  simp [segF, List.getD_eq_getElem?_getD, h]
/-- No code begins another one. -/
theorem pf {l : List Int} (h : check l 16 = 0) {L s k : Nat} (hs : s < l.length) (hk : k < l.length) (hs0 : len l s ≠ 0) (hk0 : len l k ≠ 0) (hsL : len l s ≤ L) (hkL : len l k ≤ L) (hne : s ≠ k) (hle : len l k ≤ len l s) : TT l s % 2 ^ len l k ≠ TT l k := by
  intro e
  have h1 : Hit l (bitsOf (TT l s) L) s := (hitAt_iff hs).1 (by rw [hitAt_mod hsL, Nat.mod_eq_of_lt (turn_lt _ _)]; simp [hs0])
  have h2 : Hit l (bitsOf (TT l s) L) k := (hitAt_iff hk).1 (by rw [hitAt_mod hkL, e]; simp [hk0])
  exact hne (hit_one h h1 h2)
theorem seg_in (j SZ x : Nat) (hx : x < SZ) : j * SZ ≤ j * SZ + x ∧ j * SZ + x < j * SZ + SZ := ⟨by omega, by omega⟩
theorem seg_out (i j SZ x : Nat) (hx : x < SZ) (h : j ≠ i) : ¬ (i * SZ ≤ j * SZ + x ∧ j * SZ + x < i * SZ + SZ) := by
  rintro ⟨a, b⟩
  rcases Nat.lt_or_gt_of_ne h with hl | hg
  · have : (j + 1) * SZ ≤ i * SZ := Nat.mul_le_mul_right _ hl
    rw [Nat.add_mul, Nat.one_mul] at this
    omega
  · have : (i + 1) * SZ ≤ j * SZ := Nat.mul_le_mul_right _ hg
    rw [Nat.add_mul, Nat.one_mul] at this
    omega
structure Two (l : List Int) (L root k : Nat) (short long : List Ent) (hs : List Nat) : Prop where
  ls : short.length = 2 ^ root
  ll : long.length = hs.length * 2 ^ (L - root)
  nd : hs.Nodup
  lt : ∀ h ∈ hs, h < 2 ^ root
  nf : ∀ h, h < 2 ^ root → ¬ h ∈ hs → (short.getD h z0).2.2.1 = false
  fr : ∀ i (hi : i < hs.length), short.getD hs[i] z0 = (0, 0, true, ((i * 2 ^ (L - root) : Nat) : Int))
  lk : ∀ w, w < 2 ^ L → look short long root w = (((entK l L k w).1 : Int), ((entK l L k w).2 : Int))
  hd1 : ∀ s, s < k → root < len l s → TT l s % 2 ^ root ∈ hs
  hd2 : ∀ h ∈ hs, ∃ s, s < l.length ∧ root < len l s ∧ TT l s % 2 ^ root = h
section
variable {l : List Int} {L root k : Nat} {short long : List Ent} {hs : List Nat}
theorem two_zero (hr : root ≤ L) : Two l L root 0 (List.replicate (2 ^ root) z0) [] [] where
  ls := by simp
  ll := by simp
  nd := by simp
  lt := by simp
  nf := fun h hh _ => by simp [List.getD_eq_getElem?_getD, hh, z0]
  fr := fun i hi => by simp at hi
  lk := fun w hw => by
    have : w % 2 ^ root < 2 ^ root := Nat.mod_lt _ (Nat.pow_pos (by decide))
    simp [look, List.getD_eq_getElem?_getD, this, z0, entK]
  hd1 := fun s hs _ => by omega
  hd2 := by simp
theorem ent_step (h : check l 16 = 0) (hk : k < l.length) (hL : len l k ≤ L) (w : Nat) : entK l L (k + 1) w = if len l k ≠ 0 ∧ w % 2 ^ len l k = TT l k then (k, len l k) else entK l L k w := by
  rw [entK_succ h hk, hitAt_mod hL]
  by_cases h1 : len l k ≠ 0 <;> by_cases h2 : w % 2 ^ len l k = TT l k <;> simp [h1, h2]
theorem two_skip (t : Two l L root k short long hs) (h : check l 16 = 0) (hk : k < l.length) (h0 : len l k = 0) : Two l L root (k + 1) short long hs where
  ls := t.ls
  ll := t.ll
  nd := t.nd
  lt := t.lt
  nf := t.nf
  fr := t.fr
  lk := fun w hw => by rw [ent_step h hk (by omega), if_neg (by omega)]; exact t.lk w hw
  hd1 := fun s hs hr => by
    by_cases e : s = k
    · subst e; omega
    · exact t.hd1 s (by omega) hr
  hd2 := t.hd2
theorem mod_mod {w a b : Nat} (h : b ≤ a) : w % 2 ^ a % 2 ^ b = w % 2 ^ b := Nat.mod_mod_of_dvd w (Nat.pow_dvd_pow 2 h)
/-- A code that the first table has room for. -/
theorem two_short (t : Two l L root k short long hs) (h : check l 16 = 0) (hall : ∀ s, s < l.length → len l s ≤ L) (hk : k < l.length) (h0 : len l k ≠ 0) (hn : len l k ≤ root) (hr : root ≤ L) :
    Two l L root (k + 1) (fillE short (TT l k) (2 ^ len l k) ((k : Int), (len l k : Int), false, 0)) long hs := by
  have hno : ∀ hh ∈ hs, hh % 2 ^ len l k ≠ TT l k := fun hh hm e => by
    obtain ⟨s, s1, s2, s3⟩ := t.hd2 hh hm
    refine pf h s1 hk (by omega) h0 (hall s s1) (hall k hk) (by intro e2; subst e2; omega) (by omega) ?_
    rw [← mod_mod hn, s3]; exact e
  have hR : 0 < 2 ^ root := Nat.pow_pos (by decide)
  refine ⟨by rw [fillE_len]; exact t.ls, t.ll, t.nd, t.lt, fun hh h1 h2 => ?_, fun i hi => ?_, fun w hw => ?_, fun s hs hr => ?_, t.hd2⟩
  · rw [fillE_get _ _ _ _ _ (by rw [t.ls]; exact h1)]
    split
    · rfl
    · exact t.nf hh h1 h2
  · have hm := List.getElem_mem hi
    rw [fillE_get _ _ _ _ _ (by rw [t.ls]; exact t.lt _ hm), if_neg (hno _ hm)]
    exact t.fr i hi
  · have hwr : w % 2 ^ root < 2 ^ root := Nat.mod_lt _ hR
    have hold := t.lk w hw
    unfold look at hold ⊢
    rw [ent_step h hk (hall k hk), fillE_get _ _ _ _ _ (by rw [t.ls]; exact hwr), mod_mod hn]
    by_cases e : w % 2 ^ len l k = TT l k
    · rw [if_pos e, if_pos ⟨h0, e⟩]; rfl
    · rw [if_neg e, if_neg (fun hh => e hh.2)]; exact hold
  · by_cases e : s = k
    · subst e; omega
    · exact t.hd1 s (by omega) hr
/-- A head is opened. -/
theorem two_open (t : Two l L root k short long hs) (h : check l 16 = 0) (hall : ∀ s, s < l.length → len l s ≤ L) (hkl : k ≤ l.length) (hr : root ≤ L) (s : Nat) (hsl : s < l.length) (hsr : root < len l s) (hnew : ¬ TT l s % 2 ^ root ∈ hs) :
    Two l L root k (short.set (TT l s % 2 ^ root) (0, 0, true, (long.length : Int))) (long ++ List.replicate (2 ^ (L - root)) z0) (hs ++ [TT l s % 2 ^ root]) := by
  have hR : 0 < 2 ^ root := Nat.pow_pos (by decide)
  have hlt : TT l s % 2 ^ root < 2 ^ root := Nat.mod_lt _ hR
  obtain ⟨H, hH⟩ : ∃ H, TT l s % 2 ^ root = H := ⟨_, rfl⟩
  rw [hH] at hlt hnew ⊢
  have hset : ∀ v, (short.set H (0, 0, true, (long.length : Int))).getD v z0 = if H = v then (0, 0, true, (long.length : Int)) else short.getD v z0 := fun v => by
    rw [List.getD_eq_getElem?_getD, List.getElem?_set, List.getD_eq_getElem?_getD]
    by_cases e : H = v
    · rw [if_pos e, if_pos (by rw [t.ls]; exact hlt), if_pos e]; rfl
    · rw [if_neg e, if_neg e]
  have hP : 2 ^ L = 2 ^ (L - root) * 2 ^ root := by rw [← Nat.pow_add]; congr 1; omega
  refine ⟨by rw [List.length_set]; exact t.ls, by rw [List.length_append, List.length_append, t.ll, List.length_replicate, List.length_singleton, Nat.add_mul, Nat.one_mul], ?_, fun x hx => ?_, fun x h1 h2 => ?_, fun i hi => ?_, fun w hw => ?_, fun s' hs' hr' => List.mem_append_left _ (t.hd1 s' hs' hr'), fun x hx => ?_⟩
  · exact List.nodup_append.2 ⟨t.nd, by simp, fun a ha b hb => by
      obtain rfl : b = H := by simpa using hb
      intro e; subst e; exact hnew ha⟩
  · rcases List.mem_append.1 hx with hx | hx
    · exact t.lt x hx
    · obtain rfl : x = H := by simpa using hx
      exact hlt
  · rw [hset]
    have : ¬ H = x := fun e => h2 (by rw [← e]; simp)
    rw [if_neg this]
    exact t.nf x h1 (fun hm => h2 (List.mem_append_left _ hm))
  · rw [hset]
    by_cases e : i < hs.length
    · rw [List.getElem_append_left e]
      have : ¬ H = hs[i] := fun e2 => hnew (by rw [e2]; exact List.getElem_mem e)
      rw [if_neg this]; exact t.fr i e
    · have ei : i = hs.length := by simp at hi; omega
      subst ei
      rw [List.getElem_append_right (Nat.le_refl _)]
      simp [t.ll]
  · have hwr : w % 2 ^ root < 2 ^ root := Nat.mod_lt _ hR
    have hold := t.lk w hw
    have hwd : w / 2 ^ root < 2 ^ (L - root) := by
      rw [Nat.div_lt_iff_lt_mul hR, ← hP]; exact hw
    unfold look at hold ⊢
    rw [hset]
    by_cases e : H = w % 2 ^ root
    · have hz : entK l L k w = (0, 0) := by
        unfold entK
        cases hf : (List.range k).find? (hitAt l (bitsOf w L)) with
        | none => rfl
        | some q =>
          have h1 := List.find?_some hf
          have h2 := List.mem_range.1 (List.mem_of_find?_eq_some hf)
          have hql : q < l.length := by omega
          rw [hitAt_mod (hall q hql)] at h1
          simp only [Bool.and_eq_true, decide_eq_true_eq] at h1
          by_cases hq : root < len l q
          · exfalso
            apply hnew
            have := t.hd1 q h2 hq
            have e3 : w % 2 ^ len l q % 2 ^ root = w % 2 ^ root := mod_mod (by omega)
            rw [h1.2, ← e] at e3
            rw [← e3]; exact this
          · exfalso
            refine pf h hsl hql (by omega) h1.1 (hall s hsl) (hall q hql) (by intro e2; subst e2; omega) (by omega) ?_
            rw [← mod_mod (show len l q ≤ root by omega), hH, e, mod_mod (by omega)]
            exact h1.2
      rw [if_pos e, hz]
      simp only [if_true]
      rw [List.getD_eq_getElem?_getD, List.getElem?_append_right (by simp)]
      simp [hwd, z0]
    · rw [if_neg e]
      by_cases hm : w % 2 ^ root ∈ hs
      · obtain ⟨i, hi, e2⟩ := List.mem_iff_getElem.1 hm
        have hf := t.fr i hi
        rw [e2] at hf
        rw [hf] at hold ⊢
        simp only [if_true] at hold ⊢
        have hb : i * 2 ^ (L - root) + w / 2 ^ root < long.length := by
          rw [t.ll]
          calc _ < i * 2 ^ (L - root) + 2 ^ (L - root) := by omega
            _ = (i + 1) * 2 ^ (L - root) := by rw [Nat.add_mul, Nat.one_mul]
            _ ≤ _ := Nat.mul_le_mul_right _ hi
        rw [Int.toNat_natCast] at hold ⊢
        rw [List.getD_eq_getElem?_getD, List.getElem?_append_left hb, ← List.getD_eq_getElem?_getD]
        exact hold
      · have := t.nf _ hwr hm
        simp only [this, Bool.false_eq_true, if_false] at hold ⊢
        exact hold
  · rcases List.mem_append.1 hx with hx | hx
    · exact t.hd2 x hx
    · obtain rfl : x = H := by simpa using hx
      exact ⟨s, hsl, hsr, hH⟩
theorem split_mod (w a b : Nat) (h : a ≤ b) : w % 2 ^ b = w % 2 ^ a + 2 ^ a * (w / 2 ^ a % 2 ^ (b - a)) := by
  have e : 2 ^ b = 2 ^ a * 2 ^ (b - a) := by rw [← Nat.pow_add]; congr 1; omega
  rw [e, Nat.mod_mul]
/-- A code whose head is far. -/
theorem two_far (t : Two l L root k short long hs) (h : check l 16 = 0) (hall : ∀ s, s < l.length → len l s ≤ L) (hk : k < l.length) (hn : root < len l k) (hr : root ≤ L) (i : Nat) (hi : i < hs.length) (hh : hs[i] = TT l k % 2 ^ root) :
    Two l L root (k + 1) short (segF long (i * 2 ^ (L - root)) (2 ^ (L - root)) (TT l k / 2 ^ root) (2 ^ (len l k - root)) ((k : Int), (len l k : Int), false, 0)) hs := by
  have hR : 0 < 2 ^ root := Nat.pow_pos (by decide)
  have hP : 2 ^ L = 2 ^ (L - root) * 2 ^ root := by rw [← Nat.pow_add]; congr 1; omega
  have hTl : TT l k < 2 ^ len l k := turn_lt _ _
  refine ⟨t.ls, by rw [segF_len]; exact t.ll, t.nd, t.lt, t.nf, t.fr, fun w hw => ?_, fun s hs' hr' => ?_, t.hd2⟩
  · have hwr : w % 2 ^ root < 2 ^ root := Nat.mod_lt _ hR
    have hwd : w / 2 ^ root < 2 ^ (L - root) := by rw [Nat.div_lt_iff_lt_mul hR, ← hP]; exact hw
    have hold := t.lk w hw
    have hmod : w % 2 ^ len l k = TT l k ↔ w % 2 ^ root = TT l k % 2 ^ root ∧ w / 2 ^ root % 2 ^ (len l k - root) = TT l k / 2 ^ root := by
      have e1 := split_mod w root (len l k) (by omega)
      have e2 := Nat.mod_add_div (TT l k) (2 ^ root)
      constructor
      · intro e
        rw [e] at e1
        have m1 : w % 2 ^ root = TT l k % 2 ^ root := by rw [← e, mod_mod (by omega)]
        refine ⟨m1, ?_⟩
        have : 2 ^ root * (w / 2 ^ root % 2 ^ (len l k - root)) = 2 ^ root * (TT l k / 2 ^ root) := by omega
        exact Nat.eq_of_mul_eq_mul_left hR this
      · rintro ⟨m1, m2⟩
        rw [e1, m1, m2]; exact e2
    unfold look at hold ⊢
    rw [ent_step h hk (hall k hk)]
    by_cases hm : w % 2 ^ root ∈ hs
    · obtain ⟨j, hj, e2⟩ := List.mem_iff_getElem.1 hm
      have hf := t.fr j hj
      rw [e2] at hf
      rw [hf] at hold ⊢
      simp only [if_true] at hold ⊢
      rw [Int.toNat_natCast] at hold ⊢
      have hb : j * 2 ^ (L - root) + w / 2 ^ root < long.length := by
        rw [t.ll]
        calc _ < j * 2 ^ (L - root) + 2 ^ (L - root) := by omega
          _ = (j + 1) * 2 ^ (L - root) := by rw [Nat.add_mul, Nat.one_mul]
          _ ≤ _ := Nat.mul_le_mul_right _ hj
      rw [segF_get _ _ _ _ _ _ _ hb]
      by_cases hji : j = i
      · subst hji
        rw [hh] at e2
        by_cases e : w / 2 ^ root % 2 ^ (len l k - root) = TT l k / 2 ^ root
        · rw [if_pos ⟨(seg_in j _ _ hwd).1, (seg_in j _ _ hwd).2, by rw [Nat.add_sub_cancel_left]; exact e⟩, if_pos ⟨by omega, hmod.2 ⟨e2.symm, e⟩⟩]
        · rw [if_neg (fun hx => e (by rw [Nat.add_sub_cancel_left] at hx; exact hx.2.2)), if_neg (fun hx => e (hmod.1 hx.2).2)]
          exact hold
      · have hne : ¬ w % 2 ^ root = TT l k % 2 ^ root := fun e => hji ((List.getElem_inj t.nd).1 (by rw [e2, hh, e]))
        rw [if_neg (fun hx => ?_), if_neg (fun hx => hne (hmod.1 hx.2).1)]
        · exact hold
        · exact seg_out i j _ _ hwd hji ⟨hx.1, hx.2.1⟩
    · have hnf := t.nf _ hwr hm
      have hne : ¬ (len l k ≠ 0 ∧ w % 2 ^ len l k = TT l k) := fun hx => hm (by rw [(hmod.1 hx.2).1, ← hh]; exact List.getElem_mem hi)
      simp only [hnf, Bool.false_eq_true, if_false] at hold ⊢
      rw [if_neg hne]
      exact hold
  · by_cases e : s = k
    · subst e; rw [← hh]; exact List.getElem_mem hi
    · exact t.hd1 s (by omega) hr'
end
end Go.Proofs.YtmhjmoeeahepaaaGreat.Two

/- Layer 11: fill of a part of a table: rows of places of four cells. -/
namespace Go.Proofs.YtmhjmoeeahepaaaGreat
open Go.ChangeShapes Go.WideShapes Go.ChangeAt Go.RowKit
set_option linter.unusedVariables false
set_option linter.unusedSimpArgs false
set_option maxRecDepth 100000
open Two
theorem four_of {α : Type} {f : α → List Value} (hf : Flat f 4) (y : α) : ∃ a b c d, f y = [a, b, c, d] := by
  have := (hf y).1
  match hq : f y, this with
  | [a, b, c, d], _ => exact ⟨a, b, c, d, rfl⟩
theorem flat_set4 {α : Type} {f : α → List Value} (hf : Flat f 4) (x : α) (a b c d : Value) (hx : f x = [a, b, c, d]) : ∀ (l : List α) (i : Nat), i < l.length → (l.set i x).flatMap f = ((((l.flatMap f).set (i * 4) a).set (i * 4 + 1) b).set (i * 4 + 2) c).set (i * 4 + 3) d
  | [], _, h => by simp at h
  | y :: l, 0, _ => by
    obtain ⟨y1, y2, y3, y4, hy⟩ := four_of hf y
    simp [List.flatMap_cons, hx, hy]
  | y :: l, i + 1, h => by
    obtain ⟨y1, y2, y3, y4, hy⟩ := four_of hf y
    have ih := flat_set4 hf x a b c d hx l i (by simpa using h)
    rw [List.set_cons_succ, List.flatMap_cons, List.flatMap_cons, ih, hy]
    rw [show (i + 1) * 4 = i * 4 + 1 + 1 + 1 + 1 by omega, show i * 4 + 1 + 1 + 1 + 1 + 1 = (i * 4 + 1) + 1 + 1 + 1 + 1 by omega, show i * 4 + 1 + 1 + 1 + 1 + 2 = (i * 4 + 2) + 1 + 1 + 1 + 1 by omega, show i * 4 + 1 + 1 + 1 + 1 + 3 = (i * 4 + 3) + 1 + 1 + 1 + 1 by omega]
    simp
theorem OwnS.set4 {α : Type} {f : α → List Value} {E B g n cap : Nat} {w : World} {l : List α} (hf : Flat f 4) (h : OwnS f E 4 B w (.slice (some ⟨g, 0, none⟩) n cap) l) (i : Nat) (x : α) (a b c d : Value) (hx : f x = [a, b, c, d]) (hi : i < l.length) :
    OwnS f E 4 B ((((w.setCell ⟨g, i * 4, none⟩ a).setCell ⟨g, i * 4 + 1, none⟩ b).setCell ⟨g, i * 4 + 2, none⟩ c).setCell ⟨g, i * 4 + 3, none⟩ d) (.slice (some ⟨g, 0, none⟩) n cap) (l.set i x) := by
  have hn : n = l.length := by
    rcases h.2 with ⟨h0, -⟩ | ⟨g', cap', cur', h0, -⟩ <;> simp at h0; omega
  subst hn
  have h1 := (World.ownsRow.stored h (i * 4) a).1
  have h2 := (World.ownsRow.stored h1 (i * 4 + 1) b).1
  have h3 := (World.ownsRow.stored h2 (i * 4 + 2) c).1
  have h4 := (World.ownsRow.stored h3 (i * 4 + 3) d).1
  unfold OwnS
  rw [List.length_set, flat_set4 hf x a b c d hx l i hi]
  exact h4
def fT (p : Ent) : List Value := [.int .i32 p.1, .int .i16 p.2.1, .bool p.2.2.1, .int .i32 p.2.2.2]
theorem flatT : Flat fT 4 := fun x => ⟨rfl, by intro u hu; simp [fT] at hu; rcases hu with rfl | rfl | rfl | rfl <;> rfl⟩
abbrev OwnT (B : Nat) (w : World) (v : Value) (l : List Ent) : Prop := OwnS fT 154 4 B w v l
theorem info_tent : (Tryz.prog.info? 154).map (fun i => (i.zero, i.size, i.bytes)) = some (some (.agg #[.int .i32 0, .int .i16 0, .bool false, .int .i32 0]), 4, 12) := by kernel_rfl
def segTo (tab : List Ent) (b N T q i : Nat) (e : Ent) : List Ent := (List.range tab.length).map fun v => if b ≤ v ∧ v < b + N ∧ v < b + i ∧ (v - b) % q = T then e else tab.getD v z0
theorem segTo_len (tab : List Ent) (b N T q i : Nat) (e : Ent) : (segTo tab b N T q i e).length = tab.length := by simp [segTo]
theorem segTo_start (tab : List Ent) (b N T q : Nat) (e : Ent) (hT : T < q) : segTo tab b N T q T e = tab := by
  apply List.ext_getElem (segTo_len _ _ _ _ _ _ _)
  intro v h1 h2
  have hn : ¬ (b ≤ v ∧ v < b + N ∧ v < b + T ∧ (v - b) % q = T) := fun ⟨x, _, y, z⟩ => by
    rw [Nat.mod_eq_of_lt (by omega)] at z; omega
  simp only [segTo, List.getElem_map, List.getElem_range, if_neg hn]
  simp [List.getD_eq_getElem?_getD, h2]
theorem segTo_step (tab : List Ent) (b N T q i : Nat) (e : Ent) (hq : 0 < q) (hi : i % q = T) (hlt : i < N) (hb : b + N ≤ tab.length) : (segTo tab b N T q i e).set (b + i) e = segTo tab b N T q (i + q) e := by
  apply List.ext_getElem (by rw [List.length_set, segTo_len, segTo_len])
  intro v h1 h2
  rw [List.getElem_set]
  simp only [segTo, List.getElem_map, List.getElem_range]
  by_cases e1 : b + i = v
  · subst e1
    rw [if_pos rfl, if_pos ⟨by omega, by omega, by omega, by rw [Nat.add_sub_cancel_left]; exact hi⟩]
  · rw [if_neg e1]
    by_cases c1 : b ≤ v ∧ v < b + N ∧ v < b + i ∧ (v - b) % q = T
    · rw [if_pos c1, if_pos ⟨c1.1, c1.2.1, by omega, c1.2.2.2⟩]
    · rw [if_neg c1, if_neg]
      rintro ⟨x, y, z, u⟩
      apply c1
      refine ⟨x, y, ?_, u⟩
      apply Classical.byContradiction
      intro hge
      obtain ⟨d, hd⟩ : ∃ d, v - b = i + d := ⟨v - b - i, by omega⟩
      have hd1 : d < q := by omega
      have hd0 : 0 < d := by omega
      rw [hd, Nat.add_mod, hi, Nat.mod_eq_of_lt hd1] at u
      have hT : T < q := by rw [← hi]; exact Nat.mod_lt _ hq
      by_cases hs : T + d < q
      · rw [Nat.mod_eq_of_lt hs] at u; omega
      · rw [Nat.mod_eq_sub_mod (by omega), Nat.mod_eq_of_lt (by omega)] at u; omega
theorem segTo_end (tab : List Ent) (b N T q i : Nat) (e : Ent) (h : N ≤ i) : segTo tab b N T q i e = segF tab b N T q e := by
  unfold segTo segF
  apply List.map_congr_left
  intro v _
  congr 1
  apply propext
  exact ⟨fun ⟨x, y, _, z⟩ => ⟨x, y, z⟩, fun ⟨x, y, z⟩ => ⟨x, y, by omega, z⟩⟩
theorem segF_fill (tab : List Ent) (T q : Nat) (e : Ent) : segF tab 0 tab.length T q e = fillE tab T q e := by
  unfold segF fillE
  apply List.map_congr_left
  intro v hv
  have := List.mem_range.1 hv
  congr 1
  apply propext
  exact ⟨fun ⟨_, _, z⟩ => by simpa using z, fun z => ⟨by omega, by omega, by simpa using z⟩⟩
theorem far4 {w : World} {g g' o o1 o2 o3 o4 : Nat} {v u1 u2 u3 u4 : Value} (h : w.cell? ⟨g, o, none⟩ = some v) (hne : g ≠ g') : ((((w.setCell ⟨g', o1, none⟩ u1).setCell ⟨g', o2, none⟩ u2).setCell ⟨g', o3, none⟩ u3).setCell ⟨g', o4, none⟩ u4).cell? ⟨g, o, none⟩ = some v := by
  rw [World.cell?_of_block (w := w) ((((Below.heap_setCell _ _ _ _ hne).trans (Below.heap_setCell _ _ _ _ hne)).trans (Below.heap_setCell _ _ _ _ hne)).trans (Below.heap_setCell _ _ _ _ hne))]; exact h
end Go.Proofs.YtmhjmoeeahepaaaGreat
