/- Layer 15: the contracts of Dist, LenOf and DistOf, the program's and the document's; the chapter's examples. -/
import Derived.Test.YtfemcehglolnjaaSm
namespace Go.Proofs.Ytfemcehglolnjaa
open Go.ChangeShapes Go.WideShapes Go.ChangeAt Go.RowKit
set_option linter.unusedVariables false
set_option maxRecDepth 100000

theorem ret2_i {a b a' b' : Int} (h1 : a = a') (h2 : b = b') : Ending.returned (.tuple #[.int .i64 a, .int .i64 b]) = .returned (.tuple #[.int .i64 a', .int .i64 b']) := by rw [h1, h2]

set_option maxHeartbeats 800000 in
theorem Dist_in (n : Nat) (h1 : 1 ≤ n) (h : n ≤ 67108864) (w : World) :
    Calls Try.prog 22 #[.int .i64 n] w fun e w' => e = .returned (.tuple #[.int .i64 (slotD n), .int .i64 (exD (slotD n)), .int .i64 (n - tbD (slotD n) : Nat), .int .i64 0]) ∧ Below w.heap.size w w' := by
  have hf := slotD_facts n h1 h
  by_cases h8 : n - 1 < 4
  · have e1 : slotD n = n - 1 := if_pos h8
    obtain ⟨x, rfl⟩ : ∃ x, n = x + 1 := ⟨n - 1, by omega⟩
    have hx := hf.2.2.2.2 h8
    rw [hx.1, hx.2, e1]
    have C := Lib.hid (slotOf_small x 4 2 (by omega) (by omega))
    clear hf hx e1
    go_enter Try.func22, Try.ntmps22
    go_wp2_with fail
    refine (C.out _).mono ?_; rintro e w' ⟨rfl, rfl⟩
    go_wp2
    exact bodyPost_ret (v := .tuple #[.int .i64 x, .int .i64 0, .int .i64 0, .int .i64 0]) (by simp [results, Try.results22, go_sem]) rfl ⟨ret4_i (by omega) rfl (by omega) rfl, Below.refl _ _⟩
  · have hx := hf.2.2.2.1 h8
    have e1 : slotD n = 2 * kD n + (n - 1) / 2 ^ kD n := if_neg h8
    obtain ⟨x, rfl⟩ : ∃ x, n = x + 1 := ⟨n - 1, by omega⟩
    rw [hx.2.2.1, ← hx.2.2.2, e1]
    have C := Lib.hid (slotOf_great2 x 4 (kD (x + 1)) (by omega) (by omega) hx.1 hx.2.1)
    obtain ⟨K, hK⟩ : ∃ K, kD (x + 1) = K := ⟨_, rfl⟩
    rw [hK] at C ⊢
    obtain ⟨A, hA⟩ : ∃ A, 2 * K + x / 2 ^ K = A := ⟨_, rfl⟩
    obtain ⟨B, hB⟩ : ∃ B, x % 2 ^ K = B := ⟨_, rfl⟩
    have eA : 2 * K + (x + 1 - 1) / 2 ^ K = A := by rw [← hA]; simp
    have eB : (x + 1 - 1) % 2 ^ K = B := by rw [← hB]; simp
    rw [hA, hB] at C
    rw [eA, eB]
    clear hf hx e1 hK hA hB eA eB
    go_enter Try.func22, Try.ntmps22
    go_wp2_with fail
    refine (C.out _).mono ?_; rintro e w1 ⟨rfl, hb1⟩
    go_wp2
    exact bodyPost_ret (v := .tuple #[.int .i64 A, .int .i64 K, .int .i64 B, .int .i64 0]) (by simp [results, Try.results22, go_sem]) rfl ⟨rfl, hb1⟩

set_option maxHeartbeats 800000 in
theorem Dist_out (n : Int) (h : n < 1 ∨ 67108864 < n) (w : World) :
    Calls Try.prog 22 #[.int .i64 n] w fun e w' => e = .returned (.tuple #[.int .i64 0, .int .i64 0, .int .i64 0, .int .i64 2]) ∧ Below w.heap.size w w' := by
  rcases h with h | h
  · go_enter Try.func22, Try.ntmps22
    go_wp2
    exact bodyPost_ret (v := .tuple #[.int .i64 0, .int .i64 0, .int .i64 0, .int .i64 2]) (by simp [results, Try.results22, go_sem]) rfl ⟨rfl, Below.refl _ _⟩
  · have h' : ¬ n < 1 := by omega
    go_enter Try.func22, Try.ntmps22
    go_wp2
    exact bodyPost_ret (v := .tuple #[.int .i64 0, .int .i64 0, .int .i64 0, .int .i64 2]) (by simp [results, Try.results22, go_sem]) rfl ⟨rfl, Below.refl _ _⟩

set_option maxHeartbeats 800000 in
theorem refDist_out (n : Int) (h : n < 1 ∨ 67108864 < n) (w : World) :
    Calls Try.prog 23 #[.int .i64 n] w fun e w' => e = .returned (.tuple #[.int .i64 0, .int .i64 0, .int .i64 0, .int .i64 2]) ∧ Below w.heap.size w w' := by
  rcases h with h | h
  · go_enter Try.func23, Try.ntmps23
    go_wp2
    exact bodyPost_ret (v := .tuple #[.int .i64 0, .int .i64 0, .int .i64 0, .int .i64 2]) (by simp [results, Try.results23, go_sem]) rfl ⟨rfl, Below.refl _ _⟩
  · have h' : ¬ n < 1 := by omega
    go_enter Try.func23, Try.ntmps23
    go_wp2
    exact bodyPost_ret (v := .tuple #[.int .i64 0, .int .i64 0, .int .i64 0, .int .i64 2]) (by simp [results, Try.results23, go_sem]) rfl ⟨rfl, Below.refl _ _⟩

set_option maxHeartbeats 800000 in
theorem refDist_in (n : Nat) (h1 : 1 ≤ n) (h : n ≤ 67108864) (w : World) :
    Calls Try.prog 23 #[.int .i64 n] w fun e w' => e = .returned (.tuple #[.int .i64 (slotD n), .int .i64 (exD (slotD n)), .int .i64 (n - tbD (slotD n) : Nat), .int .i64 0]) ∧ Below w.heap.size w w' := by
  have hf := slotD_facts n h1 h
  obtain ⟨hs28, hle, hgt, -, -⟩ := hf
  obtain ⟨S, hS⟩ : ∃ S, slotD n = S := ⟨_, rfl⟩
  rw [hS] at hs28 hle hgt ⊢
  have HG := Lib.hid hgt; have HLE := Lib.hid hle; clear hgt hS hle
  go_enter Try.func23, Try.ntmps23
  go_wp2_with fail
  go_loop [6] (fun s => ∃ k : Nat, S ≤ k ∧ k ≤ 51 ∧ s = .int .i64 k) (fun s => (intOf s).toNat)
  case atStart => exact ⟨51, hs28, by omega, rfl⟩
  case round =>
    obtain ⟨k, hk, hk28, rfl⟩ := hrel
    have c := baseD_any k (by omega)
    by_cases hlt : S < k
    · have hg : n < tbD k := HG.out k hlt hk28
      have hbb := (tbD_bd k (by omega)).1
      obtain ⟨b, hb⟩ : ∃ b, tbD k = b := ⟨_, rfl⟩
      rw [hb] at c hg hbb
      have C := Lib.hid c; clear c hb
      go_wp2_with fail
      refine (C.out _).mono ?_; rintro e w' ⟨rfl, rfl⟩
      go_wp2
      go_round
      case rel => exact ⟨k - 1, by omega, by omega, by go_num⟩
      case measure => simp [intOf]; omega
    · obtain rfl : k = S := by omega
      have x := exD_any k (by omega)
      obtain ⟨b, hb⟩ : ∃ b, tbD k = b := ⟨_, rfl⟩
      obtain ⟨y, hy⟩ : ∃ y, exD k = y := ⟨_, rfl⟩
      have hle := HLE.out
      rw [hb] at c hle; rw [hy] at x
      have hnl : ¬ n < b := by omega
      have e1 : ((n - b : Nat) : Int) = (n : Int) - (b : Int) := by omega
      have C := Lib.hid c; have X := Lib.hid x; have HB := Lib.hid hb; have HY := Lib.hid hy; have E1 := Lib.hid e1
      clear c hb x hy e1
      go_wp2_with fail
      refine (C.out _).mono ?_; rintro e w' ⟨rfl, rfl⟩
      go_wp2_with fail
      refine (X.out _).mono ?_; rintro e w' ⟨rfl, rfl⟩
      go_wp2_with fail
      refine (C.out _).mono ?_; rintro e w' ⟨rfl, rfl⟩
      go_wp2
      exact bodyPost_ret (v := .tuple #[.int .i64 k, .int .i64 y, .int .i64 ((n : Int) - (b : Int)), .int .i64 0]) (by simp [results, Try.results23, go_sem]) rfl ⟨by rw [HB.out, HY.out, E1.out], Below.refl _ _⟩

theorem firstL_facts : ∀ s : Fin 28, 8 ≤ s.val → exD 0 = 0 ∧ exL s.val = s.val / 4 - 1 ∧ tbL s.val = 2 + (s.val - 4 * (s.val / 4 - 1)) * 2 ^ (s.val / 4 - 1) := by decide +kernel
theorem smallL_facts : ∀ s : Fin 8, exL s.val = 0 ∧ tbL s.val = 2 + s.val := by decide +kernel
set_option maxHeartbeats 800000 in
theorem firstL_any (s : Nat) (hs : s < 28) (w : World) :
    Calls Try.prog 58 #[.int .i64 s, .int .i64 8, .int .i64 4] w fun e w' => e = .returned (.tuple #[.int .i64 (tbL s - 2 : Nat), .int .i64 (exL s)]) ∧ Below w.heap.size w w' := by
  by_cases h : s < 8
  · have hf := smallL_facts ⟨s, h⟩
    simp only at hf
    rw [hf.1, hf.2, show 2 + s - 2 = s by omega]
    clear hf
    go_enter Try.func58, Try.ntmps58
    go_wp2
    go_ret2
    exact ⟨rfl, Below.refl _ _⟩
  · have hf := firstL_facts ⟨s, hs⟩ (by simp only; omega)
    simp only at hf
    have ht := (tbL_bd s (by omega)).1
    obtain ⟨F, hF⟩ : ∃ F, (s - 4 * (s / 4 - 1)) * 2 ^ (s / 4 - 1) = F := ⟨_, rfl⟩
    rw [hF] at hf
    rw [hf.2.1, hf.2.2, show 2 + F - 2 = F by omega]
    rw [hf.2.2] at ht
    obtain ⟨q, hq⟩ : ∃ q, s / 4 = q + 1 := ⟨s / 4 - 1, by omega⟩
    rw [hq, show q + 1 - 1 = q by omega] at hF ⊢
    have hqi : (s : Int) / 4 = (q : Int) + 1 := by omega
    have e1 : ((s : Int) - 4 * (q : Int)) * 2 ^ q = (F : Int) := by
      rw [← hF, Int.natCast_mul, pow_cast, Int.ofNat_sub (by omega), Int.natCast_mul]; rfl
    have e2 : 0 ≤ ((s : Int) - 4 * (q : Int)) * 2 ^ q := by rw [e1]; omega
    have e3 : ((s : Int) - 4 * (q : Int)) * 2 ^ q ≤ 200000000 := by rw [e1]; omega
    have E1 := Lib.hid e1
    clear hf hF e1 hq
    go_enter Try.func58, Try.ntmps58
    go_wp2_with fail
    (try go_quiet (fail))
    go_wp2
    go_ret2
    exact ⟨ret2_i E1.out rfl, by first | exact Below.refl _ _ | exact below_drewN (Below.refl _ _) _⟩

theorem firstD_facts : ∀ s : Fin 52, 4 ≤ s.val → exD 0 = 0 ∧ exD s.val = s.val / 2 - 1 ∧ tbD s.val = 1 + (s.val - 2 * (s.val / 2 - 1)) * 2 ^ (s.val / 2 - 1) := by decide +kernel
theorem smallD_facts : ∀ s : Fin 4, exD s.val = 0 ∧ tbD s.val = 1 + s.val := by decide +kernel
set_option maxHeartbeats 800000 in
theorem firstD_any (s : Nat) (hs : s < 52) (w : World) :
    Calls Try.prog 58 #[.int .i64 s, .int .i64 4, .int .i64 2] w fun e w' => e = .returned (.tuple #[.int .i64 (tbD s - 1 : Nat), .int .i64 (exD s)]) ∧ Below w.heap.size w w' := by
  by_cases h : s < 4
  · have hf := smallD_facts ⟨s, h⟩
    simp only at hf
    rw [hf.1, hf.2, show 1 + s - 1 = s by omega]
    clear hf
    go_enter Try.func58, Try.ntmps58
    go_wp2
    go_ret2
    exact ⟨rfl, Below.refl _ _⟩
  · have hf := firstD_facts ⟨s, hs⟩ (by simp only; omega)
    simp only at hf
    have ht := (tbD_bd s (by omega)).1
    obtain ⟨F, hF⟩ : ∃ F, (s - 2 * (s / 2 - 1)) * 2 ^ (s / 2 - 1) = F := ⟨_, rfl⟩
    rw [hF] at hf
    rw [hf.2.1, hf.2.2, show 1 + F - 1 = F by omega]
    rw [hf.2.2] at ht
    obtain ⟨q, hq⟩ : ∃ q, s / 2 = q + 1 := ⟨s / 2 - 1, by omega⟩
    rw [hq, show q + 1 - 1 = q by omega] at hF ⊢
    have hqi : (s : Int) / 2 = (q : Int) + 1 := by omega
    have e1 : ((s : Int) - 2 * (q : Int)) * 2 ^ q = (F : Int) := by
      rw [← hF, Int.natCast_mul, pow_cast, Int.ofNat_sub (by omega), Int.natCast_mul]; rfl
    have e2 : 0 ≤ ((s : Int) - 2 * (q : Int)) * 2 ^ q := by rw [e1]; omega
    have e3 : ((s : Int) - 2 * (q : Int)) * 2 ^ q ≤ 200000000 := by rw [e1]; omega
    have E1 := Lib.hid e1
    clear hf hF e1 hq
    go_enter Try.func58, Try.ntmps58
    go_wp2_with fail
    (try go_quiet (fail))
    go_wp2
    go_ret2
    exact ⟨ret2_i E1.out rfl, by first | exact Below.refl _ _ | exact below_drewN (Below.refl _ _) _⟩

theorem leastL : ∀ s : Fin 28, 2 ≤ tbL s.val := by decide
/-- How many numbers a slot has. -/
def wideL (s : Nat) : Nat := 2 ^ exL s
theorem wideL_bd : ∀ s : Fin 53, 1 ≤ wideL s.val ∧ wideL s.val ≤ 1073741824 := by decide +kernel
set_option maxHeartbeats 800000 in
theorem numberL_any (s : Nat) (m : Int) (hs : s < 28) (w : World) :
    Calls Try.prog 50 #[.int .i64 s, .int .i64 m, .int .i64 8, .int .i64 4, .int .i64 2] w fun e w' =>
      e = .returned (.tuple #[.int .i64 (if 0 ≤ m ∧ m < wideL s then (tbL s : Int) + m else 0), .int .i64 (if 0 ≤ m ∧ m < wideL s then 0 else 2)]) ∧ Below w.heap.size w w' := by
  have C := Lib.hid (firstL_any s hs)
  have hl := leastL ⟨s, by omega⟩
  obtain ⟨ht, hx30⟩ := tbL_bd s (by omega)
  have hw := wideL_bd ⟨s, by omega⟩
  simp only at hl hw
  have hpw : (2 : Int) ^ exL s = ((wideL s : Nat) : Int) := by rw [← pow_cast]; rfl
  obtain ⟨x, hx⟩ : ∃ x, exL s = x := ⟨_, rfl⟩
  obtain ⟨T, hT⟩ : ∃ T, tbL s = T := ⟨_, rfl⟩
  obtain ⟨W, hW⟩ : ∃ W, wideL s = W := ⟨_, rfl⟩
  rw [hx, hT] at C; rw [hx, hW] at hpw; rw [hx] at hx30; rw [hT] at hl ht ⊢; rw [hW] at hw ⊢
  have hx0 : (1 : Int) ≤ 2 ^ x := by rw [hpw]; omega
  have hx1 : (2 : Int) ^ x ≤ 1073741824 := by rw [hpw]; omega
  obtain ⟨F, rfl⟩ : ∃ F, T = F + 2 := ⟨T - 2, by omega⟩
  rw [show F + 2 - 2 = F by omega] at C
  have HP := Lib.hid hpw
  clear hw hT hx hW
  by_cases h : 0 ≤ m ∧ m < W
  · rw [if_pos h, if_pos h]
    obtain ⟨h0, h1⟩ := h
    have h2 : m < 2 ^ x := by rw [HP.out]; exact h1
    have h3 : ¬ m < 0 := by omega
    have h4 : m ≤ 2000000000 := by omega
    clear h1 hpw
    go_enter Try.func50, Try.ntmps50
    go_wp2_with fail
    refine (C.out _).mono ?_; rintro e w1 ⟨rfl, hb1⟩
    go_wp2
    go_ret2
    exact ⟨ret2_i (by omega) rfl, hb1⟩
  · rw [if_neg h, if_neg h]
    by_cases h0 : m < 0
    · clear h hpw
      go_enter Try.func50, Try.ntmps50
      go_wp2_with fail
      refine (C.out _).mono ?_; rintro e w1 ⟨rfl, hb1⟩
      go_wp2
      go_ret2
      exact ⟨rfl, hb1⟩
    · have h2 : (2 : Int) ^ x ≤ m := by rw [HP.out]; omega
      clear h hpw
      go_enter Try.func50, Try.ntmps50
      go_wp2_with fail
      refine (C.out _).mono ?_; rintro e w1 ⟨rfl, hb1⟩
      go_wp2
      go_ret2
      exact ⟨rfl, hb1⟩

theorem leastD : ∀ s : Fin 52, 1 ≤ tbD s.val := by decide
/-- How many numbers a slot has. -/
def wideD (s : Nat) : Nat := 2 ^ exD s
theorem wideD_bd : ∀ s : Fin 53, 1 ≤ wideD s.val ∧ wideD s.val ≤ 1073741824 := by decide +kernel
set_option maxHeartbeats 800000 in
theorem numberD_any (s : Nat) (m : Int) (hs : s < 52) (w : World) :
    Calls Try.prog 50 #[.int .i64 s, .int .i64 m, .int .i64 4, .int .i64 2, .int .i64 1] w fun e w' =>
      e = .returned (.tuple #[.int .i64 (if 0 ≤ m ∧ m < wideD s then (tbD s : Int) + m else 0), .int .i64 (if 0 ≤ m ∧ m < wideD s then 0 else 2)]) ∧ Below w.heap.size w w' := by
  have C := Lib.hid (firstD_any s hs)
  have hl := leastD ⟨s, by omega⟩
  obtain ⟨ht, hx30⟩ := tbD_bd s (by omega)
  have hw := wideD_bd ⟨s, by omega⟩
  simp only at hl hw
  have hpw : (2 : Int) ^ exD s = ((wideD s : Nat) : Int) := by rw [← pow_cast]; rfl
  obtain ⟨x, hx⟩ : ∃ x, exD s = x := ⟨_, rfl⟩
  obtain ⟨T, hT⟩ : ∃ T, tbD s = T := ⟨_, rfl⟩
  obtain ⟨W, hW⟩ : ∃ W, wideD s = W := ⟨_, rfl⟩
  rw [hx, hT] at C; rw [hx, hW] at hpw; rw [hx] at hx30; rw [hT] at hl ht ⊢; rw [hW] at hw ⊢
  have hx0 : (1 : Int) ≤ 2 ^ x := by rw [hpw]; omega
  have hx1 : (2 : Int) ^ x ≤ 1073741824 := by rw [hpw]; omega
  obtain ⟨F, rfl⟩ : ∃ F, T = F + 1 := ⟨T - 1, by omega⟩
  rw [show F + 1 - 1 = F by omega] at C
  have HP := Lib.hid hpw
  clear hw hT hx hW
  by_cases h : 0 ≤ m ∧ m < W
  · rw [if_pos h, if_pos h]
    obtain ⟨h0, h1⟩ := h
    have h2 : m < 2 ^ x := by rw [HP.out]; exact h1
    have h3 : ¬ m < 0 := by omega
    have h4 : m ≤ 2000000000 := by omega
    clear h1 hpw
    go_enter Try.func50, Try.ntmps50
    go_wp2_with fail
    refine (C.out _).mono ?_; rintro e w1 ⟨rfl, hb1⟩
    go_wp2
    go_ret2
    exact ⟨ret2_i (by omega) rfl, hb1⟩
  · rw [if_neg h, if_neg h]
    by_cases h0 : m < 0
    · clear h hpw
      go_enter Try.func50, Try.ntmps50
      go_wp2_with fail
      refine (C.out _).mono ?_; rintro e w1 ⟨rfl, hb1⟩
      go_wp2
      go_ret2
      exact ⟨rfl, hb1⟩
    · have h2 : (2 : Int) ^ x ≤ m := by rw [HP.out]; omega
      clear h hpw
      go_enter Try.func50, Try.ntmps50
      go_wp2_with fail
      refine (C.out _).mono ?_; rintro e w1 ⟨rfl, hb1⟩
      go_wp2
      go_ret2
      exact ⟨rfl, hb1⟩
end Go.Proofs.Ytfemcehglolnjaa
