import Derived.Test.YtipcdkemokkdfaaGreatK01
import Derived.Test.YtipcdkemokkdfaaGreatK04
import Derived.Deep.Light
import Derived.Laws.BitsLemmas
import Derived.Lib.ItoaNum
import Derived.WalkLawsBesides
/- Layer 16, carried over: Check, Sym. -/
namespace Go.Proofs.YtipcdkemokkdfaaGreat.Tok

open Go.ChangeShapes Go.WideShapes Go.ChangeAt Go.RowKit
set_option linter.unusedVariables false
set_option maxRecDepth 100000

/-- A token that may be. -/
def OkTok (k b l d r : Int) : Prop :=
  (k = 0 ∧ 0 ≤ b ∧ b ≤ 255 ∧ l = 0 ∧ d = 0 ∧ r = 0) ∨ (k = 1 ∧ 2 ≤ l ∧ l ≤ 258 ∧ 1 ≤ d ∧ d ≤ 67108864 ∧ b = 0 ∧ r = 0) ∨ (k = 2 ∧ 2 ≤ l ∧ l ≤ 258 ∧ 0 ≤ r ∧ r ≤ 3 ∧ b = 0 ∧ d = 0)
instance (k b l d r : Int) : Decidable (OkTok k b l d r) := by unfold OkTok; infer_instance
def chk (k b l d r : Int) : Int := if OkTok k b l d r then 0 else 10

theorem chk_no {k b l d r : Int} (h : ¬ OkTok k b l d r) : (10 : Int) = chk k b l d r := (if_neg h).symm
theorem chk_yes {k b l d r : Int} (h : OkTok k b l d r) : (0 : Int) = chk k b l d r := (if_pos h).symm
theorem length_any (n : Int) (w : World) : Calls Tryz.prog 58 #[.int .i64 n] w fun e w' => e = .returned (.bool (decide (2 ≤ n) && decide (n ≤ 258))) ∧ w = w' := by
  by_cases h : 2 ≤ n ∧ n ≤ 258
  · obtain ⟨h1, h2⟩ := h
    have e : (decide (2 ≤ n) && decide (n ≤ 258)) = true := by simp [h1, h2]
    rw [e]; clear e
    go_enter Tryz.func58, Tryz.ntmps58
    go_wp2
    go_ret
    exact ⟨rfl, rfl⟩
  · have e : (decide (2 ≤ n) && decide (n ≤ 258)) = false := by rw [Bool.and_eq_false_iff, decide_eq_false_iff_not, decide_eq_false_iff_not]; omega
    rw [e]; clear e
    by_cases h1 : 2 ≤ n
    · have h2 : ¬ n ≤ 258 := by omega
      go_enter Tryz.func58, Tryz.ntmps58
      go_wp2
      go_ret
      exact ⟨rfl, rfl⟩
    · go_enter Tryz.func58, Tryz.ntmps58
      go_wp2
      go_ret
      exact ⟨rfl, rfl⟩

set_option maxHeartbeats 1600000 in
theorem check_any (k b l d r : Int) (w : World) :
    Calls Tryz.prog 33 #[.agg #[.int .i64 k, .int .i64 b, .int .i64 l, .int .i64 d, .int .i64 r]] w fun e w' => e = .returned (.int .i64 (chk k b l d r)) ∧ Below w.heap.size w w' := by
  by_cases k0 : k = 0
  · subst k0
    go_enter Tryz.func33, Tryz.ntmps33
    go_wp2
    all_goals (go_ret; refine ⟨ret_i ?_, (Below.refl _ _).alloc (Nat.le_refl _) _⟩; go_light; first | exact chk_no (by unfold OkTok; (try simp at *); omega) | exact chk_yes (by unfold OkTok; (try simp at *); omega))
  · skip
    by_cases k1 : k = 1
    · subst k1
      have C := Lib.hid (length_any l)
      by_cases hl : 2 ≤ l ∧ l ≤ 258
      · have e : (decide (2 ≤ l) && decide (l ≤ 258)) = true := by simp [hl.1, hl.2]
        rw [e] at C; clear e
        go_enter Tryz.func33, Tryz.ntmps33
        go_wp2_with fail
        refine (C.out _).mono ?_; rintro e w' ⟨rfl, rfl⟩
        go_wp2
        all_goals (go_ret; refine ⟨ret_i ?_, (Below.refl _ _).alloc (Nat.le_refl _) _⟩; go_light; first | exact chk_no (by unfold OkTok; (try simp at *); omega) | exact chk_yes (by unfold OkTok; (try simp at *); omega))
      · have e : (decide (2 ≤ l) && decide (l ≤ 258)) = false := by rw [Bool.and_eq_false_iff, decide_eq_false_iff_not, decide_eq_false_iff_not]; omega
        rw [e] at C; clear e
        go_enter Tryz.func33, Tryz.ntmps33
        go_wp2_with fail
        refine (C.out _).mono ?_; rintro e w' ⟨rfl, rfl⟩
        go_wp2
        all_goals (go_ret; refine ⟨ret_i ?_, (Below.refl _ _).alloc (Nat.le_refl _) _⟩; go_light; first | exact chk_no (by unfold OkTok; (try simp at *); omega) | exact chk_yes (by unfold OkTok; (try simp at *); omega))
    · skip
      by_cases k2 : k = 2
      · subst k2
        have C := Lib.hid (length_any l)
        by_cases hl : 2 ≤ l ∧ l ≤ 258
        · have e : (decide (2 ≤ l) && decide (l ≤ 258)) = true := by simp [hl.1, hl.2]
          rw [e] at C; clear e
          go_enter Tryz.func33, Tryz.ntmps33
          go_wp2_with fail
          refine (C.out _).mono ?_; rintro e w' ⟨rfl, rfl⟩
          go_wp2
          all_goals (go_ret; refine ⟨ret_i ?_, (Below.refl _ _).alloc (Nat.le_refl _) _⟩; go_light; first | exact chk_no (by unfold OkTok; (try simp at *); omega) | exact chk_yes (by unfold OkTok; (try simp at *); omega))
        · have e : (decide (2 ≤ l) && decide (l ≤ 258)) = false := by rw [Bool.and_eq_false_iff, decide_eq_false_iff_not, decide_eq_false_iff_not]; omega
          rw [e] at C; clear e
          go_enter Tryz.func33, Tryz.ntmps33
          go_wp2_with fail
          refine (C.out _).mono ?_; rintro e w' ⟨rfl, rfl⟩
          go_wp2
          all_goals (go_ret; refine ⟨ret_i ?_, (Below.refl _ _).alloc (Nat.le_refl _) _⟩; go_light; first | exact chk_no (by unfold OkTok; (try simp at *); omega) | exact chk_yes (by unfold OkTok; (try simp at *); omega))
      · skip
        have q0 : (k == 0) = false := by rw [beq_eq_false_iff_ne]; exact k0
        have q1 : (k == 1) = false := by rw [beq_eq_false_iff_ne]; exact k1
        have q2 : (k == 2) = false := by rw [beq_eq_false_iff_ne]; exact k2
        have e : chk k b l d r = 10 := (chk_no (by unfold OkTok; omega)).symm
        rw [e]; clear e
        go_enter Tryz.func33, Tryz.ntmps33
        go_wp2
        all_goals (go_ret; exact ⟨rfl, (Below.refl _ _).alloc (Nat.le_refl _) _⟩)

open Go.ChangeShapes Go.WideShapes Go.ChangeAt Go.RowKit
set_option linter.unusedVariables false
set_option maxRecDepth 100000

theorem bitLen_facts (n : Nat) (h0 : 1 ≤ n) (h : n ≤ 4294967295) : ∃ k, Lib.bitLen n = k + 1 ∧ k ≤ 31 ∧ 2 ^ k ≤ n ∧ n < 2 ^ (k + 1) := by
  have hb := Lib.bitLenAux_bounds 64 n (by omega) (by omega)
  have hl := Lib.bitLen_le n 32 (by decide) (by omega)
  unfold Lib.bitLen at hl ⊢
  refine ⟨Lib.bitLenAux 64 n - 1, by omega, by omega, hb.2.1, ?_⟩
  have e : Lib.bitLenAux 64 n - 1 + 1 = Lib.bitLenAux 64 n := by omega
  rw [e]; exact hb.2.2

theorem slotOf_small (x sole many : Nat) (h : x < sole) (hx : x ≤ 1000000000) (w : World) :
    Calls Tryz.prog 71 #[.int .i64 x, .int .i64 sole, .int .i64 many] w fun e w' => e = .returned (.tuple #[.int .i64 x, .int .i64 0, .int .i64 0]) ∧ w = w' := by
  go_enter Tryz.func71, Tryz.ntmps71
  go_wp2
  go_ret3
  exact ⟨rfl, rfl⟩

theorem div_cast (x k : Nat) : ((x / 2 ^ k : Nat) : Int) = (x : Int) / 2 ^ k := by simp
theorem ret3_i {a b c a' b' c' : Int} (h1 : a = a') (h2 : b = b') (h3 : c = c') : Ending.returned (.tuple #[.int .i64 a, .int .i64 b, .int .i64 c]) = .returned (.tuple #[.int .i64 a', .int .i64 b', .int .i64 c']) := by rw [h1, h2, h3]
theorem mask_bits (x k : Nat) (hx : x ≤ 1000000000) (hk : k ≤ 31) : Go.bits .and .i64 (x : Int) ((2 : Int) ^ k - 1) = ((x % 2 ^ k : Nat) : Int) := by
  have hp : 0 < 2 ^ k := Nat.pow_pos (by decide)
  have hp2 : 2 ^ k ≤ 2 ^ 31 := Nat.pow_le_pow_right (by decide) hk
  have e : (2 : Int) ^ k - 1 = ((2 ^ k - 1 : Nat) : Int) := by
    rw [Int.ofNat_sub hp]; simp
  rw [e]
  have h := (bits_nat .i64 62 (by decide) (fun n h0 h1 => IntWalk.i64_in n (by omega)) x (2 ^ k - 1) (by omega) (by omega)).1
  rw [h, Nat.and_two_pow_sub_one_eq_mod]
theorem pow_cast (k : Nat) : ((2 ^ k : Nat) : Int) = (2 : Int) ^ k := by simp
set_option maxHeartbeats 400000 in
theorem slotOf_great4 (x sole k : Nat) (h : sole ≤ x) (hx : x ≤ 1000000000) (hk : Lib.bitLen (x / 4) = k + 1) (hk1 : k ≤ 31) (w : World) :
    Calls Tryz.prog 71 #[.int .i64 x, .int .i64 sole, .int .i64 4] w fun e w' => e = .returned (.tuple #[.int .i64 (4 * k + x / 2 ^ k : Nat), .int .i64 k, .int .i64 (x % 2 ^ k : Nat)]) ∧ Below w.heap.size w w' := by
  have c1 := fun w => Tryz.bits_Len ((x : Int) / 4) w (by omega) (by omega)
  rw [show ((x : Int) / 4).toNat = x / 4 from by omega, hk] at c1
  have C1 := Lib.hid c1; clear c1
  have HK := Lib.hid hk; clear hk
  have hnx : ¬ x < sole := by omega
  have e0 : (0 : Int) ≤ (x : Int) / 2 ^ k := by rw [← div_cast x k]; exact Int.natCast_nonneg _
  have e1 : (x : Int) / 2 ^ k ≤ 1000000000 := by rw [← div_cast x k]; exact Int.ofNat_le.2 (Nat.le_trans (Nat.div_le_self _ _) hx)
  have e2 : (1 : Int) ≤ 2 ^ k := by rw [← pow_cast k]; have : 0 < 2 ^ k := Nat.pow_pos (by decide); omega
  have e3 : (2 : Int) ^ k ≤ 2147483648 := by rw [← pow_cast k]; have : 2 ^ k ≤ 2 ^ 31 := Nat.pow_le_pow_right (by decide) hk1; omega
  go_enter Tryz.func71, Tryz.ntmps71
  go_wp2_with fail
  refine (C1.out _).mono ?_; rintro e w' ⟨rfl, rfl⟩
  go_wp2_with fail
  go_quiet (fail)
  go_wp2
  go_ret3
  exact ⟨ret3_i (by rw [Int.natCast_add, Int.natCast_mul, div_cast]; rfl) rfl (mask_bits x k hx hk1), below_drewN (Below.refl _ _) _⟩
set_option maxHeartbeats 400000 in
theorem slotOf_great2 (x sole k : Nat) (h : sole ≤ x) (hx : x ≤ 1000000000) (hk : Lib.bitLen (x / 2) = k + 1) (hk1 : k ≤ 31) (w : World) :
    Calls Tryz.prog 71 #[.int .i64 x, .int .i64 sole, .int .i64 2] w fun e w' => e = .returned (.tuple #[.int .i64 (2 * k + x / 2 ^ k : Nat), .int .i64 k, .int .i64 (x % 2 ^ k : Nat)]) ∧ Below w.heap.size w w' := by
  have c1 := fun w => Tryz.bits_Len ((x : Int) / 2) w (by omega) (by omega)
  rw [show ((x : Int) / 2).toNat = x / 2 from by omega, hk] at c1
  have C1 := Lib.hid c1; clear c1
  have HK := Lib.hid hk; clear hk
  have hnx : ¬ x < sole := by omega
  have e0 : (0 : Int) ≤ (x : Int) / 2 ^ k := by rw [← div_cast x k]; exact Int.natCast_nonneg _
  have e1 : (x : Int) / 2 ^ k ≤ 1000000000 := by rw [← div_cast x k]; exact Int.ofNat_le.2 (Nat.le_trans (Nat.div_le_self _ _) hx)
  have e2 : (1 : Int) ≤ 2 ^ k := by rw [← pow_cast k]; have : 0 < 2 ^ k := Nat.pow_pos (by decide); omega
  have e3 : (2 : Int) ^ k ≤ 2147483648 := by rw [← pow_cast k]; have : 2 ^ k ≤ 2 ^ 31 := Nat.pow_le_pow_right (by decide) hk1; omega
  go_enter Tryz.func71, Tryz.ntmps71
  go_wp2_with fail
  refine (C1.out _).mono ?_; rintro e w' ⟨rfl, rfl⟩
  go_wp2_with fail
  go_quiet (fail)
  go_wp2
  go_ret3
  exact ⟨ret3_i (by rw [Int.natCast_add, Int.natCast_mul, div_cast]; rfl) rfl (mask_bits x k hx hk1), below_drewN (Below.refl _ _) _⟩

def exL (s : Nat) : Nat := if s < 8 ∨ s = 28 then 0 else (s - 8) / 4 + 1
/-- The first number of a slot. -/
def tbL : Nat → Nat
  | 0 => 2
  | s + 1 => tbL s + 2 ^ exL s
theorem tbL_bd : ∀ s : Nat, s ≤ 52 → tbL s ≤ 200000000 ∧ exL s ≤ 30 := by decide
def kL (n : Nat) : Nat := Lib.bitLen ((n - 2) / 4) - 1
def slotL (n : Nat) : Nat := if n = 258 then 28 else if n - 2 < 8 then n - 2 else 4 * kL n + (n - 2) / 2 ^ kL n
theorem slotL_facts : ∀ n : Fin 259, 2 ≤ n.val → slotL n.val ≤ 28 ∧ tbL (slotL n.val) ≤ n.val ∧ (∀ t : Fin 29, slotL n.val < t.val → n.val < tbL t.val) ∧
    (n.val ≠ 258 → ¬ n.val - 2 < 8 → Lib.bitLen ((n.val - 2) / 4) = kL n.val + 1 ∧ kL n.val ≤ 31 ∧ exL (slotL n.val) = kL n.val ∧ (n.val - 2) % 2 ^ kL n.val = n.val - tbL (slotL n.val)) ∧
    (n.val - 2 < 8 → exL (slotL n.val) = 0 ∧ tbL (slotL n.val) = n.val) := by decide +kernel

theorem ret4_i {a b c d a' b' c' d' : Int} (h1 : a = a') (h2 : b = b') (h3 : c = c') (h4 : d = d') : Ending.returned (.tuple #[.int .i64 a, .int .i64 b, .int .i64 c, .int .i64 d]) = .returned (.tuple #[.int .i64 a', .int .i64 b', .int .i64 c', .int .i64 d']) := by rw [h1, h2, h3, h4]

set_option maxHeartbeats 800000 in
theorem Len_in (n : Nat) (h2 : 2 ≤ n) (h : n ≤ 258) (w : World) :
    Calls Tryz.prog 49 #[.int .i64 n] w fun e w' => e = .returned (.tuple #[.int .i64 (slotL n), .int .i64 (exL (slotL n)), .int .i64 (n - tbL (slotL n) : Nat), .int .i64 0]) ∧ Below w.heap.size w w' := by
  have hf := slotL_facts ⟨n, by omega⟩ h2
  simp only at hf
  by_cases h258 : n = 258
  · subst h258
    go_enter Tryz.func49, Tryz.ntmps49
    go_wp2
    exact bodyPost_ret (v := .tuple #[.int .i64 28, .int .i64 0, .int .i64 0, .int .i64 0]) (by simp [results, Tryz.results62, go_sem]) rfl ⟨rfl, Below.refl _ _⟩
  · have hb : ((n : Int) == 258) = false := by rw [beq_eq_false_iff_ne]; omega
    by_cases h8 : n - 2 < 8
    · have e1 : slotL n = n - 2 := by unfold slotL; rw [if_neg h258, if_pos h8]
      obtain ⟨x, rfl⟩ : ∃ x, n = x + 2 := ⟨n - 2, by omega⟩
      have hx := hf.2.2.2.2 h8
      rw [hx.1, hx.2, e1]
      have C := Lib.hid (slotOf_small x 8 4 (by omega) (by omega))
      clear hf hx e1
      go_enter Tryz.func49, Tryz.ntmps49
      go_wp2_with fail
      refine (C.out _).mono ?_; rintro e w' ⟨rfl, rfl⟩
      go_wp2
      exact bodyPost_ret (v := .tuple #[.int .i64 x, .int .i64 0, .int .i64 0, .int .i64 0]) (by simp [results, Tryz.results62, go_sem]) rfl ⟨ret4_i (by omega) rfl (by omega) rfl, Below.refl _ _⟩
    · have hx := hf.2.2.2.1 h258 h8
      have e1 : slotL n = 4 * kL n + (n - 2) / 2 ^ kL n := by unfold slotL; rw [if_neg h258, if_neg h8]
      obtain ⟨x, rfl⟩ : ∃ x, n = x + 2 := ⟨n - 2, by omega⟩
      rw [hx.2.2.1, ← hx.2.2.2, e1]
      have C := Lib.hid (slotOf_great4 x 8 (kL (x + 2)) (by omega) (by omega) hx.1 hx.2.1)
      obtain ⟨K, hK⟩ : ∃ K, kL (x + 2) = K := ⟨_, rfl⟩
      rw [hK] at C ⊢
      obtain ⟨A, hA⟩ : ∃ A, 4 * K + x / 2 ^ K = A := ⟨_, rfl⟩
      obtain ⟨B, hB⟩ : ∃ B, x % 2 ^ K = B := ⟨_, rfl⟩
      have eA : 4 * K + (x + 2 - 2) / 2 ^ K = A := by rw [← hA]; simp
      have eB : (x + 2 - 2) % 2 ^ K = B := by rw [← hB]; simp
      rw [hA, hB] at C
      rw [eA, eB]
      clear hf hx e1 hK hA hB eA eB
      go_enter Tryz.func49, Tryz.ntmps49
      go_wp2_with fail
      refine (C.out _).mono ?_; rintro e w1 ⟨rfl, hb1⟩
      go_wp2
      exact bodyPost_ret (v := .tuple #[.int .i64 A, .int .i64 K, .int .i64 B, .int .i64 0]) (by simp [results, Tryz.results62, go_sem]) rfl ⟨rfl, hb1⟩

open Go.ChangeShapes Go.WideShapes Go.ChangeAt Go.RowKit
set_option linter.unusedVariables false
set_option maxRecDepth 100000

def szTok (k b l d r : Int) : Int := if OkTok k b l d r then (if k = 0 then 1 else l) else 0
def symTok (k b l d r : Int) : Int := if OkTok k b l d r then (if k = 0 then b else if k = 1 then 256 + slotL l.toNat else 285 + 29 * r + slotL l.toNat) else 0

/-- A boxed token stays as it is while others call. -/
theorem boxed5 {w w1 : World} {c0 c1 c2 c3 c4 : Value} {t : TypeId} (hb : Below (w.alloc (.cells #[c0, c1, c2, c3, c4] t)).heap.size (w.alloc (.cells #[c0, c1, c2, c3, c4] t)) w1) :
    (w1.cell? ⟨w.heap.size, 0, none⟩ = some c0 ∧ w1.cell? ⟨w.heap.size, 1, none⟩ = some c1 ∧ w1.cell? ⟨w.heap.size, 2, none⟩ = some c2) ∧ w1.cell? ⟨w.heap.size, 3, none⟩ = some c3 ∧ w1.cell? ⟨w.heap.size, 4, none⟩ = some c4 := by
  have h (j : Nat) := hb.cell (p := ⟨w.heap.size, j, none⟩) (by simp)
  refine ⟨⟨?_, ?_, ?_⟩, ?_, ?_⟩ <;> (rw [h, World.cell?_alloc_new]; rfl)
theorem below_box {w w1 : World} {c : Array Value} {t : TypeId} (hb : Below (w.alloc (.cells c t)).heap.size (w.alloc (.cells c t)) w1) : Below w.heap.size w w1 :=
  ((Below.refl _ _).alloc (Nat.le_refl _) _).trans (hb.mono (by simp))
theorem slotL_le (n : Nat) (h2 : 2 ≤ n) (h : n ≤ 258) : slotL n ≤ 28 := (slotL_facts ⟨n, by omega⟩ h2).1
theorem ret2_i {a b a' b' : Int} (h1 : a = a') (h2 : b = b') : Ending.returned (.tuple #[.int .i64 a, .int .i64 b]) = .returned (.tuple #[.int .i64 a', .int .i64 b']) := by rw [h1, h2]

set_option maxHeartbeats 800000 in
theorem sym_any (k b l d r : Int) (w : World) :
    Calls Tryz.prog 47 #[.agg #[.int .i64 k, .int .i64 b, .int .i64 l, .int .i64 d, .int .i64 r]] w fun e w' => e = .returned (.tuple #[.int .i64 (symTok k b l d r), .int .i64 (chk k b l d r)]) ∧ Below w.heap.size w w' := by
  have C := Lib.hid (check_any k b l d r)
  by_cases h : OkTok k b l d r
  · have e1 : chk k b l d r = 0 := (chk_yes h).symm
    rw [e1] at C
    rw [e1]; clear e1
    by_cases k0 : k = 0
    · subst k0
      have e2 : symTok 0 b l d r = b := by unfold symTok; rw [if_pos h, if_pos rfl]
      rw [e2]; clear e2 h
      go_enter Tryz.func47, Tryz.ntmps47
      go_wp2_with fail
      refine (C.out _).mono ?_; rintro e w1 ⟨rfl, hb1⟩
      obtain ⟨⟨q0, q1, q2⟩, q3, q4⟩ := boxed5 hb1
      have hlt : w.heap.size < w1.heap.size := by have := hb1.size; simp at this; omega
      have hbb := below_box hb1
      clear hb1
      go_wp2
      go_ret2
      exact ⟨rfl, hbb⟩
    · skip
      by_cases k1 : k = 1
      · subst k1
        obtain rfl : b = 0 := by unfold OkTok at h; omega
        have h2 : 2 ≤ l ∧ l ≤ 258 := by unfold OkTok at h; omega
        obtain ⟨n, rfl⟩ := Int.eq_ofNat_of_zero_le (show 0 ≤ l by omega)
        have e2 : symTok 1 0 n d r = 256 + slotL n := by unfold symTok; rw [if_pos h, if_neg (by decide), if_pos rfl, Int.toNat_natCast]
        have hs := slotL_le n (by omega) (by omega)
        have L := Lib.hid (Len_in n (by omega) (by omega))
        obtain ⟨S, hS⟩ : ∃ S, slotL n = S := ⟨_, rfl⟩
        obtain ⟨X, hX⟩ : ∃ X, exL S = X := ⟨_, rfl⟩
        obtain ⟨T, hT⟩ : ∃ T, n - tbL S = T := ⟨_, rfl⟩
        rw [hS, hX, hT] at L
        rw [hS] at e2 hs
        rw [e2]; clear e2 h hS hX hT
        go_enter Tryz.func47, Tryz.ntmps47
        go_wp2_with fail
        refine (C.out _).mono ?_; rintro e w1 ⟨rfl, hb1⟩
        obtain ⟨⟨q0, q1, q2⟩, q3, q4⟩ := boxed5 hb1
        have hlt : w.heap.size < w1.heap.size := by have := hb1.size; simp at this; omega
        have hbb := below_box hb1
        clear hb1
        go_wp2_with fail
        refine (L.out _).mono ?_; rintro e w2 ⟨rfl, hb2⟩
        have hb3 := hbb.trans (hb2.mono hbb.size)
        have r0 := (hb2.cell (p := ⟨w.heap.size, 0, none⟩) hlt).trans q0; have r1 := (hb2.cell (p := ⟨w.heap.size, 1, none⟩) hlt).trans q1; have r2 := (hb2.cell (p := ⟨w.heap.size, 2, none⟩) hlt).trans q2; have r3 := (hb2.cell (p := ⟨w.heap.size, 3, none⟩) hlt).trans q3; have r4 := (hb2.cell (p := ⟨w.heap.size, 4, none⟩) hlt).trans q4
        clear hbb hb2 q0 q1 q2 q3 q4
        go_wp2
        go_ret2
        exact ⟨ret2_i (by omega) rfl, hb3⟩
      · skip
        obtain rfl : k = 2 := by unfold OkTok at h; omega
        obtain rfl : b = 0 := by unfold OkTok at h; omega
        have h2 : 2 ≤ l ∧ l ≤ 258 := by unfold OkTok at h; omega
        have h3 : 0 ≤ r ∧ r ≤ 3 := by unfold OkTok at h; omega
        obtain ⟨n, rfl⟩ := Int.eq_ofNat_of_zero_le (show 0 ≤ l by omega)
        have e2 : symTok 2 0 n d r = 285 + 29 * r + slotL n := by unfold symTok; rw [if_pos h, if_neg (by decide), if_neg (by decide), Int.toNat_natCast]
        have hs := slotL_le n (by omega) (by omega)
        have L := Lib.hid (Len_in n (by omega) (by omega))
        obtain ⟨S, hS⟩ : ∃ S, slotL n = S := ⟨_, rfl⟩
        obtain ⟨X, hX⟩ : ∃ X, exL S = X := ⟨_, rfl⟩
        obtain ⟨T, hT⟩ : ∃ T, n - tbL S = T := ⟨_, rfl⟩
        rw [hS, hX, hT] at L
        rw [hS] at e2 hs
        rw [e2]; clear e2 h hS hX hT
        obtain ⟨h30, h31⟩ := h3
        go_enter Tryz.func47, Tryz.ntmps47
        go_wp2_with fail
        refine (C.out _).mono ?_; rintro e w1 ⟨rfl, hb1⟩
        obtain ⟨⟨q0, q1, q2⟩, q3, q4⟩ := boxed5 hb1
        have hlt : w.heap.size < w1.heap.size := by have := hb1.size; simp at this; omega
        have hbb := below_box hb1
        clear hb1
        go_wp2_with fail
        refine (L.out _).mono ?_; rintro e w2 ⟨rfl, hb2⟩
        have hb3 := hbb.trans (hb2.mono hbb.size)
        have r0 := (hb2.cell (p := ⟨w.heap.size, 0, none⟩) hlt).trans q0; have r1 := (hb2.cell (p := ⟨w.heap.size, 1, none⟩) hlt).trans q1; have r2 := (hb2.cell (p := ⟨w.heap.size, 2, none⟩) hlt).trans q2; have r3 := (hb2.cell (p := ⟨w.heap.size, 3, none⟩) hlt).trans q3; have r4 := (hb2.cell (p := ⟨w.heap.size, 4, none⟩) hlt).trans q4
        clear hbb hb2 q0 q1 q2 q3 q4
        go_wp2
        go_ret2
        exact ⟨ret2_i (by omega) rfl, hb3⟩
  · have e1 : chk k b l d r = 10 := (chk_no h).symm
    have e2 : symTok k b l d r = 0 := if_neg h
    rw [e1] at C
    rw [e2]; rw [e1]; clear e1 e2 h
    go_enter Tryz.func47, Tryz.ntmps47
    go_wp2_with fail
    refine (C.out _).mono ?_; rintro e w1 ⟨rfl, hb1⟩
    have hbb := below_box hb1
    clear hb1
    go_wp2
    go_ret2
    exact ⟨rfl, hbb⟩

end Go.Proofs.YtipcdkemokkdfaaGreat.Tok
