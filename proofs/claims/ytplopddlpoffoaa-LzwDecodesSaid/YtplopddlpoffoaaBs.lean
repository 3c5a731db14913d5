/- Contracts of layer 2's reader, more. -/
import Derived.Test.YtplopddlpoffoaaBr
import Derived.Test.YtplopddlpoffoaaBn
import Derived.IntWalk
import Derived.WalkLawsBesides
namespace Go.Proofs.Ytplopddlpoffoaa
open Go.ChangeShapes Go.WideShapes Go.ChangeAt Go.RowKit
set_option linter.unusedVariables false
set_option maxRecDepth 100000
open Bits

theorem rPeekOut (p : Option Addr) (n : Int) (h : n < 0 ∨ 56 < n ∨ p = none) (w : World) : Calls Try.prog 35 #[.pointer p, .int .i64 n] w fun e w' => e = .returned (.int .u64 0) ∧ w' = w := by
  rcases p with _ | p
  · go_enter Try.func35, Try.ntmps35
    go_wp2
    go_ret
    exact ⟨rfl, rfl⟩
  · rcases h with h | h | h
    · go_enter Try.func35, Try.ntmps35
      go_wp2
      go_ret
      exact ⟨rfl, rfl⟩
    · have h' : ¬ n < 0 := by omega
      go_enter Try.func35, Try.ntmps35
      go_wp2
      go_ret
      exact ⟨rfl, rfl⟩
    · cases h
/-- The word of the first k bytes that are left. -/
def seen (s : List UInt8) (a k : Nat) : Nat := wordOf (spread ((s.drop (a / 8)).take k))
theorem seen_zero (s : List UInt8) (a : Nat) : seen s a 0 = 0 := by simp [seen, spread, wordOf]
theorem seen_lt (s : List UInt8) (a k : Nat) (hk : k ≤ s.length - a / 8) : seen s a k < 2 ^ (8 * k) := by
  have := wordOf_spread_lt ((s.drop (a / 8)).take k)
  rwa [List.length_take_of_le (by simpa using hk)] at this
theorem seen_succ (s : List UInt8) (a k : Nat) (hk : k < s.length - a / 8) : seen s a (k + 1) = seen s a k ||| (s.getD (a / 8 + k) 0).toNat * 2 ^ (8 * k) := by
  have hk' : k < (s.drop (a / 8)).length := by simpa using hk
  have hl : ((s.drop (a / 8)).take k).length = k := List.length_take_of_le (by omega)
  have e : (s.drop (a / 8)).take (k + 1) = (s.drop (a / 8)).take k ++ [s.getD (a / 8 + k) 0] := by
    rw [List.take_succ_eq_append_getElem hk']
    congr 2
    have : a / 8 + k < s.length := by omega
    simp [List.getD_eq_getElem?_getD, this]
  have h := seen_lt s a k (by omega)
  unfold seen at h ⊢
  rw [e, wordOf_spread_snoc, hl, Nat.or_comm, Nat.mul_comm (s.getD (a / 8 + k) 0).toNat, ← Nat.two_pow_add_eq_or_of_lt h]
  omega
theorem seen_peek (s : List UInt8) (a n k : Nat) (hn : n ≤ 56) (hk : k = min 8 (s.length - a / 8)) : seen s a k / 2 ^ (a % 8) % 2 ^ n = peek ((spread s).drop a) n := by
  rw [spread_at, ← peek_bytes (s.drop (a / 8)) (a % 8) n (by omega)]
  unfold seen
  congr 3
  subst hk
  rcases Nat.le_total 8 (s.length - a / 8) with h | h
  · rw [Nat.min_eq_left h]
  · rw [Nat.min_eq_right h, List.take_of_length_le (by simp), List.take_of_length_le (by simpa using h)]
theorem byte_shift (b k : Nat) (hk : k < 8) (hb : b < 256) : b * 2 ^ (8 * k) < 2 ^ 64 := by
  have h1 : b * 2 ^ (8 * k) < 2 ^ 8 * 2 ^ (8 * k) := Nat.mul_lt_mul_of_pos_right hb (Nat.pow_pos (by decide))
  rw [← Nat.pow_add] at h1
  exact Nat.lt_of_lt_of_le h1 (Nat.pow_le_pow_right (by decide) (by omega))
theorem or_step (x b k y : Nat) (hk : k < 8) (hx : x < 2 ^ (8 * k)) (hb : b < 256) (hy : y = x ||| b * 2 ^ (8 * k)) :
    bits .or .u64 (x : Int) (IntKind.u64.wrap (IntKind.u64.wrap (b : Int) * 2 ^ (8 * k))) = (y : Int) := by
  have hs := byte_shift b k hk hb
  have e : IntKind.u64.wrap (IntKind.u64.wrap (b : Int) * 2 ^ (8 * k)) = ((b * 2 ^ (8 * k) : Nat) : Int) := by
    rw [wrap_u64_nat b (by omega)]
    have : ((b : Int) * 2 ^ (8 * k)) = ((b * 2 ^ (8 * k) : Nat) : Int) := by simp
    rw [this, wrap_u64_nat _ hs]
  rw [e, or_u64 x _ (Nat.lt_of_lt_of_le hx (Nat.pow_le_pow_right (by decide) (by omega))) hs, hy]
theorem and_step (x u n y : Nat) (hn : n ≤ 56) (hx : x < 2 ^ 64) (hy : x / 2 ^ u % 2 ^ n = y) :
    bits .and .u64 ((x : Int) / 2 ^ u) (IntKind.u64.wrap (IntKind.u64.wrap (2 ^ n) - 1)) = (y : Int) := by
  have hp : 2 ^ n ≤ 2 ^ 56 := Nat.pow_le_pow_right (by decide) hn
  have hq : 0 < 2 ^ n := Nat.pow_pos (by decide)
  have e1 : (2 : Int) ^ n = ((2 ^ n : Nat) : Int) := by simp
  have e2 : IntKind.u64.wrap (IntKind.u64.wrap (2 ^ n) - 1) = ((2 ^ n - 1 : Nat) : Int) := by
    rw [e1, wrap_u64_nat _ (by omega), show ((2 ^ n : Nat) : Int) - 1 = ((2 ^ n - 1 : Nat) : Int) from by omega, wrap_u64_nat _ (by omega)]
  have e3 : (x : Int) / 2 ^ u = ((x / 2 ^ u : Nat) : Int) := by simp
  rw [e2, e3, and_u64 _ _ (Nat.lt_of_le_of_lt (Nat.div_le_self _ _) hx) (by omega), Nat.and_two_pow_sub_one_eq_mod, hy]
set_option maxHeartbeats 800000 in
theorem rPeek_few (w : World) (g a n : Nat) (s : List UInt8) (h : IsReader w g s a) (hn : n ≤ 56) (h0 : 0 < s.length - a / 8 ∧ s.length - a / 8 < 8) : Calls Try.prog 35 #[.pointer (some ⟨g, 0, none⟩), .int .i64 n] w fun e w' => e = .returned (.int .u64 (peek ((spread s).drop a) n)) ∧ ∃ k, w' = w.drewN k := by
  obtain ⟨p, L, C, hg, ha, hL, hC, hm, hs, hp⟩ := h
  unfold maxLen at hm hs
  have c0 := cell_in hg 0
  have c1 := cell_in hg 1
  simp at c0 c1
  have hcond : 0 < L ∧ L < 8 := by omega
  obtain ⟨b, o, rfl, hb, hlt, hc⟩ := hp (by omega)
  have HF := Lib.hid (seen_peek s a n L hn (by omega))
  have HW : Hid (seen s a L < 2 ^ 64) := Nat.lt_of_lt_of_le (seen_lt s a L (by omega)) (Nat.pow_le_pow_right (by decide) (by omega))
  have HZ := Lib.hid (seen_zero s a)
  have HS : ∀ k, k < L → Hid (seen s a (k + 1) = seen s a k ||| (s[a / 8 + k]?.getD 0).toNat * 2 ^ (8 * k)) := fun k hk => by have := seen_succ s a k (by omega); rwa [List.getD_eq_getElem?_getD] at this
  have HT : ∀ k, k ≤ L → Hid (seen s a k < 2 ^ (8 * k)) := fun k hk => seen_lt s a k (by omega)
  have HC : Hid (∀ j, j < L → w.cell? ⟨b, o + j, none⟩ = some (.int .u8 ((s.getD (a / 8 + j) 0).toNat : Int))) := hc
  clear hL hp hg hc h0
  go_enter Try.func35, Try.ntmps35
  go_wp2
  go_quiet (fail)
  go_wp2
  go_loop [5, 30] (fun x i => ∃ k : Nat, k ≤ L ∧ i = .int .i64 k ∧ x = .int .u64 (seen s a k)) (fun _ i => L - (intOf i).toNat)
  case atStart => exact ⟨0, Nat.zero_le _, rfl, by rw [HZ.out]; rfl⟩
  case round =>
    obtain ⟨k, hk, rfl, rfl⟩ := hrel
    by_cases hk' : k < L
    · have hx := (HT k hk).out
      have hc1 := HC.out k (by omega)
      have hby : (s[a / 8 + k]?.getD 0).toNat < 256 := (s[a / 8 + k]?.getD 0).toNat_lt
      have HB := Lib.hid hby
      clear hby hc1 hx
      have hc1 := HC.out k (by omega)
      go_wp2
      go_round
      case rel => exact ⟨k + 1, by omega, by go_num, by rw [or_step _ _ k _ (by omega) (HT k (by omega)).out HB.out (HS k hk').out]⟩
      case measure => simp [intOf]; omega
    · obtain rfl : k = L := by omega
      go_wp2
      go_quiet (fail)
      go_wp2
      go_ret
      exact ⟨ret_i (by rw [and_step _ _ n _ hn HW.out HF.out]), _, by rw [World.drewN_drewN]⟩
set_option maxHeartbeats 800000 in
theorem rPeek_more (w : World) (g a n : Nat) (s : List UInt8) (h : IsReader w g s a) (hn : n ≤ 56) (h0 : 8 ≤ s.length - a / 8) : Calls Try.prog 35 #[.pointer (some ⟨g, 0, none⟩), .int .i64 n] w fun e w' => e = .returned (.int .u64 (peek ((spread s).drop a) n)) ∧ ∃ k, w' = w.drewN k := by
  obtain ⟨p, L, C, hg, ha, hL, hC, hm, hs, hp⟩ := h
  unfold maxLen at hm hs
  have c0 := cell_in hg 0
  have c1 := cell_in hg 1
  simp at c0 c1
  have hcond : 8 ≤ L := by omega
  obtain ⟨b, o, rfl, hb, hlt, hc⟩ := hp (by omega)
  have HF := Lib.hid (seen_peek s a n 8 hn (by omega))
  have HW : Hid (seen s a 8 < 2 ^ 64) := Nat.lt_of_lt_of_le (seen_lt s a 8 (by omega)) (Nat.pow_le_pow_right (by decide) (by omega))
  have HZ := Lib.hid (seen_zero s a)
  have HS : ∀ k, k < 8 → Hid (seen s a (k + 1) = seen s a k ||| (s[a / 8 + k]?.getD 0).toNat * 2 ^ (8 * k)) := fun k hk => by have := seen_succ s a k (by omega); rwa [List.getD_eq_getElem?_getD] at this
  have HT : ∀ k, k ≤ 8 → Hid (seen s a k < 2 ^ (8 * k)) := fun k hk => seen_lt s a k (by omega)
  have HC : Hid (∀ j, j < L → w.cell? ⟨b, o + j, none⟩ = some (.int .u8 ((s.getD (a / 8 + j) 0).toNat : Int))) := hc
  clear hL hp hg hc h0
  go_enter Try.func35, Try.ntmps35
  go_wp2
  go_quiet (fail)
  go_wp2
  go_loop [5, 30] (fun x i => ∃ k : Nat, k ≤ 8 ∧ i = .int .i64 k ∧ x = .int .u64 (seen s a k)) (fun _ i => 8 - (intOf i).toNat)
  case atStart => exact ⟨0, Nat.zero_le _, rfl, by rw [HZ.out]; rfl⟩
  case round =>
    obtain ⟨k, hk, rfl, rfl⟩ := hrel
    by_cases hk' : k < 8
    · have hx := (HT k hk).out
      have hc1 := HC.out k (by omega)
      have hby : (s[a / 8 + k]?.getD 0).toNat < 256 := (s[a / 8 + k]?.getD 0).toNat_lt
      have HB := Lib.hid hby
      clear hby hc1 hx
      have hc1 := HC.out k (by omega)
      go_wp2
      go_round
      case rel => exact ⟨k + 1, by omega, by go_num, by rw [or_step _ _ k _ (by omega) (HT k (by omega)).out HB.out (HS k hk').out]⟩
      case measure => simp [intOf]; omega
    · obtain rfl : k = 8 := by omega
      go_wp2
      go_quiet (fail)
      go_wp2
      go_ret
      exact ⟨ret_i (by rw [and_step _ _ n _ hn HW.out HF.out]), _, by rw [World.drewN_drewN]⟩
set_option maxHeartbeats 800000 in
theorem rPeek_none (w : World) (g a n : Nat) (s : List UInt8) (h : IsReader w g s a) (hn : n ≤ 56) (hz : s.length - a / 8 = 0) : Calls Try.prog 35 #[.pointer (some ⟨g, 0, none⟩), .int .i64 n] w fun e w' => e = .returned (.int .u64 (peek ((spread s).drop a) n)) ∧ ∃ k, w' = w.drewN k := by
  obtain ⟨p, L, C, hg, ha, hL, hC, hm, hs, hp⟩ := h
  unfold maxLen at hm hs
  obtain rfl : L = 0 := by omega
  have c0 := cell_in hg 0
  have c1 := cell_in hg 1
  simp at c0 c1
  have HF := Lib.hid (seen_peek s a n 0 hn (by omega))
  rw [seen_zero] at HF
  clear hL hp hg hz
  go_enter Try.func35, Try.ntmps35
  go_wp2
  go_quiet (fail)
  go_wp2
  refine wp_loop_rounds 1 ?_
  rw [rounds_succ]
  go_wp2
  go_quiet (fail)
  go_wp2
  go_ret
  exact ⟨ret_i (by
    have e := and_step 0 (a % 8) n _ hn (by decide) HF.out
    rw [← e]; simp), _, by rw [World.drewN_drewN]⟩
theorem rPeek (w : World) (g a n : Nat) (s : List UInt8) (h : IsReader w g s a) (hn : n ≤ 56) : Calls Try.prog 35 #[.pointer (some ⟨g, 0, none⟩), .int .i64 n] w fun e w' => e = .returned (.int .u64 (peek ((spread s).drop a) n)) ∧ ∃ k, w' = w.drewN k := by
  by_cases h0 : s.length - a / 8 = 0
  · exact rPeek_none w g a n s h hn h0
  · by_cases h8 : 8 ≤ s.length - a / 8
    · exact rPeek_more w g a n s h hn h8
    · exact rPeek_few w g a n s h hn (by omega)
theorem IsReader.drewN {w : World} {g a : Nat} {s : List UInt8} (h : IsReader w g s a) (k : Nat) : IsReader (w.drewN k) g s a := h
theorem rMayNone (n : Int) (w : World) : Calls Try.prog 52 #[.pointer none, .int .i64 n] w fun e w' => e = .returned (.int .i64 1) ∧ w' = w := by
  go_enter Try.func52, Try.ntmps52
  go_wp2
  go_ret
  exact ⟨rfl, rfl⟩
theorem rMayOut (p : Addr) (n : Int) (h : n < 0 ∨ 56 < n) (w : World) : Calls Try.prog 52 #[.pointer (some p), .int .i64 n] w fun e w' => e = .returned (.int .i64 2) ∧ w' = w := by
  rcases h with h | h
  · go_enter Try.func52, Try.ntmps52
    go_wp2
    go_ret
    exact ⟨rfl, rfl⟩
  · have h' : ¬ n < 0 := by omega
    go_enter Try.func52, Try.ntmps52
    go_wp2
    go_ret
    exact ⟨rfl, rfl⟩
theorem rMayIn (w : World) (g a n : Nat) (s : List UInt8) (h : IsReader w g s a) (hn : n ≤ 56) (hf : a + n ≤ 8 * s.length) : Calls Try.prog 52 #[.pointer (some ⟨g, 0, none⟩), .int .i64 n] w fun e w' => e = .returned (.int .i64 0) ∧ ∃ k, w' = w.drewN k := by
  have C := Lib.hid (rLeft w g a s h)
  have hb : n ≤ 8 * s.length - a := by omega
  obtain ⟨K, hK⟩ : ∃ K, 8 * s.length - a = K := ⟨_, rfl⟩
  rw [hK] at C hb
  clear h hK hf
  go_enter Try.func52, Try.ntmps52
  go_wp2_with fail
  refine C.out.mono ?_; rintro e w1 ⟨rfl, k, rfl⟩
  go_wp2
  go_ret
  exact ⟨rfl, _, rfl⟩
theorem rMayShort (w : World) (g a n : Nat) (s : List UInt8) (h : IsReader w g s a) (hn : n ≤ 56) (hf : 8 * s.length < a + n) : Calls Try.prog 52 #[.pointer (some ⟨g, 0, none⟩), .int .i64 n] w fun e w' => e = .returned (.int .i64 3) ∧ ∃ k, w' = w.drewN k := by
  have C := Lib.hid (rLeft w g a s h)
  have ha : a ≤ 8 * s.length := by obtain ⟨_, _, _, _, ha, _⟩ := h; exact ha
  have hb : 8 * s.length - a < n := by omega
  clear ha
  obtain ⟨K, hK⟩ : ∃ K, 8 * s.length - a = K := ⟨_, rfl⟩
  rw [hK] at C hb
  clear h hK hf
  go_enter Try.func52, Try.ntmps52
  go_wp2_with fail
  refine C.out.mono ?_; rintro e w1 ⟨rfl, k, rfl⟩
  go_wp2
  go_ret
  exact ⟨rfl, _, rfl⟩
theorem rTakeIn (w : World) (g a n : Nat) (s : List UInt8) (h : IsReader w g s a) (hn : n ≤ 56) (hf : a + n ≤ 8 * s.length) : Calls Try.prog 32 #[.pointer (some ⟨g, 0, none⟩), .int .i64 n] w fun e w' =>
    e = .returned (.tuple #[.int .u64 (peek ((spread s).drop a) n), .int .i64 0]) ∧ IsReader w' g s (a + n) ∧ Keeps (fun k => k = g) w w' ∧ w'.heap.size = w.heap.size := by
  have C := Lib.hid (rMayIn w g a n s h hn hf)
  obtain ⟨K, hK⟩ : ∃ K, peek ((spread s).drop a) n = K := ⟨_, rfl⟩
  have P := Lib.hid (fun k => rPeek (w.drewN k) g a n s h hn)
  rw [hK] at P; rw [hK]
  have Q := Lib.hid (fun k => rMove (w.drewN k) g a n s h hf)
  clear h hK
  go_enter Try.func32, Try.ntmps32
  go_wp2_with fail
  refine C.out.mono ?_; rintro e w1 ⟨rfl, k, rfl⟩
  go_wp2_with fail
  refine (P.out k).mono ?_; rintro e w1 ⟨rfl, j, rfl⟩
  go_wp2_with fail
  refine (Q.out _).mono ?_; rintro e w1 ⟨rfl, hr, hk, hz⟩
  go_wp2_with fail
  go_ret2
  exact ⟨rfl, hr, ⟨hk.os, hk.tape, hk.output, hk.size, hk.block⟩, hz⟩
theorem rTakeOut (w : World) (p : Option Addr) (n E : Int) (h : Hid (Calls Try.prog 52 #[.pointer p, .int .i64 n] w fun e w' => e = .returned (.int .i64 E) ∧ ∃ k, w' = w.drewN k)) (hE : 1 ≤ E) : Calls Try.prog 32 #[.pointer p, .int .i64 n] w fun e w' =>
    e = .returned (.tuple #[.int .u64 0, .int .i64 E]) ∧ ∃ k, w' = w.drewN k := by
  have hE' : (E == 0) = false := by rw [beq_eq_false_iff_ne]; omega
  go_enter Try.func32, Try.ntmps32
  go_wp2_with fail
  refine h.out.mono ?_; rintro e w1 ⟨rfl, k, rfl⟩
  go_wp2_with fail
  go_ret2
  exact ⟨rfl, _, rfl⟩
end Go.Proofs.Ytplopddlpoffoaa
