import Derived.Test.YtipcdkemokkdfaaGreatK31
import Derived.Test.YtipcdkemokkdfaaGreatK08
import Derived.IntWalk
import Derived.WalkLawsBesides
import Derived.Deep.CutRange
import Derived.Deep.RegionWith
import Derived.Test.YtipcdkemokkdfaaGreatK27
/- Contracts of layer 2's reader, more. -/
namespace Go.Proofs.YtipcdkemokkdfaaGreat
open Go.ChangeShapes Go.WideShapes Go.ChangeAt Go.RowKit
set_option linter.unusedVariables false
set_option maxRecDepth 100000
open Bits

theorem rPeekOut (p : Option Addr) (n : Int) (h : n < 0 ∨ 56 < n ∨ p = none) (w : World) : Calls Tryz.prog 57 #[.pointer p, .int .i64 n] w fun e w' => e = .returned (.int .u64 0) ∧ w' = w := by
  rcases p with _ | p
  · go_enter Tryz.func57, Tryz.ntmps57
    go_wp2
    go_ret
    exact ⟨rfl, rfl⟩
  · rcases h with h | h | h
    · go_enter Tryz.func57, Tryz.ntmps57
      go_wp2
      go_ret
      exact ⟨rfl, rfl⟩
    · have h' : ¬ n < 0 := by omega
      go_enter Tryz.func57, Tryz.ntmps57
      go_wp2
      go_ret
      exact ⟨rfl, rfl⟩
    · cases h
/-- The word of the first k bytes that are left. -/
def seen (s : List UInt8) (a k : Nat) : Nat := wordOf (spread ((s.drop (a / 8)).take k))
theorem seen_zero (s : List UInt8) (a : Nat) : seen s a 0 = 0 := by simp [seen, spread, wordOf]
theorem seen_lt (s : List UInt8) (a k : Nat) (hk : k ≤ s.length - a / 8) : seen s a k < 2 ^ (8 * k) := by
  have := wordOf_spread_lt ((s.drop (a / 8)).take k)
  rwa [List.length_take_of_le (by simpa using hk)] at this
theorem seen_succ (s : List UInt8) (a k : Nat) (hk : k < s.length - a / 8) : seen s a (k + 1) = seen s a k ||| (s.getD (a / 8 + k) 0).toNat * 2 ^ (8 * k) := by
  have hk' : k < (s.drop (a / 8)).length := by simpa using hk
  have hl : ((s.drop (a / 8)).take k).length = k := List.length_take_of_le (by omega)
  have e : (s.drop (a / 8)).take (k + 1) = (s.drop (a / 8)).take k ++ [s.getD (a / 8 + k) 0] := by
    rw [List.take_succ_eq_append_getElem hk']
    congr 2
    have : a / 8 + k < s.length := by omega
    simp [List.getD_eq_getElem?_getD, this]
  have h := seen_lt s a k (by omega)
  unfold seen at h ⊢
  rw [e, wordOf_spread_snoc, hl, Nat.or_comm, Nat.mul_comm (s.getD (a / 8 + k) 0).toNat, ← Nat.two_pow_add_eq_or_of_lt h]
  omega
theorem seen_peek (s : List UInt8) (a n k : Nat) (hn : n ≤ 56) (hk : k = min 8 (s.length - a / 8)) : seen s a k / 2 ^ (a % 8) % 2 ^ n = peek ((spread s).drop a) n := by
  rw [spread_at, ← peek_bytes (s.drop (a / 8)) (a % 8) n (by omega)]
  unfold seen
  congr 3
  subst hk
  rcases Nat.le_total 8 (s.length - a / 8) with h | h
  · rw [Nat.min_eq_left h]
  · rw [Nat.min_eq_right h, List.take_of_length_le (by simp), List.take_of_length_le (by simpa using h)]
theorem byte_shift (b k : Nat) (hk : k < 8) (hb : b < 256) : b * 2 ^ (8 * k) < 2 ^ 64 := by
  have h1 : b * 2 ^ (8 * k) < 2 ^ 8 * 2 ^ (8 * k) := Nat.mul_lt_mul_of_pos_right hb (Nat.pow_pos (by decide))
  rw [← Nat.pow_add] at h1
  exact Nat.lt_of_lt_of_le h1 (Nat.pow_le_pow_right (by decide) (by omega))
theorem or_step (x b k y : Nat) (hk : k < 8) (hx : x < 2 ^ (8 * k)) (hb : b < 256) (hy : y = x ||| b * 2 ^ (8 * k)) :
    bits .or .u64 (x : Int) (IntKind.u64.wrap (IntKind.u64.wrap (b : Int) * 2 ^ (8 * k))) = (y : Int) := by
  have hs := byte_shift b k hk hb
  have e : IntKind.u64.wrap (IntKind.u64.wrap (b : Int) * 2 ^ (8 * k)) = ((b * 2 ^ (8 * k) : Nat) : Int) := by
    rw [wrap_u64_nat b (by omega)]
    have : ((b : Int) * 2 ^ (8 * k)) = ((b * 2 ^ (8 * k) : Nat) : Int) := by simp
    rw [this, wrap_u64_nat _ hs]
  rw [e, or_u64 x _ (Nat.lt_of_lt_of_le hx (Nat.pow_le_pow_right (by decide) (by omega))) hs, hy]
theorem and_step (x u n y : Nat) (hn : n ≤ 56) (hx : x < 2 ^ 64) (hy : x / 2 ^ u % 2 ^ n = y) :
    bits .and .u64 ((x : Int) / 2 ^ u) (IntKind.u64.wrap (IntKind.u64.wrap (2 ^ n) - 1)) = (y : Int) := by
  have hp : 2 ^ n ≤ 2 ^ 56 := Nat.pow_le_pow_right (by decide) hn
  have hq : 0 < 2 ^ n := Nat.pow_pos (by decide)
  have e1 : (2 : Int) ^ n = ((2 ^ n : Nat) : Int) := by simp
  have e2 : IntKind.u64.wrap (IntKind.u64.wrap (2 ^ n) - 1) = ((2 ^ n - 1 : Nat) : Int) := by
    rw [e1, wrap_u64_nat _ (by omega), show ((2 ^ n : Nat) : Int) - 1 = ((2 ^ n - 1 : Nat) : Int) from by omega, wrap_u64_nat _ (by omega)]
  have e3 : (x : Int) / 2 ^ u = ((x / 2 ^ u : Nat) : Int) := by simp
  rw [e2, e3, and_u64 _ _ (Nat.lt_of_le_of_lt (Nat.div_le_self _ _) hx) (by omega), Nat.and_two_pow_sub_one_eq_mod, hy]
set_option maxHeartbeats 800000 in
theorem rPeek_few (w : World) (g a n : Nat) (s : List UInt8) (h : IsReader w g s a) (hn : n ≤ 56) (h0 : 0 < s.length - a / 8 ∧ s.length - a / 8 < 8) : Calls Tryz.prog 57 #[.pointer (some ⟨g, 0, none⟩), .int .i64 n] w fun e w' => e = .returned (.int .u64 (peek ((spread s).drop a) n)) ∧ ∃ k, w' = w.drewN k := by
  obtain ⟨p, L, C, hg, ha, hL, hC, hm, hs, hp⟩ := h
  unfold maxLen at hm hs
  have c0 := cell_in hg 0
  have c1 := cell_in hg 1
  simp at c0 c1
  have hcond : 0 < L ∧ L < 8 := by omega
  obtain ⟨b, o, rfl, hb, hlt, hc⟩ := hp (by omega)
  have HF := Lib.hid (seen_peek s a n L hn (by omega))
  have HW : Hid (seen s a L < 2 ^ 64) := Nat.lt_of_lt_of_le (seen_lt s a L (by omega)) (Nat.pow_le_pow_right (by decide) (by omega))
  have HZ := Lib.hid (seen_zero s a)
  have HS : ∀ k, k < L → Hid (seen s a (k + 1) = seen s a k ||| (s[a / 8 + k]?.getD 0).toNat * 2 ^ (8 * k)) := fun k hk => by have := seen_succ s a k (by omega); rwa [List.getD_eq_getElem?_getD] at this
  have HT : ∀ k, k ≤ L → Hid (seen s a k < 2 ^ (8 * k)) := fun k hk => seen_lt s a k (by omega)
  have HC : Hid (∀ j, j < L → w.cell? ⟨b, o + j, none⟩ = some (.int .u8 ((s.getD (a / 8 + j) 0).toNat : Int))) := hc
  clear hL hp hg hc h0
  go_enter Tryz.func57, Tryz.ntmps57
  go_wp2
  go_quiet (fail)
  go_wp2
  go_loop [5, 30] (fun x i => ∃ k : Nat, k ≤ L ∧ i = .int .i64 k ∧ x = .int .u64 (seen s a k)) (fun _ i => L - (intOf i).toNat)
  case atStart => exact ⟨0, Nat.zero_le _, rfl, by rw [HZ.out]; rfl⟩
  case round =>
    obtain ⟨k, hk, rfl, rfl⟩ := hrel
    by_cases hk' : k < L
    · have hx := (HT k hk).out
      have hc1 := HC.out k (by omega)
      have hby : (s[a / 8 + k]?.getD 0).toNat < 256 := (s[a / 8 + k]?.getD 0).toNat_lt
      have HB := Lib.hid hby
      clear hby hc1 hx
      have hc1 := HC.out k (by omega)
      go_wp2
      go_round
      case rel => exact ⟨k + 1, by omega, by go_num, by rw [or_step _ _ k _ (by omega) (HT k (by omega)).out HB.out (HS k hk').out]⟩
      case measure => simp [intOf]; omega
    · obtain rfl : k = L := by omega
      go_wp2
      go_quiet (fail)
      go_wp2
      go_ret
      exact ⟨ret_i (by rw [and_step _ _ n _ hn HW.out HF.out]), _, by rw [World.drewN_drewN]⟩
set_option maxHeartbeats 800000 in
theorem rPeek_more (w : World) (g a n : Nat) (s : List UInt8) (h : IsReader w g s a) (hn : n ≤ 56) (h0 : 8 ≤ s.length - a / 8) : Calls Tryz.prog 57 #[.pointer (some ⟨g, 0, none⟩), .int .i64 n] w fun e w' => e = .returned (.int .u64 (peek ((spread s).drop a) n)) ∧ ∃ k, w' = w.drewN k := by
  obtain ⟨p, L, C, hg, ha, hL, hC, hm, hs, hp⟩ := h
  unfold maxLen at hm hs
  have c0 := cell_in hg 0
  have c1 := cell_in hg 1
  simp at c0 c1
  have hcond : 8 ≤ L := by omega
  obtain ⟨b, o, rfl, hb, hlt, hc⟩ := hp (by omega)
  have HF := Lib.hid (seen_peek s a n 8 hn (by omega))
  have HW : Hid (seen s a 8 < 2 ^ 64) := Nat.lt_of_lt_of_le (seen_lt s a 8 (by omega)) (Nat.pow_le_pow_right (by decide) (by omega))
  have HZ := Lib.hid (seen_zero s a)
  have HS : ∀ k, k < 8 → Hid (seen s a (k + 1) = seen s a k ||| (s[a / 8 + k]?.getD 0).toNat * 2 ^ (8 * k)) := fun k hk => by have := seen_succ s a k (by omega); rwa [List.getD_eq_getElem?_getD] at this
  have HT : ∀ k, k ≤ 8 → Hid (seen s a k < 2 ^ (8 * k)) := fun k hk => seen_lt s a k (by omega)
  have HC : Hid (∀ j, j < L → w.cell? ⟨b, o + j, none⟩ = some (.int .u8 ((s.getD (a / 8 + j) 0).toNat : Int))) := hc
  clear hL hp hg hc h0
  go_enter Tryz.func57, Tryz.ntmps57
  go_wp2
  go_quiet (fail)
  go_wp2
  go_loop [5, 30] (fun x i => ∃ k : Nat, k ≤ 8 ∧ i = .int .i64 k ∧ x = .int .u64 (seen s a k)) (fun _ i => 8 - (intOf i).toNat)
  case atStart => exact ⟨0, Nat.zero_le _, rfl, by rw [HZ.out]; rfl⟩
  case round =>
    obtain ⟨k, hk, rfl, rfl⟩ := hrel
    by_cases hk' : k < 8
    · have hx := (HT k hk).out
      have hc1 := HC.out k (by omega)
      have hby : (s[a / 8 + k]?.getD 0).toNat < 256 := (s[a / 8 + k]?.getD 0).toNat_lt
      have HB := Lib.hid hby
      clear hby hc1 hx
      have hc1 := HC.out k (by omega)
      go_wp2
      go_round
      case rel => exact ⟨k + 1, by omega, by go_num, by rw [or_step _ _ k _ (by omega) (HT k (by omega)).out HB.out (HS k hk').out]⟩
      case measure => simp [intOf]; omega
    · obtain rfl : k = 8 := by omega
      go_wp2
      go_quiet (fail)
      go_wp2
      go_ret
      exact ⟨ret_i (by rw [and_step _ _ n _ hn HW.out HF.out]), _, by rw [World.drewN_drewN]⟩
set_option maxHeartbeats 800000 in
theorem rPeek_none (w : World) (g a n : Nat) (s : List UInt8) (h : IsReader w g s a) (hn : n ≤ 56) (hz : s.length - a / 8 = 0) : Calls Tryz.prog 57 #[.pointer (some ⟨g, 0, none⟩), .int .i64 n] w fun e w' => e = .returned (.int .u64 (peek ((spread s).drop a) n)) ∧ ∃ k, w' = w.drewN k := by
  obtain ⟨p, L, C, hg, ha, hL, hC, hm, hs, hp⟩ := h
  unfold maxLen at hm hs
  obtain rfl : L = 0 := by omega
  have c0 := cell_in hg 0
  have c1 := cell_in hg 1
  simp at c0 c1
  have HF := Lib.hid (seen_peek s a n 0 hn (by omega))
  rw [seen_zero] at HF
  clear hL hp hg hz
  go_enter Tryz.func57, Tryz.ntmps57
  go_wp2
  go_quiet (fail)
  go_wp2
  refine wp_loop_rounds 1 ?_
  rw [rounds_succ]
  go_wp2
  go_quiet (fail)
  go_wp2
  go_ret
  exact ⟨ret_i (by
    have e := and_step 0 (a % 8) n _ hn (by decide) HF.out
    rw [← e]; simp), _, by rw [World.drewN_drewN]⟩
theorem rPeek (w : World) (g a n : Nat) (s : List UInt8) (h : IsReader w g s a) (hn : n ≤ 56) : Calls Tryz.prog 57 #[.pointer (some ⟨g, 0, none⟩), .int .i64 n] w fun e w' => e = .returned (.int .u64 (peek ((spread s).drop a) n)) ∧ ∃ k, w' = w.drewN k := by
  by_cases h0 : s.length - a / 8 = 0
  · exact rPeek_none w g a n s h hn h0
  · by_cases h8 : 8 ≤ s.length - a / 8
    · exact rPeek_more w g a n s h hn h8
    · exact rPeek_few w g a n s h hn (by omega)
theorem IsReader.drewN {w : World} {g a : Nat} {s : List UInt8} (h : IsReader w g s a) (k : Nat) : IsReader (w.drewN k) g s a := h
theorem rMayOut (p : Addr) (n : Int) (h : n < 0 ∨ 56 < n) (w : World) : Calls Tryz.prog 98 #[.pointer (some p), .int .i64 n] w fun e w' => e = .returned (.int .i64 2) ∧ w' = w := by
  rcases h with h | h
  · go_enter Tryz.func98, Tryz.ntmps98
    go_wp2
    go_ret
    exact ⟨rfl, rfl⟩
  · have h' : ¬ n < 0 := by omega
    go_enter Tryz.func98, Tryz.ntmps98
    go_wp2
    go_ret
    exact ⟨rfl, rfl⟩
theorem rMayIn (w : World) (g a n : Nat) (s : List UInt8) (h : IsReader w g s a) (hn : n ≤ 56) (hf : a + n ≤ 8 * s.length) : Calls Tryz.prog 98 #[.pointer (some ⟨g, 0, none⟩), .int .i64 n] w fun e w' => e = .returned (.int .i64 0) ∧ ∃ k, w' = w.drewN k := by
  have C := Lib.hid (rLeft w g a s h)
  have hb : n ≤ 8 * s.length - a := by omega
  obtain ⟨K, hK⟩ : ∃ K, 8 * s.length - a = K := ⟨_, rfl⟩
  rw [hK] at C hb
  clear h hK hf
  go_enter Tryz.func98, Tryz.ntmps98
  go_wp2_with fail
  refine C.out.mono ?_; rintro e w1 ⟨rfl, k, rfl⟩
  go_wp2
  go_ret
  exact ⟨rfl, _, rfl⟩
theorem rMayShort (w : World) (g a n : Nat) (s : List UInt8) (h : IsReader w g s a) (hn : n ≤ 56) (hf : 8 * s.length < a + n) : Calls Tryz.prog 98 #[.pointer (some ⟨g, 0, none⟩), .int .i64 n] w fun e w' => e = .returned (.int .i64 3) ∧ ∃ k, w' = w.drewN k := by
  have C := Lib.hid (rLeft w g a s h)
  have ha : a ≤ 8 * s.length := by obtain ⟨_, _, _, _, ha, _⟩ := h; exact ha
  have hb : 8 * s.length - a < n := by omega
  clear ha
  obtain ⟨K, hK⟩ : ∃ K, 8 * s.length - a = K := ⟨_, rfl⟩
  rw [hK] at C hb
  clear h hK hf
  go_enter Tryz.func98, Tryz.ntmps98
  go_wp2_with fail
  refine C.out.mono ?_; rintro e w1 ⟨rfl, k, rfl⟩
  go_wp2
  go_ret
  exact ⟨rfl, _, rfl⟩
theorem rTakeOut (w : World) (p : Option Addr) (n E : Int) (h : Hid (Calls Tryz.prog 98 #[.pointer p, .int .i64 n] w fun e w' => e = .returned (.int .i64 E) ∧ ∃ k, w' = w.drewN k)) (hE : 1 ≤ E) : Calls Tryz.prog 74 #[.pointer p, .int .i64 n] w fun e w' =>
    e = .returned (.tuple #[.int .u64 0, .int .i64 E]) ∧ ∃ k, w' = w.drewN k := by
  have hE' : (E == 0) = false := by rw [beq_eq_false_iff_ne]; omega
  go_enter Tryz.func74, Tryz.ntmps74
  go_wp2_with fail
  refine h.out.mono ?_; rintro e w1 ⟨rfl, k, rfl⟩
  go_wp2_with fail
  go_ret2
  exact ⟨rfl, _, rfl⟩
theorem rSkipIn (w : World) (g a n : Nat) (s : List UInt8) (h : IsReader w g s a) (hn : n ≤ 56) (hf : a + n ≤ 8 * s.length) : Calls Tryz.prog 115 #[.pointer (some ⟨g, 0, none⟩), .int .i64 n] w fun e w' =>
    e = .returned (.int .i64 0) ∧ IsReader w' g s (a + n) ∧ Keeps (fun k => k = g) w w' ∧ w'.heap.size = w.heap.size := by
  have C := Lib.hid (rMayIn w g a n s h hn hf)
  have Q := Lib.hid (fun k => rMove (w.drewN k) g a n s h hf)
  clear h
  go_enter Tryz.func115, Tryz.ntmps115
  go_wp2_with fail
  refine C.out.mono ?_; rintro e w1 ⟨rfl, k, rfl⟩
  go_wp2_with fail
  refine (Q.out _).mono ?_; rintro e w1 ⟨rfl, hr, hk, hz⟩
  go_wp2_with fail
  go_ret
  exact ⟨rfl, hr, ⟨hk.os, hk.tape, hk.output, hk.size, hk.block⟩, hz⟩
theorem rSkipOut (w : World) (p : Option Addr) (n E : Int) (h : Hid (Calls Tryz.prog 98 #[.pointer p, .int .i64 n] w fun e w' => e = .returned (.int .i64 E) ∧ ∃ k, w' = w.drewN k)) (hE : 1 ≤ E) : Calls Tryz.prog 115 #[.pointer p, .int .i64 n] w fun e w' =>
    e = .returned (.int .i64 E) ∧ ∃ k, w' = w.drewN k := by
  have hE' : (E == 0) = false := by rw [beq_eq_false_iff_ne]; omega
  go_enter Tryz.func115, Tryz.ntmps115
  go_wp2_with fail
  refine h.out.mono ?_; rintro e w1 ⟨rfl, k, rfl⟩
  go_wp2_with fail
  go_ret
  exact ⟨rfl, _, rfl⟩
end Go.Proofs.YtipcdkemokkdfaaGreat

/- Layers 1 and 2: what layer 10 needs of them. -/
namespace Go.Proofs.YtipcdkemokkdfaaGreat
open Go.ChangeShapes Go.WideShapes Go.ChangeAt Go.RowKit
set_option linter.unusedVariables false
set_option maxRecDepth 100000
open Bits
theorem add_add (x : Addr) (t i : Nat) : (x.add t).add i = x.add (t + i) := by
  obtain ⟨b, o, e⟩ := x
  by_cases hi : i = 0 <;> by_cases ht : t = 0 <;> simp [Addr.add, hi, ht, Nat.add_assoc]
theorem IsBoo.drop {w : World} {a : Option Addr} {l : List Bool} (h : IsBoo w a l) (t : Nat) : IsBoo w (a.map (·.add t)) (l.drop t) := by
  by_cases hz : l.drop t = []
  · exact .inl hz
  rcases h with rfl | ⟨x, rfl, hc⟩
  · simp at hz
  · refine .inr ⟨_, rfl, fun i hi => ?_⟩
    rw [List.length_drop] at hi
    rw [add_add x t i, hc (t + i) (by omega)]
    simp [List.getD_eq_getElem?_getD]
theorem IsBoo.alloc {w : World} {a : Option Addr} {l : List Bool} (h : IsBoo w a l) (o : Obj) : IsBoo (w.alloc o) a l := h.kept ((Below.refl _ _).alloc (Nat.le_refl _) o)
def takeS (l : List Bool) (t : Nat) (n : Int) : Nat × Nat × Int :=
  if n < 0 ∨ 56 < n then (t, 0, 2) else if l.length < t + n.toNat then (t, 0, 3) else (t + n.toNat, peek (l.drop t) n.toNat, 0)
theorem IsReader.kept {w w' : World} {g a : Nat} {s : List UInt8} (h : IsReader w g s a) (hb : Below w.heap.size w w') : IsReader w' g s a := by
  obtain ⟨p, L, C, hg, h1, h2, h3, h4, h5, h6⟩ := h
  refine ⟨p, L, C, (Keeps.of_below (S := fun _ => False) hb).heap hg (fun h => h), h1, h2, h3, h4, h5, fun h0 => ?_⟩
  obtain ⟨b, o, e, hne, hlt, hc⟩ := h6 h0
  exact ⟨b, o, e, hne, Nat.lt_of_lt_of_le hlt hb.size, fun j hj => (hb.cell (p := ⟨b, o + j, none⟩) hlt).trans (hc j hj)⟩
theorem IsReader.alloc {w : World} {g a : Nat} {s : List UInt8} (h : IsReader w g s a) (o : Obj) : IsReader (w.alloc o) g s a := h.kept ((Below.refl _ _).alloc (Nat.le_refl _) o)
theorem IsReader.lt {w : World} {g a : Nat} {s : List UInt8} (h : IsReader w g s a) : g < w.heap.size := by obtain ⟨p, L, C, hg, -⟩ := h; exact block_lt hg
theorem IsReader.le {w : World} {g a : Nat} {s : List UInt8} (h : IsReader w g s a) : a ≤ (spread s).length := by obtain ⟨p, L, C, hg, h1, -⟩ := h; rw [spread_length]; exact h1
theorem rSkipU (w : World) (g t : Nat) (s : List UInt8) (n : Int) (h : IsReader w g s t) (t' W : Nat) (E : Int) (hS : takeS (spread s) t n = (t', W, E)) :
    Calls Tryz.prog 115 #[.pointer (some ⟨g, 0, none⟩), .int .i64 n] w fun e w' => e = .returned (.int .i64 E) ∧ IsReader w' g s t' ∧ Keeps (fun k => k = g) w w' := by
  unfold takeS at hS
  by_cases h1 : n < 0 ∨ 56 < n
  · rw [if_pos h1] at hS
    obtain ⟨rfl, rfl, rfl⟩ := by simpa using hS
    refine (rSkipOut w _ n 2 ((rMayOut _ n h1 w).mono fun e w' ⟨h1, h2⟩ => ⟨h1, 0, h2⟩) (by decide)).mono ?_
    rintro e w' ⟨rfl, k, rfl⟩
    exact ⟨rfl, h, (Keeps.refl _ _).drewN _⟩
  · rw [if_neg h1] at hS
    obtain ⟨n, rfl⟩ : ∃ m : Nat, n = m := ⟨n.toNat, by omega⟩
    rw [Int.toNat_natCast] at hS
    have hn : n ≤ 56 := by omega
    by_cases h2 : (spread s).length < t + n
    · rw [if_pos h2] at hS
      obtain ⟨rfl, rfl, rfl⟩ := by simpa using hS
      refine (rSkipOut w _ n 3 (rMayShort w g _ n s h hn (by rw [← spread_length]; exact h2)) (by decide)).mono ?_
      rintro e w' ⟨rfl, k, rfl⟩
      exact ⟨rfl, h, (Keeps.refl _ _).drewN _⟩
    · rw [if_neg h2] at hS
      obtain ⟨rfl, rfl, rfl⟩ := by simpa using hS
      refine (rSkipIn w g t n s h hn (by rw [← spread_length]; omega)).mono ?_
      rintro e w' ⟨rfl, hr, hk, -⟩
      exact ⟨rfl, hr, hk⟩
def peekS (l : List Bool) (t : Nat) (n : Int) : Nat := if n < 0 ∨ 56 < n then 0 else peek (l.drop t) n.toNat
theorem rPeekU (w : World) (g t : Nat) (s : List UInt8) (n : Int) (h : IsReader w g s t) (W : Nat) (hS : peekS (spread s) t n = W) :
    Calls Tryz.prog 57 #[.pointer (some ⟨g, 0, none⟩), .int .i64 n] w fun e w' => e = .returned (.int .u64 W) ∧ Below w.heap.size w w' := by
  unfold peekS at hS
  by_cases h1 : n < 0 ∨ 56 < n
  · rw [if_pos h1] at hS
    subst hS
    exact (rPeekOut _ n (by omega) w).mono (by rintro e w' ⟨rfl, rfl⟩; exact ⟨rfl, Below.refl _ _⟩)
  · rw [if_neg h1] at hS
    obtain ⟨n, rfl⟩ : ∃ m : Nat, n = m := ⟨n.toNat, by omega⟩
    rw [Int.toNat_natCast] at hS
    subst hS
    exact (rPeek w g t n s h (by omega)).mono (by rintro e w' ⟨rfl, k, rfl⟩; exact ⟨rfl, below_dn (Below.refl _ _) _⟩)
end Go.Proofs.YtipcdkemokkdfaaGreat

/- Layer 10: Next, Size. -/
namespace Go.Proofs.YtipcdkemokkdfaaGreat
open Go.ChangeShapes Go.WideShapes Go.ChangeAt Go.RowKit
set_option linter.unusedVariables false
set_option linter.unusedSimpArgs false
set_option maxRecDepth 100000
open KraftMath CanonMath TurnMath Bits
theorem tab_at {l : List Int} {L v : Nat} (hv : v < 2 ^ L) : (tabK l L l.length)[v]? = some ((((entB l L v).1 : Nat) : Int), (((entB l L v).2 : Nat) : Int)) := by
  unfold tabK entB
  simp [hv]
theorem ent_le {l : List Int} {L v : Nat} (hl : ∀ s, s < l.length → len l s ≤ L) : (entB l L v).2 ≤ L ∧ ((entB l L v).2 = 0 → (entB l L v).1 = 0) := by
  unfold entB entK
  cases hf : (List.range l.length).find? (hitAt l (bitsOf v L)) with
  | none => simp
  | some s =>
    have h1 := List.find?_some hf
    have h2 := List.mem_range.1 (List.mem_of_find?_eq_some hf)
    refine ⟨hl s h2, fun h0 => ?_⟩
    unfold hitAt at h1
    simp only at h0
    rw [h0] at h1
    simp at h1
def C4 (W : World) (gt ge P : Nat) (v1 v2 v3 v4 : Value) : Prop := W.cell? ⟨gt, 0, none⟩ = some v1 ∧ W.cell? ⟨gt, 1, none⟩ = some v2 ∧ W.cell? ⟨ge, P * 2, none⟩ = some v3 ∧ W.cell? ⟨ge, P * 2 + 1, none⟩ = some v4
theorem C4.keep {W w5 : World} {gt ge P : Nat} {v1 v2 v3 v4 : Value} (h : C4 W gt ge P v1 v2 v3 v4) (hb : Below W.heap.size W w5) (h1 : gt < W.heap.size) (h2 : ge < W.heap.size) : C4 w5 gt ge P v1 v2 v3 v4 :=
  ⟨(hb.cell (p := ⟨gt, 0, none⟩) h1).trans h.1, (hb.cell (p := ⟨gt, 1, none⟩) h1).trans h.2.1, (hb.cell (p := ⟨ge, P * 2, none⟩) h2).trans h.2.2.1, (hb.cell (p := ⟨ge, P * 2 + 1, none⟩) h2).trans h.2.2.2⟩
theorem C4.far {W : World} {gt ge P : Nat} {v1 v2 v3 v4 : Value} (h : C4 W gt ge P v1 v2 v3 v4) {g : Nat} (h1 : gt ≠ g) (h2 : ge ≠ g) (u1 u2 : Value) : C4 ((W.setCell ⟨g, 0, none⟩ u1).setCell ⟨g, 1, none⟩ u2) gt ge P v1 v2 v3 v4 := ⟨far2 h.1 h1, far2 h.2.1 h1, far2 h.2.2.1 h2, far2 h.2.2.2 h2⟩
set_option maxHeartbeats 3200000 in
theorem fNext (w : World) (B gt ge g L : Nat) (l : List Int) (s : List UInt8) (t : Nat) (hL1 : 1 ≤ L) (hL : L ≤ 15) (hlen : ∀ s, s < l.length → len l s ≤ L) (hll : l.length ≤ 1024) (ht : IsTab w B gt ge L (2 ^ L) (tabK l L l.length)) (hr : IsReader w g s t) (hgt : gt ≠ g) (hge : ge ≠ g) (X Y E : Int) (hX : nextL l L ((spread s).drop t) = (X, Y, E)) :
    Calls Tryz.prog 120 #[.pointer (some ⟨gt, 0, none⟩), .pointer (some ⟨g, 0, none⟩)] w fun e w' => e = .returned (.tuple #[.int .i64 X, .int .i64 E]) ∧ IsReader w' g s (t + Y.toNat) ∧ Keeps (fun j => j = g) w w' := by
  have hN0 : 0 < 2 ^ L := Nat.pow_pos (by decide)
  have hN1 : 2 ^ L ≤ 2 ^ 15 := Nat.pow_le_pow_right (by decide) hL
  obtain ⟨P, hP⟩ : ∃ P, peek ((spread s).drop t) L = P := ⟨_, rfl⟩
  have hPl := peek_lt ((spread s).drop t) L
  rw [hP] at hPl
  have hte := tab_at (l := l) hPl
  have hel := ent_le (l := l) (L := L) (v := P) hlen
  unfold nextL at hX
  rw [hP] at hX
  have CP := Lib.hid (fun W h => rPeekU W g t s (L : Int) h P (by unfold peekS; rw [if_neg (by omega), Int.toNat_natCast, hP]))
  have HIT := Lib.hid (fun s' (h : (entB l L P).1 = s') => h)
  obtain ⟨⟨sy, n⟩, hent⟩ : ∃ q, entB l L P = q := ⟨_, rfl⟩
  rw [hent] at hte hel hX
  have hsy : sy ≤ 1024 := by
    have h0 : entB l L P = (sy, n) := hent
    unfold entB entK at h0
    cases hf : (List.range l.length).find? (hitAt l (bitsOf P L)) with
    | none => rw [hf] at h0; injection h0 with e1 e2; omega
    | some q =>
      rw [hf] at h0
      have := List.mem_range.1 (List.mem_of_find?_eq_some hf)
      injection h0 with e1 e2; omega
  simp only at hX hel
  have hwl : (spread s).length - t = ((spread s).drop t).length := by rw [List.length_drop]
  obtain ⟨N, hN⟩ : ∃ N, 2 ^ L = N := ⟨_, rfl⟩
  rw [hN] at ht hN0 hN1 hPl
  have g1 : w.cell? ⟨gt, 0, none⟩ = some (.slice (some ⟨ge, 0, none⟩) N N) := cell_lit ht.tb 0 _ rfl
  have g2 : w.cell? ⟨gt, 1, none⟩ = some (.int .i64 L) := cell_lit ht.tb 1 _ rfl
  have c0 := OwnS.cell flatE ht.row P 0 _ hte (by decide)
  have c1 := OwnS.cell flatE ht.row P 1 _ hte (by decide)
  simp only [fE, List.getElem?_cons_zero, List.getElem?_cons_succ, Nat.add_zero] at c0 c1
  have lgt := block_lt ht.tb
  have lge := (World.ownsRow.lt ht.row ge rfl).2
  have hP0 : (0 : Int) ≤ (P : Int) := by omega
  have hP1 : (P : Int) < (N : Int) := by omega
  have HR := Lib.hid hr; have HX := Lib.hid hX; have HWL := Lib.hid hwl; have HEL := Lib.hid hel
  have HG := Lib.hid (show w.cell? ⟨gt, 0, none⟩ = some (.slice (some ⟨ge, 0, none⟩) N N) ∧ w.cell? ⟨gt, 1, none⟩ = some (.int .i64 L) ∧ w.cell? ⟨ge, P * 2, none⟩ = some (.int .i32 sy) ∧ w.cell? ⟨ge, P * 2 + 1, none⟩ = some (.int .i32 n) from ⟨g1, g2, c0, c1⟩)
  clear ht hr hX hwl hent hte hel hP hN HIT
  go_enter Tryz.func120, Tryz.ntmps120
  go_wp2_with fail
  go_cut [6] from 8 to 33 (fun s6 wc => ∃ gb, s6 = .pointer (some ⟨gb, 0, none⟩) ∧ w.heap.size ≤ gb ∧ Hid (wc.heap[gb]? = some (.cells #[.int .i32 sy, .int .i32 n] 198 (0, 0))) ∧ Hid (Below w.heap.size w wc))
  case first =>
    have H4 := Lib.hid (show C4 w gt ge P (.slice (some ⟨ge, 0, none⟩) N N) (.int .i64 L) (.int .i32 sy) (.int .i32 n) from HG.out)
    have HA := Lib.hid (fun o => H4.out.keep (w5 := w.drew.alloc o) ((Below.refl _ w).drew.alloc (Nat.le_refl _) o) lgt lge)
    go_region_held3 (fun w1 => w1.cell? ⟨gt, 0, none⟩ = some (.slice (some ⟨ge, 0, none⟩) N N) ∧ w1.cell? ⟨gt, 1, none⟩ = some (.int .i64 L) ∧ w1.cell? ⟨ge, P * 2, none⟩ = some (.int .i32 sy) ∧ w1.cell? ⟨ge, P * 2 + 1, none⟩ = some (.int .i32 n)) (first | exact HG.out | exact HA.out _ | exact hS5 | exact hS6 _ | exact hS7 _ _ | fail) (first | ((go_at_call 57; refine (CP.out w.drew (HR.out.drewN 1)).mono ?_; rintro e w5 ⟨rfl, hb5⟩; have hS5 := H4.out.keep ((Below.refl _ w).drew.trans hb5) lgt lge; have hS6 := fun o => H4.out.keep (((Below.refl _ w).drew.trans hb5).alloc (show w.heap.size ≤ w5.heap.size from hb5.size) o) lgt lge)) | ((go_at_call 57; refine (CP.out _ ((HR.out.drewN 1).alloc _)).mono ?_; rintro e w5 ⟨rfl, hb5⟩; have hS5 := H4.out.keep (((Below.refl _ w).drew.alloc (Nat.le_refl _) _).trans (hb5.mono (by simp))) lgt lge; have hbx : w5.heap[w.heap.size]? = some (.cells #[.int .i32 0, .int .i32 0] 198 (0, 0)) := (hb5.block w.heap.size (by simp)).trans (heap_alloc_new w.drew _); have q0 : w5.cell? ⟨w.heap.size, 0, none⟩ = some (.int .i32 0) := cell_lit hbx 0 _ rfl; have q1 : w5.cell? ⟨w.heap.size, 1, none⟩ = some (.int .i32 0) := cell_lit hbx 1 _ rfl; have fq0 := free_in hbx 0; have fq1 := free_in hbx 1; have hS7 := fun u1 u2 => C4.far hS5 (g := w.heap.size) (by omega) (by omega) u1 u2)) | fail)
    all_goals
      go_wp2_with fail
      go_meet
      case rel => first
        | exact ⟨_, rfl, hb5.size, Lib.hid (heap_alloc_new _ _), Lib.hid (((Below.refl _ w).drew.trans hb5).alloc hb5.size _)⟩
        | exact ⟨_, rfl, Nat.le_refl _, Lib.hid (block_set (block_set hbx 0 _) 1 _), Lib.hid (((((Below.refl _ w).drew.alloc (Nat.le_refl _) _).trans (hb5.mono (by simp))).setCell (p := ⟨w.heap.size, 0, none⟩) (Nat.le_refl _) _).setCell (p := ⟨w.heap.size, 1, none⟩) (Nat.le_refl _) _)⟩
  case rest =>
    obtain ⟨gb, rfl, hgb, hbox, hb⟩ := hcut
    have b0 : wc.cell? ⟨gb, 0, none⟩ = some (.int .i32 sy) := cell_lit hbox.out 0 _ rfl
    have b1 : wc.cell? ⟨gb, 1, none⟩ = some (.int .i32 n) := cell_lit hbox.out 1 _ rfl
    have hr2 := HR.out.kept hb.out
    have htl := HR.out.le
    have hn15 := HEL.out.1
    clear g1 g2 c0 c1 CP
    by_cases hn0 : n = 0
    · have hs0 := HEL.out.2 hn0
      subst hn0
      subst hs0
      have hx := HX.out
      rw [if_pos rfl] at hx
      injection hx with e1 e2
      injection e2 with e2 e3
      subst e1 e2 e3
      have HRR := Lib.hid hr2
      have HK := Lib.hid (show Keeps (fun j => j = g) w wc from Keeps.of_below hb.out)
      clear hr2
      go_wp2_with fail
      go_ret2
      exact ⟨rfl, HRR.out, HK.out⟩
    · have hx := HX.out
      rw [if_neg hn0] at hx
      have hnb : ((n : Int) == 0) = false := by rw [beq_eq_false_iff_ne]; omega
      have hwl := HWL.out
      by_cases hsh : ((spread s).drop t).length < n
      · rw [if_pos hsh] at hx
        injection hx with e1 e2
        injection e2 with e2 e3
        subst e1 e2 e3
        have CS := Lib.hid (rSkipU wc g t s (n : Int) hr2 t 0 3 (by unfold takeS; rw [if_neg (by omega), if_pos (by rw [Int.toNat_natCast]; omega)]))
        have HB := hb
        clear hr2 hsh hwl
        go_wp2_with fail
        refine CS.out.mono ?_; rintro e w6 ⟨rfl, hr6, hk6⟩
        have HRR := Lib.hid hr6
        have HK := Lib.hid ((show Keeps (fun j => j = g) w wc from Keeps.of_below hb.out).trans hk6)
        clear hr6 hk6
        go_wp2_with fail
        go_ret2
        exact ⟨rfl, HRR.out, HK.out⟩
      · rw [if_neg hsh] at hx
        injection hx with e1 e2
        injection e2 with e2 e3
        subst e1 e2 e3
        have CS := Lib.hid (rSkipU wc g t s (n : Int) hr2 (t + n) (peek ((spread s).drop t) n) 0 (by unfold takeS; rw [if_neg (by omega), if_neg (by rw [Int.toNat_natCast]; omega), Int.toNat_natCast]))
        clear hr2 hsh hwl
        go_wp2_with fail
        refine CS.out.mono ?_; rintro e w6 ⟨rfl, hr6, hk6⟩
        have HRR := Lib.hid (show IsReader w6 g s (t + ((n : Nat) : Int).toNat) by rw [Int.toNat_natCast]; exact hr6)
        have HK := Lib.hid ((show Keeps (fun j => j = g) w wc from Keeps.of_below hb.out).trans hk6)
        have b0 := (hk6.heap hbox.out (by
          have := IsReader.lt HR.out
          show ¬ gb = g; omega))
        have b0 : w6.cell? ⟨gb, 0, none⟩ = some (.int .i32 sy) := cell_lit b0 0 _ rfl
        clear hr6 hk6
        go_wp2_with fail
        go_ret2
        exact ⟨rfl, HRR.out, HK.out⟩
end Go.Proofs.YtipcdkemokkdfaaGreat

/- Layers 10, 13: a reader whose bytes lie below a bound. -/
namespace Go.Proofs.YtipcdkemokkdfaaGreat
open Go.ChangeShapes Go.WideShapes Go.ChangeAt Go.RowKit
set_option linter.unusedVariables false
set_option linter.unusedSimpArgs false
set_option maxRecDepth 100000
open KraftMath CanonMath TurnMath Bits
/-- A reader, and its bytes, lie below B. -/
def Far (w : World) (g B : Nat) : Prop := g < B ∧ ∀ p L C u t, w.heap[g]? = some (.cells #[.slice p L C, u, t] 120 (0, 0)) → 0 < L → ∃ b o, p = some ⟨b, o, none⟩ ∧ b < B
theorem far_close {w : World} {g B : Nat} {x y z u v : Value} {p q : Option Addr} {L C M D e : Nat} (hg : w.heap[g]? = some (.cells #[.slice p L C, y, z] 120 (0, 0))) (hF : Far w g B) (hM : M ≤ L) (hq : 0 < M → q = p.map (fun x => x.add e)) : Far (((w.setCell ⟨g, 2, none⟩ v).setCell ⟨g, 0, none⟩ (.slice q M D)).setCell ⟨g, 1, none⟩ u).drew g B := by
  refine ⟨hF.1, fun p' L' C' u' t' h h0 => ?_⟩
  have h2 : (((w.setCell ⟨g, 2, none⟩ v).setCell ⟨g, 0, none⟩ (.slice q M D)).setCell ⟨g, 1, none⟩ u).drew.heap[g]? = _ := set3 hg (.slice q M D) u v
  rw [h2] at h
  injection h with h
  injection h with h _ _
  have h3 := congrArg Array.toList h
  simp at h3
  obtain ⟨⟨rfl, rfl, rfl⟩, -, -⟩ := h3
  obtain ⟨b, o, rfl, hb⟩ := hF.2 _ _ _ _ _ hg (by omega)
  rw [hq h0]
  refine ⟨b, o + e, ?_, hb⟩
  simp only [Option.map_some, Option.some.injEq]
  unfold Addr.add; split <;> simp_all
theorem Far.kept {w w' : World} {g B : Nat} (h : Far w g B) (he : w'.heap[g]? = w.heap[g]?) : Far w' g B := ⟨h.1, fun p L C u t e => h.2 p L C u t (by rw [← he]; exact e)⟩
set_option maxHeartbeats 1600000 in
theorem rMoveF (w : World) (g a n : Nat) (s : List UInt8) (h : IsReader w g s a) (hn : a + n ≤ 8 * s.length) : Calls Tryz.prog 99 #[.pointer (some ⟨g, 0, none⟩), .int .i64 n] w fun e w' => e = .returned (.tuple #[]) ∧ IsReader w' g s (a + n) ∧ Keeps (fun k => k = g) w w' ∧ w'.heap.size = w.heap.size ∧ ∀ B, Far w g B → Far w' g B := by
  obtain ⟨p, L, C, hg, ha, hL, hC, hm, hs, hp⟩ := h
  unfold maxLen at hm hs
  have c0 := cell_in hg 0
  have c1 := cell_in hg 1
  have c2 := cell_in hg 2
  have f0 := free_in hg 0
  have f1 := free_in hg 1
  have f2 := free_in hg 2
  simp at c0 c1 c2
  have b1 : ((n : Int) + (a : Int) % 8) / 8 ≤ (L : Int) := by omega
  have b0 : 0 ≤ ((n : Int) + (a : Int) % 8) / 8 := by omega
  have b2 : (L : Int) ≤ C := by omega
  have HL := Lib.hid hL; have HP := Lib.hid hp; have HG := Lib.hid hg
  clear hL hp hg
  go_enter Tryz.func99, Tryz.ntmps99
  go_wp2
  go_region
  all_goals go_wp2
  · go_end0
    exact ⟨rfl, reader_close HG.out hn HL.out hm hC hs HP (by omega) (by omega) (by omega) rfl (fun h => by omega), keep3 _ _ _ _ _, size3 _ _ _ _ _, fun B hF => far_close (x := .int .i64 0) (e := 0) HG.out hF (by omega) (fun h => by omega)⟩
  · go_end0
    exact ⟨rfl, reader_close HG.out hn HL.out hm hC hs HP (by omega) (by omega) (by omega) rfl (fun h => rfl), keep3 _ _ _ _ _, size3 _ _ _ _ _, fun B hF => far_close (x := .int .i64 0) HG.out hF (by omega) (fun h => rfl)⟩
theorem rTakeInF (w : World) (g a n : Nat) (s : List UInt8) (h : IsReader w g s a) (hn : n ≤ 56) (hf : a + n ≤ 8 * s.length) : Calls Tryz.prog 74 #[.pointer (some ⟨g, 0, none⟩), .int .i64 n] w fun e w' =>
    e = .returned (.tuple #[.int .u64 (peek ((spread s).drop a) n), .int .i64 0]) ∧ IsReader w' g s (a + n) ∧ Keeps (fun k => k = g) w w' ∧ w'.heap.size = w.heap.size ∧ ∀ B, Far w g B → Far w' g B := by
  have C := Lib.hid (rMayIn w g a n s h hn hf)
  obtain ⟨K, hK⟩ : ∃ K, peek ((spread s).drop a) n = K := ⟨_, rfl⟩
  have P := Lib.hid (fun k => rPeek (w.drewN k) g a n s h hn)
  rw [hK] at P; rw [hK]
  have Q := Lib.hid (fun k => rMoveF (w.drewN k) g a n s h hf)
  clear h hK
  go_enter Tryz.func74, Tryz.ntmps74
  go_wp2_with fail
  refine C.out.mono ?_; rintro e w1 ⟨rfl, k, rfl⟩
  go_wp2_with fail
  refine (P.out k).mono ?_; rintro e w1 ⟨rfl, j, rfl⟩
  go_wp2_with fail
  refine (Q.out _).mono ?_; rintro e w1 ⟨rfl, hr, hk, hz, hF⟩
  go_wp2_with fail
  go_ret2
  exact ⟨rfl, hr, ⟨hk.os, hk.tape, hk.output, hk.size, hk.block⟩, hz, hF⟩
/-- Behind a turn of blocks from B on the reader is as it was. -/
theorem reader_low {w w' : World} {g a B : Nat} {s : List UInt8} (h : IsReader w g s a) (hF : Far w g B) (hb : Below B w w') : IsReader w' g s a ∧ Far w' g B := by
  have he := hb.block g hF.1
  obtain ⟨p, L, C, hg, h1, h2, h3, h4, h5, h6⟩ := h
  refine ⟨⟨p, L, C, he.trans hg, h1, h2, h3, h4, h5, fun h0 => ?_⟩, hF.kept he⟩
  obtain ⟨b, o, rfl, hbg, hbl, hc⟩ := h6 h0
  obtain ⟨b', o', e, hbB⟩ := hF.2 _ _ _ _ _ hg h0
  obtain ⟨rfl, rfl⟩ := by simpa using e
  exact ⟨b, o, rfl, hbg, Nat.lt_of_lt_of_le hbl hb.size, fun j hj => by rw [← hc j hj]; exact World.cell?_of_block (hb.block b hbB)⟩
theorem rSkipInF (w : World) (g a n : Nat) (s : List UInt8) (h : IsReader w g s a) (hn : n ≤ 56) (hf : a + n ≤ 8 * s.length) : Calls Tryz.prog 115 #[.pointer (some ⟨g, 0, none⟩), .int .i64 n] w fun e w' =>
    e = .returned (.int .i64 0) ∧ IsReader w' g s (a + n) ∧ Keeps (fun k => k = g) w w' ∧ w'.heap.size = w.heap.size ∧ ∀ B, Far w g B → Far w' g B := by
  have C := Lib.hid (rMayIn w g a n s h hn hf)
  have Q := Lib.hid (fun k => rMoveF (w.drewN k) g a n s h hf)
  clear h
  go_enter Tryz.func115, Tryz.ntmps115
  go_wp2_with fail
  refine C.out.mono ?_; rintro e w1 ⟨rfl, k, rfl⟩
  go_wp2_with fail
  refine (Q.out _).mono ?_; rintro e w1 ⟨rfl, hr, hk, hz, hF⟩
  go_wp2_with fail
  go_ret
  exact ⟨rfl, hr, ⟨hk.os, hk.tape, hk.output, hk.size, hk.block⟩, hz, hF⟩
theorem rSkipUF (w : World) (g t : Nat) (s : List UInt8) (n : Int) (h : IsReader w g s t) (t' W : Nat) (E : Int) (hS : takeS (spread s) t n = (t', W, E)) :
    Calls Tryz.prog 115 #[.pointer (some ⟨g, 0, none⟩), .int .i64 n] w fun e w' => e = .returned (.int .i64 E) ∧ IsReader w' g s t' ∧ Keeps (fun k => k = g) w w' ∧ ∀ B, Far w g B → Far w' g B := by
  unfold takeS at hS
  by_cases h1 : n < 0 ∨ 56 < n
  · rw [if_pos h1] at hS
    obtain ⟨rfl, rfl, rfl⟩ := by simpa using hS
    refine (rSkipOut w _ n 2 ((rMayOut _ n h1 w).mono fun e w' ⟨h1, h2⟩ => ⟨h1, 0, h2⟩) (by decide)).mono ?_
    rintro e w' ⟨rfl, k, rfl⟩
    exact ⟨rfl, h, (Keeps.refl _ _).drewN _, fun B h => h⟩
  · rw [if_neg h1] at hS
    obtain ⟨n, rfl⟩ : ∃ m : Nat, n = m := ⟨n.toNat, by omega⟩
    rw [Int.toNat_natCast] at hS
    have hn : n ≤ 56 := by omega
    by_cases h2 : (spread s).length < t + n
    · rw [if_pos h2] at hS
      obtain ⟨rfl, rfl, rfl⟩ := by simpa using hS
      refine (rSkipOut w _ n 3 (rMayShort w g _ n s h hn (by rw [← spread_length]; exact h2)) (by decide)).mono ?_
      rintro e w' ⟨rfl, k, rfl⟩
      exact ⟨rfl, h, (Keeps.refl _ _).drewN _, fun B h => h⟩
    · rw [if_neg h2] at hS
      obtain ⟨rfl, rfl, rfl⟩ := by simpa using hS
      refine (rSkipInF w g t n s h hn (by rw [← spread_length]; omega)).mono ?_
      rintro e w' ⟨rfl, hr, hk, -, hF⟩
      exact ⟨rfl, hr, hk, hF⟩
set_option maxHeartbeats 3200000 in
theorem fNextF (w : World) (B gt ge g L : Nat) (l : List Int) (s : List UInt8) (t : Nat) (hL1 : 1 ≤ L) (hL : L ≤ 15) (hlen : ∀ s, s < l.length → len l s ≤ L) (hll : l.length ≤ 1024) (ht : IsTab w B gt ge L (2 ^ L) (tabK l L l.length)) (hr : IsReader w g s t) (hgt : gt ≠ g) (hge : ge ≠ g) (X Y E : Int) (hX : nextL l L ((spread s).drop t) = (X, Y, E)) :
    Calls Tryz.prog 120 #[.pointer (some ⟨gt, 0, none⟩), .pointer (some ⟨g, 0, none⟩)] w fun e w' => e = .returned (.tuple #[.int .i64 X, .int .i64 E]) ∧ IsReader w' g s (t + Y.toNat) ∧ Keeps (fun j => j = g) w w' ∧ ∀ B, Far w g B → Far w' g B := by
  have hN0 : 0 < 2 ^ L := Nat.pow_pos (by decide)
  have hN1 : 2 ^ L ≤ 2 ^ 15 := Nat.pow_le_pow_right (by decide) hL
  obtain ⟨P, hP⟩ : ∃ P, peek ((spread s).drop t) L = P := ⟨_, rfl⟩
  have hPl := peek_lt ((spread s).drop t) L
  rw [hP] at hPl
  have hte := tab_at (l := l) hPl
  have hel := ent_le (l := l) (L := L) (v := P) hlen
  unfold nextL at hX
  rw [hP] at hX
  have CP := Lib.hid (fun W h => rPeekU W g t s (L : Int) h P (by unfold peekS; rw [if_neg (by omega), Int.toNat_natCast, hP]))
  have HIT := Lib.hid (fun s' (h : (entB l L P).1 = s') => h)
  obtain ⟨⟨sy, n⟩, hent⟩ : ∃ q, entB l L P = q := ⟨_, rfl⟩
  rw [hent] at hte hel hX
  have hsy : sy ≤ 1024 := by
    have h0 : entB l L P = (sy, n) := hent
    unfold entB entK at h0
    cases hf : (List.range l.length).find? (hitAt l (bitsOf P L)) with
    | none => rw [hf] at h0; injection h0 with e1 e2; omega
    | some q =>
      rw [hf] at h0
      have := List.mem_range.1 (List.mem_of_find?_eq_some hf)
      injection h0 with e1 e2; omega
  simp only at hX hel
  have hwl : (spread s).length - t = ((spread s).drop t).length := by rw [List.length_drop]
  obtain ⟨N, hN⟩ : ∃ N, 2 ^ L = N := ⟨_, rfl⟩
  rw [hN] at ht hN0 hN1 hPl
  have g1 : w.cell? ⟨gt, 0, none⟩ = some (.slice (some ⟨ge, 0, none⟩) N N) := cell_lit ht.tb 0 _ rfl
  have g2 : w.cell? ⟨gt, 1, none⟩ = some (.int .i64 L) := cell_lit ht.tb 1 _ rfl
  have c0 := OwnS.cell flatE ht.row P 0 _ hte (by decide)
  have c1 := OwnS.cell flatE ht.row P 1 _ hte (by decide)
  simp only [fE, List.getElem?_cons_zero, List.getElem?_cons_succ, Nat.add_zero] at c0 c1
  have lgt := block_lt ht.tb
  have lge := (World.ownsRow.lt ht.row ge rfl).2
  have hP0 : (0 : Int) ≤ (P : Int) := by omega
  have hP1 : (P : Int) < (N : Int) := by omega
  have HR := Lib.hid hr; have HX := Lib.hid hX; have HWL := Lib.hid hwl; have HEL := Lib.hid hel
  have HG := Lib.hid (show w.cell? ⟨gt, 0, none⟩ = some (.slice (some ⟨ge, 0, none⟩) N N) ∧ w.cell? ⟨gt, 1, none⟩ = some (.int .i64 L) ∧ w.cell? ⟨ge, P * 2, none⟩ = some (.int .i32 sy) ∧ w.cell? ⟨ge, P * 2 + 1, none⟩ = some (.int .i32 n) from ⟨g1, g2, c0, c1⟩)
  clear ht hr hX hwl hent hte hel hP hN HIT
  go_enter Tryz.func120, Tryz.ntmps120
  go_wp2_with fail
  go_cut [6] from 8 to 33 (fun s6 wc => ∃ gb, s6 = .pointer (some ⟨gb, 0, none⟩) ∧ w.heap.size ≤ gb ∧ Hid (wc.heap[gb]? = some (.cells #[.int .i32 sy, .int .i32 n] 198 (0, 0))) ∧ Hid (Below w.heap.size w wc))
  case first =>
    have H4 := Lib.hid (show C4 w gt ge P (.slice (some ⟨ge, 0, none⟩) N N) (.int .i64 L) (.int .i32 sy) (.int .i32 n) from HG.out)
    have HA := Lib.hid (fun o => H4.out.keep (w5 := w.drew.alloc o) ((Below.refl _ w).drew.alloc (Nat.le_refl _) o) lgt lge)
    go_region_held3 (fun w1 => w1.cell? ⟨gt, 0, none⟩ = some (.slice (some ⟨ge, 0, none⟩) N N) ∧ w1.cell? ⟨gt, 1, none⟩ = some (.int .i64 L) ∧ w1.cell? ⟨ge, P * 2, none⟩ = some (.int .i32 sy) ∧ w1.cell? ⟨ge, P * 2 + 1, none⟩ = some (.int .i32 n)) (first | exact HG.out | exact HA.out _ | exact hS5 | exact hS6 _ | exact hS7 _ _ | fail) (first | ((go_at_call 57; refine (CP.out w.drew (HR.out.drewN 1)).mono ?_; rintro e w5 ⟨rfl, hb5⟩; have hS5 := H4.out.keep ((Below.refl _ w).drew.trans hb5) lgt lge; have hS6 := fun o => H4.out.keep (((Below.refl _ w).drew.trans hb5).alloc (show w.heap.size ≤ w5.heap.size from hb5.size) o) lgt lge)) | ((go_at_call 57; refine (CP.out _ ((HR.out.drewN 1).alloc _)).mono ?_; rintro e w5 ⟨rfl, hb5⟩; have hS5 := H4.out.keep (((Below.refl _ w).drew.alloc (Nat.le_refl _) _).trans (hb5.mono (by simp))) lgt lge; have hbx : w5.heap[w.heap.size]? = some (.cells #[.int .i32 0, .int .i32 0] 198 (0, 0)) := (hb5.block w.heap.size (by simp)).trans (heap_alloc_new w.drew _); have q0 : w5.cell? ⟨w.heap.size, 0, none⟩ = some (.int .i32 0) := cell_lit hbx 0 _ rfl; have q1 : w5.cell? ⟨w.heap.size, 1, none⟩ = some (.int .i32 0) := cell_lit hbx 1 _ rfl; have fq0 := free_in hbx 0; have fq1 := free_in hbx 1; have hS7 := fun u1 u2 => C4.far hS5 (g := w.heap.size) (by omega) (by omega) u1 u2)) | fail)
    all_goals
      go_wp2_with fail
      go_meet
      case rel => first
        | exact ⟨_, rfl, hb5.size, Lib.hid (heap_alloc_new _ _), Lib.hid (((Below.refl _ w).drew.trans hb5).alloc hb5.size _)⟩
        | exact ⟨_, rfl, Nat.le_refl _, Lib.hid (block_set (block_set hbx 0 _) 1 _), Lib.hid (((((Below.refl _ w).drew.alloc (Nat.le_refl _) _).trans (hb5.mono (by simp))).setCell (p := ⟨w.heap.size, 0, none⟩) (Nat.le_refl _) _).setCell (p := ⟨w.heap.size, 1, none⟩) (Nat.le_refl _) _)⟩
  case rest =>
    obtain ⟨gb, rfl, hgb, hbox, hb⟩ := hcut
    have b0 : wc.cell? ⟨gb, 0, none⟩ = some (.int .i32 sy) := cell_lit hbox.out 0 _ rfl
    have b1 : wc.cell? ⟨gb, 1, none⟩ = some (.int .i32 n) := cell_lit hbox.out 1 _ rfl
    have hr2 := HR.out.kept hb.out
    have HFC := Lib.hid (fun B (hF : Far w g B) => Far.kept hF (hb.out.block g (IsReader.lt HR.out)))
    have htl := HR.out.le
    have hn15 := HEL.out.1
    clear g1 g2 c0 c1 CP
    by_cases hn0 : n = 0
    · have hs0 := HEL.out.2 hn0
      subst hn0
      subst hs0
      have hx := HX.out
      rw [if_pos rfl] at hx
      injection hx with e1 e2
      injection e2 with e2 e3
      subst e1 e2 e3
      have HRR := Lib.hid hr2
      have HK := Lib.hid (show Keeps (fun j => j = g) w wc from Keeps.of_below hb.out)
      clear hr2
      go_wp2_with fail
      go_ret2
      exact ⟨rfl, HRR.out, HK.out, HFC.out⟩
    · have hx := HX.out
      rw [if_neg hn0] at hx
      have hnb : ((n : Int) == 0) = false := by rw [beq_eq_false_iff_ne]; omega
      have hwl := HWL.out
      by_cases hsh : ((spread s).drop t).length < n
      · rw [if_pos hsh] at hx
        injection hx with e1 e2
        injection e2 with e2 e3
        subst e1 e2 e3
        have CS := Lib.hid (rSkipUF wc g t s (n : Int) hr2 t 0 3 (by unfold takeS; rw [if_neg (by omega), if_pos (by rw [Int.toNat_natCast]; omega)]))
        have HB := hb
        clear hr2 hsh hwl
        go_wp2_with fail
        refine CS.out.mono ?_; rintro e w6 ⟨rfl, hr6, hk6, hF6⟩
        have HFF := Lib.hid (fun B hF => hF6 B (HFC.out B hF))
        have HRR := Lib.hid hr6
        have HK := Lib.hid ((show Keeps (fun j => j = g) w wc from Keeps.of_below hb.out).trans hk6)
        clear hr6 hk6 hF6
        go_wp2_with fail
        go_ret2
        exact ⟨rfl, HRR.out, HK.out, HFF.out⟩
      · rw [if_neg hsh] at hx
        injection hx with e1 e2
        injection e2 with e2 e3
        subst e1 e2 e3
        have CS := Lib.hid (rSkipUF wc g t s (n : Int) hr2 (t + n) (peek ((spread s).drop t) n) 0 (by unfold takeS; rw [if_neg (by omega), if_neg (by rw [Int.toNat_natCast]; omega), Int.toNat_natCast]))
        clear hr2 hsh hwl
        go_wp2_with fail
        refine CS.out.mono ?_; rintro e w6 ⟨rfl, hr6, hk6, hF6⟩
        have HFF := Lib.hid (fun B hF => hF6 B (HFC.out B hF))
        have HRR := Lib.hid (show IsReader w6 g s (t + ((n : Nat) : Int).toNat) by rw [Int.toNat_natCast]; exact hr6)
        have HK := Lib.hid ((show Keeps (fun j => j = g) w wc from Keeps.of_below hb.out).trans hk6)
        have b0 := (hk6.heap hbox.out (by
          have := IsReader.lt HR.out
          show ¬ gb = g; omega))
        have b0 : w6.cell? ⟨gb, 0, none⟩ = some (.int .i32 sy) := cell_lit b0 0 _ rfl
        clear hr6 hk6 hF6
        go_wp2_with fail
        go_ret2
        exact ⟨rfl, HRR.out, HK.out, HFF.out⟩
end Go.Proofs.YtipcdkemokkdfaaGreat

/- Layer 13: bits are taken, or a fault is told by a panic. -/
namespace Go.Proofs.YtipcdkemokkdfaaGreat
open Go.ChangeShapes Go.WideShapes Go.ChangeAt Go.RowKit
set_option linter.unusedVariables false
set_option linter.unusedSimpArgs false
set_option maxRecDepth 100000
open Bits hiding packF pack_length
open RunsMath KraftMath CanonMath TurnMath Pm
/-- A fault that is told by a panic. -/
def flt (E : Int) : PanicEntry := { v := .iface 177 (.agg #[.int .i64 E]), recovered := false }
set_option maxHeartbeats 1600000 in
theorem mOk (w : World) : Calls Tryz.prog 108 #[.int .i64 0] w fun e w' => e = .returned (.tuple #[]) ∧ w' = w := by
  go_enter Tryz.func108, Tryz.ntmps108
  go_wp2_with fail
  go_end0
  exact ⟨rfl, rfl⟩
set_option maxHeartbeats 1600000 in
theorem mNo (E : Int) (hE : E ≠ 0) (w : World) : Calls Tryz.prog 108 #[.int .i64 E] w fun e w' => e = .panicked [flt E] ∧ w' = w := by
  have hb : (E != 0) = true := by rw [bne_iff_ne]; exact hE
  clear hE
  go_enter Tryz.func108, Tryz.ntmps108
  go_wp2_with fail
  exact ⟨rfl, rfl, rfl⟩
theorem tf_hit (E : Int) (w : World) : (Instr.typeAssert (.iface 177 (.agg #[.int .i64 E])) 20 177 true).run Tryz.prog w = .ok (.tuple #[.agg #[.int .i64 E], .bool true]) w := by
  simp [Instr.typeAssert, run_underlying Tryz.underlying177]
set_option maxHeartbeats 1600000 in
theorem tTold (E : Int) (w : World) : Calls Tryz.prog 95 #[.iface 177 (.agg #[.int .i64 E])] w fun e w' => e = .returned (.int .i64 E) ∧ Below w.heap.size w w' := by
  have t0 := fun W => tf_hit E W
  go_enter Tryz.func95, Tryz.ntmps95
  go_wp2_with fail
  go_ret
  exact ⟨rfl, (Below.refl _ _).alloc (Nat.le_refl _) _⟩
theorem tTimes (s m : Int) (n : Nat) (hn : many (s, m) = n) (hm : 0 ≤ m ∧ m ≤ 1000) (w : World) : Calls Tryz.prog 111 #[.agg #[.int .i64 s, .int .i64 m]] w fun e w' => e = .returned (.int .i64 n) ∧ Below w.heap.size w w' := by
  unfold many at hn
  simp only at hn
  by_cases h1 : s = 16
  · subst h1; rw [if_pos (by decide)] at hn
    have HN := Lib.hid (show 3 + m = (n : Int) by omega)
    clear hn
    go_enter Tryz.func111, Tryz.ntmps111
    go_wp2
    go_ret
    exact ⟨ret_i HN.out, (Below.refl _ _).alloc (Nat.le_refl _) _⟩
  by_cases h2 : s = 17
  · subst h2; rw [if_pos (by decide)] at hn
    have HN := Lib.hid (show 3 + m = (n : Int) by omega)
    clear hn
    go_enter Tryz.func111, Tryz.ntmps111
    go_wp2
    go_ret
    exact ⟨ret_i HN.out, (Below.refl _ _).alloc (Nat.le_refl _) _⟩
  rw [if_neg (by omega)] at hn
  by_cases h3 : s = 18
  · subst h3; rw [if_pos rfl] at hn
    have HN := Lib.hid (show 11 + m = (n : Int) by omega)
    clear hn
    go_enter Tryz.func111, Tryz.ntmps111
    go_wp2
    go_ret
    exact ⟨ret_i HN.out, (Below.refl _ _).alloc (Nat.le_refl _) _⟩
  rw [if_neg h3] at hn
  have e1 : (s == 16) = false := by rw [beq_eq_false_iff_ne]; exact h1
  have e2 : (s == 17) = false := by rw [beq_eq_false_iff_ne]; exact h2
  have e3 : (s == 18) = false := by rw [beq_eq_false_iff_ne]; exact h3
  subst hn
  clear h1 h2 h3
  go_enter Tryz.func111, Tryz.ntmps111
  go_wp2
  go_ret
  exact ⟨rfl, (Below.refl _ _).alloc (Nat.le_refl _) _⟩
set_option maxHeartbeats 1600000 in
theorem tTakeIn (w : World) (g a n : Nat) (s : List UInt8) (h : IsReader w g s a) (hn : n ≤ 56) (hf : a + n ≤ 8 * s.length) : Calls Tryz.prog 107 #[.pointer (some ⟨g, 0, none⟩), .int .i64 n] w fun e w' =>
    e = .returned (.int .i64 (peek ((spread s).drop a) n : Nat)) ∧ IsReader w' g s (a + n) ∧ Keeps (fun k => k = g) w w' ∧ ∀ B, Far w g B → Far w' g B := by
  have C := Lib.hid (rTakeInF w g a n s h hn hf)
  have hpl := peek_lt ((spread s).drop a) n
  have h56 : (2:Nat) ^ n ≤ 2 ^ 56 := Nat.pow_le_pow_right (by decide) hn
  obtain ⟨K, hK⟩ : ∃ K, peek ((spread s).drop a) n = K := ⟨_, rfl⟩
  rw [hK] at C hpl ⊢
  have hwK : IntKind.i64.wrap (K : Int) = K := by rw [IntKind.wrap_i64]; omega
  have CM := Lib.hid mOk
  clear hK h56 hpl h
  go_enter Tryz.func107, Tryz.ntmps107
  go_wp2_with fail
  refine C.out.mono ?_; rintro e w1 ⟨rfl, h1, k1, z1, hF⟩
  go_wp2_with fail
  refine (CM.out _).mono ?_; rintro e w2 ⟨rfl, rfl⟩
  go_wp2_with fail
  go_ret
  exact ⟨rfl, h1, k1, hF⟩
set_option maxHeartbeats 1600000 in
theorem tTakeOut (w : World) (g a n : Nat) (s : List UInt8) (h : IsReader w g s a) (hn : n ≤ 56) (hf : 8 * s.length < a + n) : Calls Tryz.prog 107 #[.pointer (some ⟨g, 0, none⟩), .int .i64 n] w fun e w' =>
    e = .panicked [flt 3] ∧ ∃ k, w' = w.drewN k := by
  have C := Lib.hid (rTakeOut w (some ⟨g, 0, none⟩) n 3 (Lib.hid (rMayShort w g a n s h hn hf)) (by decide))
  have CM := Lib.hid (fun W => mNo 3 (by decide) W)
  clear h hf
  go_enter Tryz.func107, Tryz.ntmps107
  go_wp2_with fail
  refine C.out.mono ?_; rintro e w1 ⟨rfl, k, rfl⟩
  go_wp2_with fail
  refine (CM.out _).mono ?_; rintro e w2 ⟨rfl, rfl⟩
  go_wp2_with fail
  exact ⟨rfl, rfl, k, rfl⟩
end Go.Proofs.YtipcdkemokkdfaaGreat
