import Derived.Test.YtmhjmoeeahepaaaGreatPP01
import Derived.Laws.IdiomStrings
import Derived.Test.YtmhjmoeeahepaaaGreatPP19
import Derived.IntWalk
import Derived.WalkLawsBesides
import Derived.Test.YtmhjmoeeahepaaaGreatPP29
import Derived.Deep.CutRange
import Derived.Deep.RegionWith
/- Contracts of layer 2's reader. -/
namespace Go.Proofs.YtmhjmoeeahepaaaGreat
open Go.ChangeShapes Go.WideShapes Go.ChangeAt Go.RowKit
set_option linter.unusedVariables false
set_option maxRecDepth 100000

/-- A reader of the bytes s that stands at bit a: its block g, and the row of bytes that are left. -/
def IsReader (w : World) (g : Nat) (s : List UInt8) (a : Nat) : Prop :=
  ∃ p L C, w.heap[g]? = some (.cells #[.slice p L C, .int .i64 ((a % 8 : Nat) : Int), .int .i64 (a : Int)] 105 (0, 0)) ∧ a ≤ 8 * s.length ∧ L = s.length - a / 8 ∧ L ≤ C ∧ C ≤ maxLen ∧ s.length ≤ maxLen / 16 ∧
    (0 < L → ∃ b o, p = some ⟨b, o, none⟩ ∧ b ≠ g ∧ b < w.heap.size ∧ ∀ j, j < L → w.cell? ⟨b, o + j, none⟩ = some (.int .u8 ((s.getD (a / 8 + j) 0).toNat : Int)))

theorem bytesRow_get (s : ByteArray) (cap j : Nat) (h : j < s.size) : (bytesRow s cap)[j]? = some (.int .u8 ((s.data.toList.getD j 0).toNat : Int)) := by
  have h' : j < s.data.size := h
  unfold bytesRow
  rw [Array.getElem?_append_left (by simpa using h'), Array.getElem?_map, Array.getElem?_eq_getElem h']
  simp only [Array.getElem?_toList, List.getD_eq_getElem?_getD, Array.getElem?_eq_getElem h', Option.map_some, Option.getD_some]
set_option maxHeartbeats 800000 in
theorem rNew (s : ByteArray) (hs : s.size ≤ maxLen / 16) (w : World) :
    Calls Tryz.prog 33 #[.string s] w fun e w' => e = .returned (.pointer (some ⟨w.heap.size + 1, 0, none⟩)) ∧ IsReader w' (w.heap.size + 1) s.data.toList 0 ∧ Below w.heap.size w w' ∧ w'.heap.size = w.heap.size + 2 := by
  have hcv := run_bytes_of_string (P := Tryz.prog) w 9 40 5 s Tryz.underlying9 Tryz.underlying40 Tryz.underlying5
  have h1 := grownCap_ge w s.size 0 5
  have h2 := grownCap_le_maxLen w s.size 0 5 (by unfold maxLen at *; omega)
  go_enter Tryz.func33, Tryz.ntmps33
  go_wp2
  go_ret
  refine ⟨rfl, ⟨_, s.size, _, heap_two_last _ _ _, by simp, by simp, h1, h2, by simpa using hs, fun _ => ⟨w.heap.size, 0, rfl, by omega, by simp; omega, fun j hj => ?_⟩⟩, by go_grown, by simp⟩
  simp only [Nat.zero_add, Nat.zero_div]
  exact cell_lit (heap_two_first w _ _) j _ (bytesRow_get s _ j hj)
theorem left_eq (a len L : Nat) (h : L = len - a / 8) (ha : a ≤ 8 * len) : 8 * (L : Int) - (a : Int) % 8 = ((8 * len - a : Nat) : Int) := by omega
theorem left_bd (a len L : Nat) (h : L = len - a / 8) (hs : len ≤ (2 ^ 63 - 1) / 16) : L ≤ 576460752303423487 := by omega
theorem rLeft (w : World) (g a : Nat) (s : List UInt8) (h : IsReader w g s a) : Calls Tryz.prog 61 #[.pointer (some ⟨g, 0, none⟩)] w fun e w' => e = .returned (.int .i64 ((8 * s.length - a : Nat) : Int)) ∧ ∃ n, w' = w.drewN n := by
  obtain ⟨p, L, C, hg, ha, hL, hC, hm, hs, hp⟩ := h
  unfold maxLen at hm hs
  have c0 := cell_in hg 0
  have c1 := cell_in hg 1
  simp at c0 c1
  have HE := Lib.hid (left_eq a s.length L hL ha)
  have hLb := left_bd a s.length L hL hs
  clear hL hp
  go_enter Tryz.func61, Tryz.ntmps61
  go_wp2
  go_quiet (fail)
  go_wp2
  go_ret
  exact ⟨ret_i (by rw [← HE.out]), _, rfl⟩
theorem set3 {w : World} {g : Nat} {x y z : Value} (hg : w.heap[g]? = some (.cells #[x, y, z] 105 (0, 0))) (u v t : Value) :
    (((w.setCell ⟨g, 2, none⟩ t).setCell ⟨g, 0, none⟩ u).setCell ⟨g, 1, none⟩ v).drew.heap[g]? = some (.cells #[u, v, t] 105 (0, 0)) :=
  block_set (block_set (block_set hg 2 t) 0 u) 1 v
theorem other3 {w : World} {g b o : Nat} (h : b ≠ g) (u v t : Value) : (((w.setCell ⟨g, 2, none⟩ t).setCell ⟨g, 0, none⟩ u).setCell ⟨g, 1, none⟩ v).drew.cell? ⟨b, o, none⟩ = w.cell? ⟨b, o, none⟩ := by
  refine World.cell?_of_block (w := w) ?_
  show (((w.setCell ⟨g, 2, none⟩ t).setCell ⟨g, 0, none⟩ u).setCell ⟨g, 1, none⟩ v).heap[b]? = _
  rw [Below.heap_setCell _ _ _ _ h, Below.heap_setCell _ _ _ _ h, Below.heap_setCell _ _ _ _ h]
theorem keep3 (w : World) (g : Nat) (u v t : Value) : Keeps (fun k => k = g) w (((w.setCell ⟨g, 2, none⟩ t).setCell ⟨g, 0, none⟩ u).setCell ⟨g, 1, none⟩ v).drew := by
  have k1 := (Keeps.refl (fun k => k = g) w).setCell (p := ⟨g, 2, none⟩) (.inr rfl) t
  have k2 := k1.setCell (p := ⟨g, 0, none⟩) (.inr rfl) u
  have k3 := k2.setCell (p := ⟨g, 1, none⟩) (.inr rfl) v
  exact k3.drew
theorem size3 (w : World) (g : Nat) (u v t : Value) : (((w.setCell ⟨g, 2, none⟩ t).setCell ⟨g, 0, none⟩ u).setCell ⟨g, 1, none⟩ v).drew.heap.size = w.heap.size := by simp
theorem reader_close {w : World} {g a n : Nat} {s : List UInt8} {x y z : Value} {p q : Option Addr} {L C M D : Nat} {u t : Int} (hg : w.heap[g]? = some (.cells #[x, y, z] 105 (0, 0))) (hn : a + n ≤ 8 * s.length) (hL : L = s.length - a / 8) (hm : C ≤ maxLen) (hLC : L ≤ C) (hs : s.length ≤ maxLen / 16)
    (hp : Hid (0 < L → ∃ b o, p = some ⟨b, o, none⟩ ∧ b ≠ g ∧ b < w.heap.size ∧ ∀ j, j < L → w.cell? ⟨b, o + j, none⟩ = some (.int .u8 ((s.getD (a / 8 + j) 0).toNat : Int))))
    (hu : u = (((a + n) % 8 : Nat) : Int)) (ht : t = ((a + n : Nat) : Int)) (hM : M = L - (n + a % 8) / 8) (hD : D = M) (hq : 0 < M → q = p.map (fun x => x.add ((n + a % 8) / 8))) :
    IsReader (((w.setCell ⟨g, 2, none⟩ (.int .i64 t)).setCell ⟨g, 0, none⟩ (.slice q M D)).setCell ⟨g, 1, none⟩ (.int .i64 u)).drew g s (a + n) := by
  subst hu ht hD
  have e8 : (a + n) / 8 = a / 8 + (n + a % 8) / 8 := by omega
  refine ⟨q, D, D, set3 hg _ _ _, hn, by omega, Nat.le_refl _, by omega, hs, fun h0 => ?_⟩
  have h0L : 0 < L := by omega
  obtain ⟨b, o, rfl, hb, hlt, hc⟩ := hp.out h0L
  rw [hq h0]
  refine ⟨b, o + (n + a % 8) / 8, ?_, hb, by rw [size3]; exact hlt, fun j hj => ?_⟩
  · simp only [Option.map_some, Option.some.injEq]
    unfold Addr.add; split <;> simp_all
  · have hj' : (n + a % 8) / 8 + j < L := by omega
    rw [other3 hb, Nat.add_assoc, hc _ hj', e8, Nat.add_assoc]
set_option maxHeartbeats 800000 in
theorem rMove (w : World) (g a n : Nat) (s : List UInt8) (h : IsReader w g s a) (hn : a + n ≤ 8 * s.length) : Calls Tryz.prog 110 #[.pointer (some ⟨g, 0, none⟩), .int .i64 n] w fun e w' => e = .returned (.tuple #[]) ∧ IsReader w' g s (a + n) ∧ Keeps (fun k => k = g) w w' ∧ w'.heap.size = w.heap.size := by
  obtain ⟨p, L, C, hg, ha, hL, hC, hm, hs, hp⟩ := h
  unfold maxLen at hm hs
  have c0 := cell_in hg 0
  have c1 := cell_in hg 1
  have c2 := cell_in hg 2
  have f0 := free_in hg 0
  have f1 := free_in hg 1
  have f2 := free_in hg 2
  simp at c0 c1 c2
  have b1 : ((n : Int) + (a : Int) % 8) / 8 ≤ (L : Int) := by omega
  have b0 : 0 ≤ ((n : Int) + (a : Int) % 8) / 8 := by omega
  have b2 : (L : Int) ≤ C := by omega
  have HL := Lib.hid hL; have HP := Lib.hid hp; have HG := Lib.hid hg
  clear hL hp hg
  go_enter Tryz.func110, Tryz.ntmps110
  go_wp2
  go_region
  all_goals go_wp2
  · go_end0
    exact ⟨rfl, reader_close HG.out hn HL.out hm hC hs HP (by omega) (by omega) (by omega) rfl (fun h => by omega), keep3 _ _ _ _ _, size3 _ _ _ _ _⟩
  · go_end0
    exact ⟨rfl, reader_close HG.out hn HL.out hm hC hs HP (by omega) (by omega) (by omega) rfl (fun h => rfl), keep3 _ _ _ _ _, size3 _ _ _ _ _⟩
end Go.Proofs.YtmhjmoeeahepaaaGreat

/- Contracts of layer 2's reader, more. -/
namespace Go.Proofs.YtmhjmoeeahepaaaGreat
open Go.ChangeShapes Go.WideShapes Go.ChangeAt Go.RowKit
set_option linter.unusedVariables false
set_option maxRecDepth 100000
open Bits

theorem rPeekOut (p : Option Addr) (n : Int) (h : n < 0 ∨ 56 < n ∨ p = none) (w : World) : Calls Tryz.prog 62 #[.pointer p, .int .i64 n] w fun e w' => e = .returned (.int .u64 0) ∧ w' = w := by
  rcases p with _ | p
  · go_enter Tryz.func62, Tryz.ntmps62
    go_wp2
    go_ret
    exact ⟨rfl, rfl⟩
  · rcases h with h | h | h
    · go_enter Tryz.func62, Tryz.ntmps62
      go_wp2
      go_ret
      exact ⟨rfl, rfl⟩
    · have h' : ¬ n < 0 := by omega
      go_enter Tryz.func62, Tryz.ntmps62
      go_wp2
      go_ret
      exact ⟨rfl, rfl⟩
    · cases h
/-- The word of the first k bytes that are left. -/
def seen (s : List UInt8) (a k : Nat) : Nat := wordOf (spread ((s.drop (a / 8)).take k))
theorem seen_zero (s : List UInt8) (a : Nat) : seen s a 0 = 0 := by simp [seen, spread, wordOf]
theorem seen_lt (s : List UInt8) (a k : Nat) (hk : k ≤ s.length - a / 8) : seen s a k < 2 ^ (8 * k) := by
  have := wordOf_spread_lt ((s.drop (a / 8)).take k)
  rwa [List.length_take_of_le (by simpa using hk)] at this
theorem seen_succ (s : List UInt8) (a k : Nat) (hk : k < s.length - a / 8) : seen s a (k + 1) = seen s a k ||| (s.getD (a / 8 + k) 0).toNat * 2 ^ (8 * k) := by
  have hk' : k < (s.drop (a / 8)).length := by simpa using hk
  have hl : ((s.drop (a / 8)).take k).length = k := List.length_take_of_le (by omega)
  have e : (s.drop (a / 8)).take (k + 1) = (s.drop (a / 8)).take k ++ [s.getD (a / 8 + k) 0] := by
    rw [List.take_succ_eq_append_getElem hk']
    congr 2
    have : a / 8 + k < s.length := by omega
    simp [List.getD_eq_getElem?_getD, this]
  have h := seen_lt s a k (by omega)
  unfold seen at h ⊢
  rw [e, wordOf_spread_snoc, hl, Nat.or_comm, Nat.mul_comm (s.getD (a / 8 + k) 0).toNat, ← Nat.two_pow_add_eq_or_of_lt h]
  omega
theorem seen_peek (s : List UInt8) (a n k : Nat) (hn : n ≤ 56) (hk : k = min 8 (s.length - a / 8)) : seen s a k / 2 ^ (a % 8) % 2 ^ n = peek ((spread s).drop a) n := by
  rw [spread_at, ← peek_bytes (s.drop (a / 8)) (a % 8) n (by omega)]
  unfold seen
  congr 3
  subst hk
  rcases Nat.le_total 8 (s.length - a / 8) with h | h
  · rw [Nat.min_eq_left h]
  · rw [Nat.min_eq_right h, List.take_of_length_le (by simp), List.take_of_length_le (by simpa using h)]
theorem byte_shift (b k : Nat) (hk : k < 8) (hb : b < 256) : b * 2 ^ (8 * k) < 2 ^ 64 := by
  have h1 : b * 2 ^ (8 * k) < 2 ^ 8 * 2 ^ (8 * k) := Nat.mul_lt_mul_of_pos_right hb (Nat.pow_pos (by decide))
  rw [← Nat.pow_add] at h1
  exact Nat.lt_of_lt_of_le h1 (Nat.pow_le_pow_right (by decide) (by omega))
theorem or_step (x b k y : Nat) (hk : k < 8) (hx : x < 2 ^ (8 * k)) (hb : b < 256) (hy : y = x ||| b * 2 ^ (8 * k)) :
    bits .or .u64 (x : Int) (IntKind.u64.wrap (IntKind.u64.wrap (b : Int) * 2 ^ (8 * k))) = (y : Int) := by
  have hs := byte_shift b k hk hb
  have e : IntKind.u64.wrap (IntKind.u64.wrap (b : Int) * 2 ^ (8 * k)) = ((b * 2 ^ (8 * k) : Nat) : Int) := by
    rw [wrap_u64_nat b (by omega)]
    have : ((b : Int) * 2 ^ (8 * k)) = ((b * 2 ^ (8 * k) : Nat) : Int) := by simp
    rw [this, wrap_u64_nat _ hs]
  rw [e, or_u64 x _ (Nat.lt_of_lt_of_le hx (Nat.pow_le_pow_right (by decide) (by omega))) hs, hy]
theorem and_step (x u n y : Nat) (hn : n ≤ 56) (hx : x < 2 ^ 64) (hy : x / 2 ^ u % 2 ^ n = y) :
    bits .and .u64 ((x : Int) / 2 ^ u) (IntKind.u64.wrap (IntKind.u64.wrap (2 ^ n) - 1)) = (y : Int) := by
  have hp : 2 ^ n ≤ 2 ^ 56 := Nat.pow_le_pow_right (by decide) hn
  have hq : 0 < 2 ^ n := Nat.pow_pos (by decide)
  have e1 : (2 : Int) ^ n = ((2 ^ n : Nat) : Int) := by simp
  have e2 : IntKind.u64.wrap (IntKind.u64.wrap (2 ^ n) - 1) = ((2 ^ n - 1 : Nat) : Int) := by
    rw [e1, wrap_u64_nat _ (by omega), show ((2 ^ n : Nat) : Int) - 1 = ((2 ^ n - 1 : Nat) : Int) from by omega, wrap_u64_nat _ (by omega)]
  have e3 : (x : Int) / 2 ^ u = ((x / 2 ^ u : Nat) : Int) := by simp
  rw [e2, e3, and_u64 _ _ (Nat.lt_of_le_of_lt (Nat.div_le_self _ _) hx) (by omega), Nat.and_two_pow_sub_one_eq_mod, hy]
set_option maxHeartbeats 800000 in
theorem rPeek_few (w : World) (g a n : Nat) (s : List UInt8) (h : IsReader w g s a) (hn : n ≤ 56) (h0 : 0 < s.length - a / 8 ∧ s.length - a / 8 < 8) : Calls Tryz.prog 62 #[.pointer (some ⟨g, 0, none⟩), .int .i64 n] w fun e w' => e = .returned (.int .u64 (peek ((spread s).drop a) n)) ∧ ∃ k, w' = w.drewN k := by
  obtain ⟨p, L, C, hg, ha, hL, hC, hm, hs, hp⟩ := h
  unfold maxLen at hm hs
  have c0 := cell_in hg 0
  have c1 := cell_in hg 1
  simp at c0 c1
  have hcond : 0 < L ∧ L < 8 := by omega
  obtain ⟨b, o, rfl, hb, hlt, hc⟩ := hp (by omega)
  have HF := Lib.hid (seen_peek s a n L hn (by omega))
  have HW : Hid (seen s a L < 2 ^ 64) := Nat.lt_of_lt_of_le (seen_lt s a L (by omega)) (Nat.pow_le_pow_right (by decide) (by omega))
  have HZ := Lib.hid (seen_zero s a)
  have HS : ∀ k, k < L → Hid (seen s a (k + 1) = seen s a k ||| (s[a / 8 + k]?.getD 0).toNat * 2 ^ (8 * k)) := fun k hk => by have := seen_succ s a k (by omega); rwa [List.getD_eq_getElem?_getD] at this
  have HT : ∀ k, k ≤ L → Hid (seen s a k < 2 ^ (8 * k)) := fun k hk => seen_lt s a k (by omega)
  have HC : Hid (∀ j, j < L → w.cell? ⟨b, o + j, none⟩ = some (.int .u8 ((s.getD (a / 8 + j) 0).toNat : Int))) := hc
  clear hL hp hg hc h0
  go_enter Tryz.func62, Tryz.ntmps62
  go_wp2
  go_quiet (fail)
  go_wp2
  go_loop [5, 30] (fun x i => ∃ k : Nat, k ≤ L ∧ i = .int .i64 k ∧ x = .int .u64 (seen s a k)) (fun _ i => L - (intOf i).toNat)
  case atStart => exact ⟨0, Nat.zero_le _, rfl, by rw [HZ.out]; rfl⟩
  case round =>
    obtain ⟨k, hk, rfl, rfl⟩ := hrel
    by_cases hk' : k < L
    · have hx := (HT k hk).out
      have hc1 := HC.out k (by omega)
      have hby : (s[a / 8 + k]?.getD 0).toNat < 256 := (s[a / 8 + k]?.getD 0).toNat_lt
      have HB := Lib.hid hby
      clear hby hc1 hx
      have hc1 := HC.out k (by omega)
      go_wp2
      go_round
      case rel => exact ⟨k + 1, by omega, by go_num, by rw [or_step _ _ k _ (by omega) (HT k (by omega)).out HB.out (HS k hk').out]⟩
      case measure => simp [intOf]; omega
    · obtain rfl : k = L := by omega
      go_wp2
      go_quiet (fail)
      go_wp2
      go_ret
      exact ⟨ret_i (by rw [and_step _ _ n _ hn HW.out HF.out]), _, by rw [World.drewN_drewN]⟩
set_option maxHeartbeats 800000 in
theorem rPeek_more (w : World) (g a n : Nat) (s : List UInt8) (h : IsReader w g s a) (hn : n ≤ 56) (h0 : 8 ≤ s.length - a / 8) : Calls Tryz.prog 62 #[.pointer (some ⟨g, 0, none⟩), .int .i64 n] w fun e w' => e = .returned (.int .u64 (peek ((spread s).drop a) n)) ∧ ∃ k, w' = w.drewN k := by
  obtain ⟨p, L, C, hg, ha, hL, hC, hm, hs, hp⟩ := h
  unfold maxLen at hm hs
  have c0 := cell_in hg 0
  have c1 := cell_in hg 1
  simp at c0 c1
  have hcond : 8 ≤ L := by omega
  obtain ⟨b, o, rfl, hb, hlt, hc⟩ := hp (by omega)
  have HF := Lib.hid (seen_peek s a n 8 hn (by omega))
  have HW : Hid (seen s a 8 < 2 ^ 64) := Nat.lt_of_lt_of_le (seen_lt s a 8 (by omega)) (Nat.pow_le_pow_right (by decide) (by omega))
  have HZ := Lib.hid (seen_zero s a)
  have HS : ∀ k, k < 8 → Hid (seen s a (k + 1) = seen s a k ||| (s[a / 8 + k]?.getD 0).toNat * 2 ^ (8 * k)) := fun k hk => by have := seen_succ s a k (by omega); rwa [List.getD_eq_getElem?_getD] at this
  have HT : ∀ k, k ≤ 8 → Hid (seen s a k < 2 ^ (8 * k)) := fun k hk => seen_lt s a k (by omega)
  have HC : Hid (∀ j, j < L → w.cell? ⟨b, o + j, none⟩ = some (.int .u8 ((s.getD (a / 8 + j) 0).toNat : Int))) := hc
  clear hL hp hg hc h0
  go_enter Tryz.func62, Tryz.ntmps62
  go_wp2
  go_quiet (fail)
  go_wp2
  go_loop [5, 30] (fun x i => ∃ k : Nat, k ≤ 8 ∧ i = .int .i64 k ∧ x = .int .u64 (seen s a k)) (fun _ i => 8 - (intOf i).toNat)
  case atStart => exact ⟨0, Nat.zero_le _, rfl, by rw [HZ.out]; rfl⟩
  case round =>
    obtain ⟨k, hk, rfl, rfl⟩ := hrel
    by_cases hk' : k < 8
    · have hx := (HT k hk).out
      have hc1 := HC.out k (by omega)
      have hby : (s[a / 8 + k]?.getD 0).toNat < 256 := (s[a / 8 + k]?.getD 0).toNat_lt
      have HB := Lib.hid hby
      clear hby hc1 hx
      have hc1 := HC.out k (by omega)
      go_wp2
      go_round
      case rel => exact ⟨k + 1, by omega, by go_num, by rw [or_step _ _ k _ (by omega) (HT k (by omega)).out HB.out (HS k hk').out]⟩
      case measure => simp [intOf]; omega
    · obtain rfl : k = 8 := by omega
      go_wp2
      go_quiet (fail)
      go_wp2
      go_ret
      exact ⟨ret_i (by rw [and_step _ _ n _ hn HW.out HF.out]), _, by rw [World.drewN_drewN]⟩
set_option maxHeartbeats 800000 in
theorem rPeek_none (w : World) (g a n : Nat) (s : List UInt8) (h : IsReader w g s a) (hn : n ≤ 56) (hz : s.length - a / 8 = 0) : Calls Tryz.prog 62 #[.pointer (some ⟨g, 0, none⟩), .int .i64 n] w fun e w' => e = .returned (.int .u64 (peek ((spread s).drop a) n)) ∧ ∃ k, w' = w.drewN k := by
  obtain ⟨p, L, C, hg, ha, hL, hC, hm, hs, hp⟩ := h
  unfold maxLen at hm hs
  obtain rfl : L = 0 := by omega
  have c0 := cell_in hg 0
  have c1 := cell_in hg 1
  simp at c0 c1
  have HF := Lib.hid (seen_peek s a n 0 hn (by omega))
  rw [seen_zero] at HF
  clear hL hp hg hz
  go_enter Tryz.func62, Tryz.ntmps62
  go_wp2
  go_quiet (fail)
  go_wp2
  refine wp_loop_rounds 1 ?_
  rw [rounds_succ]
  go_wp2
  go_quiet (fail)
  go_wp2
  go_ret
  exact ⟨ret_i (by
    have e := and_step 0 (a % 8) n _ hn (by decide) HF.out
    rw [← e]; simp), _, by rw [World.drewN_drewN]⟩
theorem rPeek (w : World) (g a n : Nat) (s : List UInt8) (h : IsReader w g s a) (hn : n ≤ 56) : Calls Tryz.prog 62 #[.pointer (some ⟨g, 0, none⟩), .int .i64 n] w fun e w' => e = .returned (.int .u64 (peek ((spread s).drop a) n)) ∧ ∃ k, w' = w.drewN k := by
  by_cases h0 : s.length - a / 8 = 0
  · exact rPeek_none w g a n s h hn h0
  · by_cases h8 : 8 ≤ s.length - a / 8
    · exact rPeek_more w g a n s h hn h8
    · exact rPeek_few w g a n s h hn (by omega)
theorem IsReader.drewN {w : World} {g a : Nat} {s : List UInt8} (h : IsReader w g s a) (k : Nat) : IsReader (w.drewN k) g s a := h
theorem rMayNone (n : Int) (w : World) : Calls Tryz.prog 109 #[.pointer none, .int .i64 n] w fun e w' => e = .returned (.int .i64 1) ∧ w' = w := by
  go_enter Tryz.func109, Tryz.ntmps109
  go_wp2
  go_ret
  exact ⟨rfl, rfl⟩
theorem rMayOut (p : Addr) (n : Int) (h : n < 0 ∨ 56 < n) (w : World) : Calls Tryz.prog 109 #[.pointer (some p), .int .i64 n] w fun e w' => e = .returned (.int .i64 2) ∧ w' = w := by
  rcases h with h | h
  · go_enter Tryz.func109, Tryz.ntmps109
    go_wp2
    go_ret
    exact ⟨rfl, rfl⟩
  · have h' : ¬ n < 0 := by omega
    go_enter Tryz.func109, Tryz.ntmps109
    go_wp2
    go_ret
    exact ⟨rfl, rfl⟩
theorem rMayIn (w : World) (g a n : Nat) (s : List UInt8) (h : IsReader w g s a) (hn : n ≤ 56) (hf : a + n ≤ 8 * s.length) : Calls Tryz.prog 109 #[.pointer (some ⟨g, 0, none⟩), .int .i64 n] w fun e w' => e = .returned (.int .i64 0) ∧ ∃ k, w' = w.drewN k := by
  have C := Lib.hid (rLeft w g a s h)
  have hb : n ≤ 8 * s.length - a := by omega
  obtain ⟨K, hK⟩ : ∃ K, 8 * s.length - a = K := ⟨_, rfl⟩
  rw [hK] at C hb
  clear h hK hf
  go_enter Tryz.func109, Tryz.ntmps109
  go_wp2_with fail
  refine C.out.mono ?_; rintro e w1 ⟨rfl, k, rfl⟩
  go_wp2
  go_ret
  exact ⟨rfl, _, rfl⟩
theorem rMayShort (w : World) (g a n : Nat) (s : List UInt8) (h : IsReader w g s a) (hn : n ≤ 56) (hf : 8 * s.length < a + n) : Calls Tryz.prog 109 #[.pointer (some ⟨g, 0, none⟩), .int .i64 n] w fun e w' => e = .returned (.int .i64 3) ∧ ∃ k, w' = w.drewN k := by
  have C := Lib.hid (rLeft w g a s h)
  have ha : a ≤ 8 * s.length := by obtain ⟨_, _, _, _, ha, _⟩ := h; exact ha
  have hb : 8 * s.length - a < n := by omega
  clear ha
  obtain ⟨K, hK⟩ : ∃ K, 8 * s.length - a = K := ⟨_, rfl⟩
  rw [hK] at C hb
  clear h hK hf
  go_enter Tryz.func109, Tryz.ntmps109
  go_wp2_with fail
  refine C.out.mono ?_; rintro e w1 ⟨rfl, k, rfl⟩
  go_wp2
  go_ret
  exact ⟨rfl, _, rfl⟩
theorem rTakeIn (w : World) (g a n : Nat) (s : List UInt8) (h : IsReader w g s a) (hn : n ≤ 56) (hf : a + n ≤ 8 * s.length) : Calls Tryz.prog 82 #[.pointer (some ⟨g, 0, none⟩), .int .i64 n] w fun e w' =>
    e = .returned (.tuple #[.int .u64 (peek ((spread s).drop a) n), .int .i64 0]) ∧ IsReader w' g s (a + n) ∧ Keeps (fun k => k = g) w w' ∧ w'.heap.size = w.heap.size := by
  have C := Lib.hid (rMayIn w g a n s h hn hf)
  obtain ⟨K, hK⟩ : ∃ K, peek ((spread s).drop a) n = K := ⟨_, rfl⟩
  have P := Lib.hid (fun k => rPeek (w.drewN k) g a n s h hn)
  rw [hK] at P; rw [hK]
  have Q := Lib.hid (fun k => rMove (w.drewN k) g a n s h hf)
  clear h hK
  go_enter Tryz.func82, Tryz.ntmps82
  go_wp2_with fail
  refine C.out.mono ?_; rintro e w1 ⟨rfl, k, rfl⟩
  go_wp2_with fail
  refine (P.out k).mono ?_; rintro e w1 ⟨rfl, j, rfl⟩
  go_wp2_with fail
  refine (Q.out _).mono ?_; rintro e w1 ⟨rfl, hr, hk, hz⟩
  go_wp2_with fail
  go_ret2
  exact ⟨rfl, hr, ⟨hk.os, hk.tape, hk.output, hk.size, hk.block⟩, hz⟩
theorem rTakeOut (w : World) (p : Option Addr) (n E : Int) (h : Hid (Calls Tryz.prog 109 #[.pointer p, .int .i64 n] w fun e w' => e = .returned (.int .i64 E) ∧ ∃ k, w' = w.drewN k)) (hE : 1 ≤ E) : Calls Tryz.prog 82 #[.pointer p, .int .i64 n] w fun e w' =>
    e = .returned (.tuple #[.int .u64 0, .int .i64 E]) ∧ ∃ k, w' = w.drewN k := by
  have hE' : (E == 0) = false := by rw [beq_eq_false_iff_ne]; omega
  go_enter Tryz.func82, Tryz.ntmps82
  go_wp2_with fail
  refine h.out.mono ?_; rintro e w1 ⟨rfl, k, rfl⟩
  go_wp2_with fail
  go_ret2
  exact ⟨rfl, _, rfl⟩
theorem rSkipIn (w : World) (g a n : Nat) (s : List UInt8) (h : IsReader w g s a) (hn : n ≤ 56) (hf : a + n ≤ 8 * s.length) : Calls Tryz.prog 126 #[.pointer (some ⟨g, 0, none⟩), .int .i64 n] w fun e w' =>
    e = .returned (.int .i64 0) ∧ IsReader w' g s (a + n) ∧ Keeps (fun k => k = g) w w' ∧ w'.heap.size = w.heap.size := by
  have C := Lib.hid (rMayIn w g a n s h hn hf)
  have Q := Lib.hid (fun k => rMove (w.drewN k) g a n s h hf)
  clear h
  go_enter Tryz.func126, Tryz.ntmps126
  go_wp2_with fail
  refine C.out.mono ?_; rintro e w1 ⟨rfl, k, rfl⟩
  go_wp2_with fail
  refine (Q.out _).mono ?_; rintro e w1 ⟨rfl, hr, hk, hz⟩
  go_wp2_with fail
  go_ret
  exact ⟨rfl, hr, ⟨hk.os, hk.tape, hk.output, hk.size, hk.block⟩, hz⟩
theorem rSkipOut (w : World) (p : Option Addr) (n E : Int) (h : Hid (Calls Tryz.prog 109 #[.pointer p, .int .i64 n] w fun e w' => e = .returned (.int .i64 E) ∧ ∃ k, w' = w.drewN k)) (hE : 1 ≤ E) : Calls Tryz.prog 126 #[.pointer p, .int .i64 n] w fun e w' =>
    e = .returned (.int .i64 E) ∧ ∃ k, w' = w.drewN k := by
  have hE' : (E == 0) = false := by rw [beq_eq_false_iff_ne]; omega
  go_enter Tryz.func126, Tryz.ntmps126
  go_wp2_with fail
  refine h.out.mono ?_; rintro e w1 ⟨rfl, k, rfl⟩
  go_wp2_with fail
  go_ret
  exact ⟨rfl, _, rfl⟩
end Go.Proofs.YtmhjmoeeahepaaaGreat

/- Layers 1 and 2: what layer 10 needs of them. -/
namespace Go.Proofs.YtmhjmoeeahepaaaGreat
open Go.ChangeShapes Go.WideShapes Go.ChangeAt Go.RowKit
set_option linter.unusedVariables false
set_option maxRecDepth 100000
open Bits
theorem spread_next (s : List UInt8) (i k : Nat) (hi : i < s.length) (hk : k < 8) :
    (spread s).take (8 * i + k) ++ [bitAt (s.getD i 0).toNat k] = (spread s).take (8 * i + (k + 1)) := by
  have hl : 8 * i + k < (spread s).length := by rw [spread_length]; omega
  rw [show 8 * i + (k + 1) = 8 * i + k + 1 from by omega, List.take_succ_eq_append_getElem hl]
  congr 2
  have h1 : (spread s).drop (8 * i) = spread (s.drop i) := by rw [spread_drop]
  have h2 : s.drop i = s.getD i 0 :: s.drop (i + 1) := by rw [List.drop_eq_getElem_cons hi]; simp [List.getD_eq_getElem?_getD, hi]
  rw [h2] at h1
  have h3 : (spread s)[8 * i + k]'hl = ((spread s).drop (8 * i))[k]'(by rw [List.length_drop]; omega) := by rw [List.getElem_drop]
  rw [h3]
  have h4 : ((spread s).drop (8 * i))[k]? = (bitsOf (s.getD i 0).toNat 8)[k]? := by
    rw [h1]; show (bitsOf (s.getD i 0).toNat 8 ++ spread (s.drop (i + 1)))[k]? = _
    rw [List.getElem?_append_left (by rw [bitsOf_length]; omega)]
  have h5 : (bitsOf (s.getD i 0).toNat 8)[k]? = some (bitAt (s.getD i 0).toNat k) := by
    obtain ⟨m, hm⟩ : ∃ m, 8 = k + 1 + m := ⟨8 - (k + 1), by omega⟩
    rw [hm, bitsOf_add, ← bitsOf_snoc, List.getElem?_append_left (by simp [bitsOf_length]), List.getElem?_append_right (by simp [bitsOf_length])]
    simp [bitsOf_length]
  rw [h5, List.getElem?_eq_some_iff] at h4
  obtain ⟨_, h4⟩ := h4
  exact h4.symm
theorem byte_of (s : ByteArray) (i : Nat) (hi : i < s.size) : s.data.toList.getD i 0 = s[i] := by
  have h' : i < s.data.size := hi
  simp only [List.getD_eq_getElem?_getD, Array.getElem?_toList, Array.getElem?_eq_getElem h', Option.getD_some]; rfl
set_option maxHeartbeats 1600000 in
theorem dBits (s : ByteArray) (hs : s.size ≤ 10000) (w : World) :
    Calls Tryz.prog 11 #[.string s] w fun e w' => ∃ v, e = .returned v ∧ OwnB w.heap.size w' v (spread s.data.toList) ∧ Below w.heap.size w w' := by
  have hsl : s.data.toList.length = s.size := by simp
  obtain ⟨L, hL⟩ : ∃ L, s.data.toList = L := ⟨_, rfl⟩
  have hg := Lib.hid (fun i hi => byte_of s i hi)
  rw [hL] at hsl hg ⊢
  clear hL
  have hbt := Lib.hid (fun x i hx hi w => dBit x i hx hi w)
  go_enter Tryz.func11, Tryz.ntmps11
  go_wp2
  go_loopw [3, 4] (fun u i wr => ∃ k : Nat, k ≤ s.size ∧ i = .int .i64 k ∧ OwnB w.heap.size wr u ((spread L).take (8 * k)) ∧ Below w.heap.size w wr) (fun _ i _ => s.size - (intOf i).toNat)
  case atStart => exact ⟨0, Nat.zero_le _, rfl, by simpa using OwnS.nil, Below.refl _ _⟩
  case round =>
    obtain ⟨i, hi, rfl, hown, hb⟩ := hrel
    by_cases hit : i < s.size
    · have hbyte := hg.out i hit
      have hb256 : (L.getD i 0).toNat < 256 := (L.getD i 0).toNat_lt
      have hnx := Lib.hid (fun k hk => spread_next L i k (by omega) hk)
      obtain ⟨Z, hZ⟩ : ∃ Z, L.getD i 0 = Z := ⟨_, rfl⟩
      rw [hZ] at hbyte hb256 hnx
      clear hZ
      have hown_ := Lib.hid hown
      have hb_ := Lib.hid hb
      clear hown hb
      go_wp2_with fail
      obtain ⟨wo, rfl⟩ : ∃ wo : World, wo = wr := ⟨_, rfl⟩
      go_loopw [3, 5] (fun u k wr => ∃ j : Nat, j ≤ 8 ∧ k = .int .i64 j ∧ OwnB w.heap.size wr u ((spread L).take (8 * i + j)) ∧ Below w.heap.size w wr) (fun _ k _ => 8 - (intOf k).toNat)
      case atStart => exact ⟨0, by omega, rfl, hown_.out, hb_.out⟩
      case round =>
        clear hown_ hb_
        obtain ⟨j, hj, rfl, hown, hb⟩ := hrel
        have hbs := hb.size
        by_cases hjt : j < 8
        · have HN := Lib.hid (hnx.out j hjt)
          have CB := Lib.hid (fun w => hbt.out Z.toNat j (by omega) (by omega) w)
          obtain ⟨BT, hBT⟩ : ∃ BT, bitAt Z.toNat j = BT := ⟨_, rfl⟩
          rw [hBT] at HN CB
          clear hBT
          have HLn := Lib.hid (show ((spread L).take (8 * i + j)).length ≤ 1099511627776 by rw [List.length_take, spread_length]; omega)
          have HBs := Lib.hid hbs
          have hown_ := Lib.hid hown
          have hb_ := Lib.hid hb
          clear hown hb
          go_wp2_with fail
          rw [← hbyte, wrap_u64_nat _ (by omega)]
          refine (CB.out _).mono ?_; rintro e w1 ⟨rfl, rfl⟩
          go_wp2_with (at_builtin; refine app_bool rfl _ _ rfl _ _ _ _ BT rfl hown_.out _ 1 rfl rfl HLn.out HBs.out ?_; intro v2 w2 hown2 hb2 hg2)
          rw [HN.out] at hown2
          have hb3 := hb_.out.trans hb2
          have hown2_ := Lib.hid hown2
          have hb3_ := Lib.hid hb3
          clear hown2 hb3
          clear hb2 hg2
          go_wp2_with fail
          go_roundw
          case rel => exact ⟨j + 1, by omega, by go_num, hown2_.out, hb3_.out⟩
          case measure => simp [intOf]; omega
        · obtain rfl : j = 8 := by omega
          have hown_ := Lib.hid hown
          have hb_ := Lib.hid hb
          clear hown hb
          go_wp2_with fail
          go_roundw
          case rel => exact ⟨i + 1, by omega, by go_num, hown_.out, hb_.out⟩
          case measure => simp [intOf]; omega
    · obtain rfl : i = s.size := by omega
      rw [List.take_of_length_le (by rw [spread_length]; omega)] at hown
      have hown_ := Lib.hid hown
      have hb_ := Lib.hid hb
      clear hown hb
      go_wp2_with fail
      go_ret
      exact ⟨_, rfl, hown_.out, hb_.out⟩
theorem OwnB.boo {B : Nat} {w : World} {v : Value} {l : List Bool} (h : OwnB B w v l) : ∃ a c, v = .slice a l.length c ∧ l.length ≤ c ∧ IsBoo w a l := by
  obtain ⟨a, c, hv, hb⟩ := h.isB
  subst hv
  refine ⟨a, c, rfl, ?_, hb⟩
  rcases h.2 with ⟨e, h0⟩ | ⟨g, cap, cur, e, -, -, hc, -⟩
  · simp only [Value.slice.injEq] at e; omega
  · simp only [Value.slice.injEq] at e; omega
theorem add_add (x : Addr) (t i : Nat) : (x.add t).add i = x.add (t + i) := by
  obtain ⟨b, o, e⟩ := x
  by_cases hi : i = 0 <;> by_cases ht : t = 0 <;> simp [Addr.add, hi, ht, Nat.add_assoc]
theorem IsBoo.drop {w : World} {a : Option Addr} {l : List Bool} (h : IsBoo w a l) (t : Nat) : IsBoo w (a.map (·.add t)) (l.drop t) := by
  by_cases hz : l.drop t = []
  · exact .inl hz
  rcases h with rfl | ⟨x, rfl, hc⟩
  · simp at hz
  · refine .inr ⟨_, rfl, fun i hi => ?_⟩
    rw [List.length_drop] at hi
    rw [add_add x t i, hc (t + i) (by omega)]
    simp [List.getD_eq_getElem?_getD]
theorem IsBoo.alloc {w : World} {a : Option Addr} {l : List Bool} (h : IsBoo w a l) (o : Obj) : IsBoo (w.alloc o) a l := h.kept ((Below.refl _ _).alloc (Nat.le_refl _) o)
def takeS (l : List Bool) (t : Nat) (n : Int) : Nat × Nat × Int :=
  if n < 0 ∨ 56 < n then (t, 0, 2) else if l.length < t + n.toNat then (t, 0, 3) else (t + n.toNat, peek (l.drop t) n.toNat, 0)
theorem IsReader.kept {w w' : World} {g a : Nat} {s : List UInt8} (h : IsReader w g s a) (hb : Below w.heap.size w w') : IsReader w' g s a := by
  obtain ⟨p, L, C, hg, h1, h2, h3, h4, h5, h6⟩ := h
  refine ⟨p, L, C, (Keeps.of_below (S := fun _ => False) hb).heap hg (fun h => h), h1, h2, h3, h4, h5, fun h0 => ?_⟩
  obtain ⟨b, o, e, hne, hlt, hc⟩ := h6 h0
  exact ⟨b, o, e, hne, Nat.lt_of_lt_of_le hlt hb.size, fun j hj => (hb.cell (p := ⟨b, o + j, none⟩) hlt).trans (hc j hj)⟩
theorem IsReader.alloc {w : World} {g a : Nat} {s : List UInt8} (h : IsReader w g s a) (o : Obj) : IsReader (w.alloc o) g s a := h.kept ((Below.refl _ _).alloc (Nat.le_refl _) o)
theorem IsReader.lt {w : World} {g a : Nat} {s : List UInt8} (h : IsReader w g s a) : g < w.heap.size := by obtain ⟨p, L, C, hg, -⟩ := h; exact block_lt hg
theorem IsReader.le {w : World} {g a : Nat} {s : List UInt8} (h : IsReader w g s a) : a ≤ (spread s).length := by obtain ⟨p, L, C, hg, h1, -⟩ := h; rw [spread_length]; exact h1
theorem rSkipU (w : World) (g t : Nat) (s : List UInt8) (n : Int) (h : IsReader w g s t) (t' W : Nat) (E : Int) (hS : takeS (spread s) t n = (t', W, E)) :
    Calls Tryz.prog 126 #[.pointer (some ⟨g, 0, none⟩), .int .i64 n] w fun e w' => e = .returned (.int .i64 E) ∧ IsReader w' g s t' ∧ Keeps (fun k => k = g) w w' := by
  unfold takeS at hS
  by_cases h1 : n < 0 ∨ 56 < n
  · rw [if_pos h1] at hS
    obtain ⟨rfl, rfl, rfl⟩ := by simpa using hS
    refine (rSkipOut w _ n 2 ((rMayOut _ n h1 w).mono fun e w' ⟨h1, h2⟩ => ⟨h1, 0, h2⟩) (by decide)).mono ?_
    rintro e w' ⟨rfl, k, rfl⟩
    exact ⟨rfl, h, (Keeps.refl _ _).drewN _⟩
  · rw [if_neg h1] at hS
    obtain ⟨n, rfl⟩ : ∃ m : Nat, n = m := ⟨n.toNat, by omega⟩
    rw [Int.toNat_natCast] at hS
    have hn : n ≤ 56 := by omega
    by_cases h2 : (spread s).length < t + n
    · rw [if_pos h2] at hS
      obtain ⟨rfl, rfl, rfl⟩ := by simpa using hS
      refine (rSkipOut w _ n 3 (rMayShort w g _ n s h hn (by rw [← spread_length]; exact h2)) (by decide)).mono ?_
      rintro e w' ⟨rfl, k, rfl⟩
      exact ⟨rfl, h, (Keeps.refl _ _).drewN _⟩
    · rw [if_neg h2] at hS
      obtain ⟨rfl, rfl, rfl⟩ := by simpa using hS
      refine (rSkipIn w g t n s h hn (by rw [← spread_length]; omega)).mono ?_
      rintro e w' ⟨rfl, hr, hk, -⟩
      exact ⟨rfl, hr, hk⟩
def peekS (l : List Bool) (t : Nat) (n : Int) : Nat := if n < 0 ∨ 56 < n then 0 else peek (l.drop t) n.toNat
theorem rPeekU (w : World) (g t : Nat) (s : List UInt8) (n : Int) (h : IsReader w g s t) (W : Nat) (hS : peekS (spread s) t n = W) :
    Calls Tryz.prog 62 #[.pointer (some ⟨g, 0, none⟩), .int .i64 n] w fun e w' => e = .returned (.int .u64 W) ∧ Below w.heap.size w w' := by
  unfold peekS at hS
  by_cases h1 : n < 0 ∨ 56 < n
  · rw [if_pos h1] at hS
    subst hS
    exact (rPeekOut _ n (by omega) w).mono (by rintro e w' ⟨rfl, rfl⟩; exact ⟨rfl, Below.refl _ _⟩)
  · rw [if_neg h1] at hS
    obtain ⟨n, rfl⟩ : ∃ m : Nat, n = m := ⟨n.toNat, by omega⟩
    rw [Int.toNat_natCast] at hS
    subst hS
    exact (rPeek w g t n s h (by omega)).mono (by rintro e w' ⟨rfl, k, rfl⟩; exact ⟨rfl, below_dn (Below.refl _ _) _⟩)
end Go.Proofs.YtmhjmoeeahepaaaGreat

/- Layer 10: Next, Size. -/
namespace Go.Proofs.YtmhjmoeeahepaaaGreat
open Go.ChangeShapes Go.WideShapes Go.ChangeAt Go.RowKit
set_option linter.unusedVariables false
set_option linter.unusedSimpArgs false
set_option maxRecDepth 100000
open KraftMath CanonMath TurnMath Bits
theorem fNextNil (p : Option Addr) (w : World) : Calls Tryz.prog 131 #[.pointer none, .pointer p] w fun e w' => e = .returned (.tuple #[.int .i64 0, .int .i64 1]) ∧ w' = w := by
  go_enter Tryz.func131, Tryz.ntmps131
  go_wp2_with fail
  go_ret2
  exact ⟨rfl, rfl⟩
theorem fNextNone (g : Nat) (w : World) : Calls Tryz.prog 131 #[.pointer (some ⟨g, 0, none⟩), .pointer none] w fun e w' => e = .returned (.tuple #[.int .i64 0, .int .i64 1]) ∧ w' = w := by
  go_enter Tryz.func131, Tryz.ntmps131
  go_wp2_with fail
  go_ret2
  exact ⟨rfl, rfl⟩
theorem tab_at {l : List Int} {L v : Nat} (hv : v < 2 ^ L) : (tabK l L l.length)[v]? = some ((((entB l L v).1 : Nat) : Int), (((entB l L v).2 : Nat) : Int)) := by
  unfold tabK entB
  simp [hv]
theorem ent_le {l : List Int} {L v : Nat} (hl : ∀ s, s < l.length → len l s ≤ L) : (entB l L v).2 ≤ L ∧ ((entB l L v).2 = 0 → (entB l L v).1 = 0) := by
  unfold entB entK
  cases hf : (List.range l.length).find? (hitAt l (bitsOf v L)) with
  | none => simp
  | some s =>
    have h1 := List.find?_some hf
    have h2 := List.mem_range.1 (List.mem_of_find?_eq_some hf)
    refine ⟨hl s h2, fun h0 => ?_⟩
    unfold hitAt at h1
    simp only at h0
    rw [h0] at h1
    simp at h1
def C4 (W : World) (gt ge P : Nat) (v1 v2 v3 v4 : Value) : Prop := W.cell? ⟨gt, 0, none⟩ = some v1 ∧ W.cell? ⟨gt, 1, none⟩ = some v2 ∧ W.cell? ⟨ge, P * 2, none⟩ = some v3 ∧ W.cell? ⟨ge, P * 2 + 1, none⟩ = some v4
theorem C4.keep {W w5 : World} {gt ge P : Nat} {v1 v2 v3 v4 : Value} (h : C4 W gt ge P v1 v2 v3 v4) (hb : Below W.heap.size W w5) (h1 : gt < W.heap.size) (h2 : ge < W.heap.size) : C4 w5 gt ge P v1 v2 v3 v4 :=
  ⟨(hb.cell (p := ⟨gt, 0, none⟩) h1).trans h.1, (hb.cell (p := ⟨gt, 1, none⟩) h1).trans h.2.1, (hb.cell (p := ⟨ge, P * 2, none⟩) h2).trans h.2.2.1, (hb.cell (p := ⟨ge, P * 2 + 1, none⟩) h2).trans h.2.2.2⟩
theorem C4.far {W : World} {gt ge P : Nat} {v1 v2 v3 v4 : Value} (h : C4 W gt ge P v1 v2 v3 v4) {g : Nat} (h1 : gt ≠ g) (h2 : ge ≠ g) (u1 u2 : Value) : C4 ((W.setCell ⟨g, 0, none⟩ u1).setCell ⟨g, 1, none⟩ u2) gt ge P v1 v2 v3 v4 := ⟨far2 h.1 h1, far2 h.2.1 h1, far2 h.2.2.1 h2, far2 h.2.2.2 h2⟩
set_option maxHeartbeats 3200000 in
theorem fNext (w : World) (B gt ge g L : Nat) (l : List Int) (s : List UInt8) (t : Nat) (hL1 : 1 ≤ L) (hL : L ≤ 15) (hlen : ∀ s, s < l.length → len l s ≤ L) (hll : l.length ≤ 1024) (ht : IsTab w B gt ge L (2 ^ L) (tabK l L l.length)) (hr : IsReader w g s t) (hgt : gt ≠ g) (hge : ge ≠ g) (X Y E : Int) (hX : nextL l L ((spread s).drop t) = (X, Y, E)) :
    Calls Tryz.prog 131 #[.pointer (some ⟨gt, 0, none⟩), .pointer (some ⟨g, 0, none⟩)] w fun e w' => e = .returned (.tuple #[.int .i64 X, .int .i64 E]) ∧ IsReader w' g s (t + Y.toNat) ∧ Keeps (fun j => j = g) w w' := by
  have hN0 : 0 < 2 ^ L := Nat.pow_pos (by decide)
  have hN1 : 2 ^ L ≤ 2 ^ 15 := Nat.pow_le_pow_right (by decide) hL
  obtain ⟨P, hP⟩ : ∃ P, peek ((spread s).drop t) L = P := ⟨_, rfl⟩
  have hPl := peek_lt ((spread s).drop t) L
  rw [hP] at hPl
  have hte := tab_at (l := l) hPl
  have hel := ent_le (l := l) (L := L) (v := P) hlen
  unfold nextL at hX
  rw [hP] at hX
  have CP := Lib.hid (fun W h => rPeekU W g t s (L : Int) h P (by unfold peekS; rw [if_neg (by omega), Int.toNat_natCast, hP]))
  have HIT := Lib.hid (fun s' (h : (entB l L P).1 = s') => h)
  obtain ⟨⟨sy, n⟩, hent⟩ : ∃ q, entB l L P = q := ⟨_, rfl⟩
  rw [hent] at hte hel hX
  have hsy : sy ≤ 1024 := by
    have h0 : entB l L P = (sy, n) := hent
    unfold entB entK at h0
    cases hf : (List.range l.length).find? (hitAt l (bitsOf P L)) with
    | none => rw [hf] at h0; injection h0 with e1 e2; omega
    | some q =>
      rw [hf] at h0
      have := List.mem_range.1 (List.mem_of_find?_eq_some hf)
      injection h0 with e1 e2; omega
  simp only at hX hel
  have hwl : (spread s).length - t = ((spread s).drop t).length := by rw [List.length_drop]
  obtain ⟨N, hN⟩ : ∃ N, 2 ^ L = N := ⟨_, rfl⟩
  rw [hN] at ht hN0 hN1 hPl
  have g1 : w.cell? ⟨gt, 0, none⟩ = some (.slice (some ⟨ge, 0, none⟩) N N) := cell_lit ht.tb 0 _ rfl
  have g2 : w.cell? ⟨gt, 1, none⟩ = some (.int .i64 L) := cell_lit ht.tb 1 _ rfl
  have c0 := OwnS.cell flatE ht.row P 0 _ hte (by decide)
  have c1 := OwnS.cell flatE ht.row P 1 _ hte (by decide)
  simp only [fE, List.getElem?_cons_zero, List.getElem?_cons_succ, Nat.add_zero] at c0 c1
  have lgt := block_lt ht.tb
  have lge := (World.ownsRow.lt ht.row ge rfl).2
  have hP0 : (0 : Int) ≤ (P : Int) := by omega
  have hP1 : (P : Int) < (N : Int) := by omega
  have HR := Lib.hid hr; have HX := Lib.hid hX; have HWL := Lib.hid hwl; have HEL := Lib.hid hel
  have HG := Lib.hid (show w.cell? ⟨gt, 0, none⟩ = some (.slice (some ⟨ge, 0, none⟩) N N) ∧ w.cell? ⟨gt, 1, none⟩ = some (.int .i64 L) ∧ w.cell? ⟨ge, P * 2, none⟩ = some (.int .i32 sy) ∧ w.cell? ⟨ge, P * 2 + 1, none⟩ = some (.int .i32 n) from ⟨g1, g2, c0, c1⟩)
  clear ht hr hX hwl hent hte hel hP hN HIT
  go_enter Tryz.func131, Tryz.ntmps131
  go_wp2_with fail
  go_cut [6] from 8 to 33 (fun s6 wc => ∃ gb, s6 = .pointer (some ⟨gb, 0, none⟩) ∧ w.heap.size ≤ gb ∧ Hid (wc.heap[gb]? = some (.cells #[.int .i32 sy, .int .i32 n] 183 (0, 0))) ∧ Hid (Below w.heap.size w wc))
  case first =>
    have H4 := Lib.hid (show C4 w gt ge P (.slice (some ⟨ge, 0, none⟩) N N) (.int .i64 L) (.int .i32 sy) (.int .i32 n) from HG.out)
    have HA := Lib.hid (fun o => H4.out.keep (w5 := w.drew.alloc o) ((Below.refl _ w).drew.alloc (Nat.le_refl _) o) lgt lge)
    go_region_held3 (fun w1 => w1.cell? ⟨gt, 0, none⟩ = some (.slice (some ⟨ge, 0, none⟩) N N) ∧ w1.cell? ⟨gt, 1, none⟩ = some (.int .i64 L) ∧ w1.cell? ⟨ge, P * 2, none⟩ = some (.int .i32 sy) ∧ w1.cell? ⟨ge, P * 2 + 1, none⟩ = some (.int .i32 n)) (first | exact HG.out | exact HA.out _ | exact hS5 | exact hS6 _ | exact hS7 _ _ | fail) (first | ((go_at_call 62; refine (CP.out w.drew (HR.out.drewN 1)).mono ?_; rintro e w5 ⟨rfl, hb5⟩; have hS5 := H4.out.keep ((Below.refl _ w).drew.trans hb5) lgt lge; have hS6 := fun o => H4.out.keep (((Below.refl _ w).drew.trans hb5).alloc (show w.heap.size ≤ w5.heap.size from hb5.size) o) lgt lge)) | ((go_at_call 62; refine (CP.out _ ((HR.out.drewN 1).alloc _)).mono ?_; rintro e w5 ⟨rfl, hb5⟩; have hS5 := H4.out.keep (((Below.refl _ w).drew.alloc (Nat.le_refl _) _).trans (hb5.mono (by simp))) lgt lge; have hbx : w5.heap[w.heap.size]? = some (.cells #[.int .i32 0, .int .i32 0] 183 (0, 0)) := (hb5.block w.heap.size (by simp)).trans (heap_alloc_new w.drew _); have q0 : w5.cell? ⟨w.heap.size, 0, none⟩ = some (.int .i32 0) := cell_lit hbx 0 _ rfl; have q1 : w5.cell? ⟨w.heap.size, 1, none⟩ = some (.int .i32 0) := cell_lit hbx 1 _ rfl; have fq0 := free_in hbx 0; have fq1 := free_in hbx 1; have hS7 := fun u1 u2 => C4.far hS5 (g := w.heap.size) (by omega) (by omega) u1 u2)) | fail)
    all_goals
      go_wp2_with fail
      go_meet
      case rel => first
        | exact ⟨_, rfl, hb5.size, Lib.hid (heap_alloc_new _ _), Lib.hid (((Below.refl _ w).drew.trans hb5).alloc hb5.size _)⟩
        | exact ⟨_, rfl, Nat.le_refl _, Lib.hid (block_set (block_set hbx 0 _) 1 _), Lib.hid (((((Below.refl _ w).drew.alloc (Nat.le_refl _) _).trans (hb5.mono (by simp))).setCell (p := ⟨w.heap.size, 0, none⟩) (Nat.le_refl _) _).setCell (p := ⟨w.heap.size, 1, none⟩) (Nat.le_refl _) _)⟩
  case rest =>
    obtain ⟨gb, rfl, hgb, hbox, hb⟩ := hcut
    have b0 : wc.cell? ⟨gb, 0, none⟩ = some (.int .i32 sy) := cell_lit hbox.out 0 _ rfl
    have b1 : wc.cell? ⟨gb, 1, none⟩ = some (.int .i32 n) := cell_lit hbox.out 1 _ rfl
    have hr2 := HR.out.kept hb.out
    have htl := HR.out.le
    have hn15 := HEL.out.1
    clear g1 g2 c0 c1 CP
    by_cases hn0 : n = 0
    · have hs0 := HEL.out.2 hn0
      subst hn0
      subst hs0
      have hx := HX.out
      rw [if_pos rfl] at hx
      injection hx with e1 e2
      injection e2 with e2 e3
      subst e1 e2 e3
      have HRR := Lib.hid hr2
      have HK := Lib.hid (show Keeps (fun j => j = g) w wc from Keeps.of_below hb.out)
      clear hr2
      go_wp2_with fail
      go_ret2
      exact ⟨rfl, HRR.out, HK.out⟩
    · have hx := HX.out
      rw [if_neg hn0] at hx
      have hnb : ((n : Int) == 0) = false := by rw [beq_eq_false_iff_ne]; omega
      have hwl := HWL.out
      by_cases hsh : ((spread s).drop t).length < n
      · rw [if_pos hsh] at hx
        injection hx with e1 e2
        injection e2 with e2 e3
        subst e1 e2 e3
        have CS := Lib.hid (rSkipU wc g t s (n : Int) hr2 t 0 3 (by unfold takeS; rw [if_neg (by omega), if_pos (by rw [Int.toNat_natCast]; omega)]))
        have HB := hb
        clear hr2 hsh hwl
        go_wp2_with fail
        refine CS.out.mono ?_; rintro e w6 ⟨rfl, hr6, hk6⟩
        have HRR := Lib.hid hr6
        have HK := Lib.hid ((show Keeps (fun j => j = g) w wc from Keeps.of_below hb.out).trans hk6)
        clear hr6 hk6
        go_wp2_with fail
        go_ret2
        exact ⟨rfl, HRR.out, HK.out⟩
      · rw [if_neg hsh] at hx
        injection hx with e1 e2
        injection e2 with e2 e3
        subst e1 e2 e3
        have CS := Lib.hid (rSkipU wc g t s (n : Int) hr2 (t + n) (peek ((spread s).drop t) n) 0 (by unfold takeS; rw [if_neg (by omega), if_neg (by rw [Int.toNat_natCast]; omega), Int.toNat_natCast]))
        clear hr2 hsh hwl
        go_wp2_with fail
        refine CS.out.mono ?_; rintro e w6 ⟨rfl, hr6, hk6⟩
        have HRR := Lib.hid (show IsReader w6 g s (t + ((n : Nat) : Int).toNat) by rw [Int.toNat_natCast]; exact hr6)
        have HK := Lib.hid ((show Keeps (fun j => j = g) w wc from Keeps.of_below hb.out).trans hk6)
        have b0 := (hk6.heap hbox.out (by
          have := IsReader.lt HR.out
          show ¬ gb = g; omega))
        have b0 : w6.cell? ⟨gb, 0, none⟩ = some (.int .i32 sy) := cell_lit b0 0 _ rfl
        clear hr6 hk6
        go_wp2_with fail
        go_ret2
        exact ⟨rfl, HRR.out, HK.out⟩
end Go.Proofs.YtmhjmoeeahepaaaGreat
