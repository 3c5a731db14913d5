import Derived.Test.YtedmnlfbmmlcbaaJ02
import Derived.IntWalk
import Derived.Laws.IdiomStrings
import Derived.WalkLawsBesides
import Derived.Deep.LoopGhost
/- Layer 45: the leaves: chances, spans. -/
namespace Go.Proofs.Ytedmnlfbmmlcbaa
open Go.ChangeShapes Go.WideShapes Go.ChangeAt Go.RowKit
set_option linter.unusedVariables false
set_option maxRecDepth 100000
open Range

def okB (p : Int) : Bool := decide (1 ≤ p) && decide (p ≤ 2047)
theorem okB_yes {p : Int} (h : okB p = true) : 1 ≤ p ∧ p ≤ 2047 := by
  unfold okB at h; simpa using h
theorem okB_no {p : Int} (h : okB p = false) : p < 1 ∨ 2047 < p := by
  unfold okB at h
  by_cases h1 : 1 ≤ p
  · right; simp [h1] at h; exact h
  · left; omega
theorem gChance (p : Int) (w : World) : Calls Try.prog 67 #[.int .i64 p] w fun e w' => e = .returned (.bool (okB p)) ∧ w' = w := by
  obtain ⟨B, hB⟩ : ∃ B, okB p = B := ⟨_, rfl⟩
  rw [hB]
  cases B with
  | true =>
    have h := okB_yes hB
    have h1 := h.1
    have h2 : p < 2048 := by omega
    clear h hB
    go_enter Try.func67, Try.ntmps67
    go_wp2
    go_ret
    exact ⟨rfl, rfl⟩
  | false =>
    rcases okB_no hB with h | h
    · have h1 : ¬ 1 ≤ p := by omega
      clear hB
      go_enter Try.func67, Try.ntmps67
      go_wp2
      go_ret
      exact ⟨rfl, rfl⟩
    · have h1 : 1 ≤ p := by omega
      have h2 : ¬ p < 2048 := by omega
      clear hB
      go_enter Try.func67, Try.ntmps67
      go_wp2
      go_ret
      exact ⟨rfl, rfl⟩
theorem gFits (p : Int) (w : World) : Calls Try.prog 59 #[.int .i64 p] w fun e w' => e = .returned (.bool (okB p)) ∧ w' = w := by
  obtain ⟨B, hB⟩ : ∃ B, okB p = B := ⟨_, rfl⟩
  rw [hB]
  cases B with
  | true =>
    have h := okB_yes hB
    have h1 := h.1
    have h2 := h.2
    clear h hB
    go_enter Try.func59, Try.ntmps59
    go_wp2
    go_ret
    exact ⟨rfl, rfl⟩
  | false =>
    rcases okB_no hB with h | h
    · have h1 : ¬ 1 ≤ p := by omega
      clear hB
      go_enter Try.func59, Try.ntmps59
      go_wp2
      go_ret
      exact ⟨rfl, rfl⟩
    · have h1 : 1 ≤ p := by omega
      have h2 : ¬ p ≤ 2047 := by omega
      clear hB
      go_enter Try.func59, Try.ntmps59
      go_wp2
      go_ret
      exact ⟨rfl, rfl⟩
theorem all_take (l : List Int) (k : Nat) (h : k < l.length) (ht : (l.take k).all okB = true) : (l.take (k + 1)).all okB = okB (l.getD k 0) := by
  rw [take_getD l k h, List.all_append, ht]; simp
theorem all_no (l : List Int) (k : Nat) (h : k < l.length) (hf : okB (l.getD k 0) = false) : l.all okB = false := by
  have e : l = l.take k ++ l.getD k 0 :: l.drop (k + 1) := by rw [← drop_getD l k h, List.take_append_drop]
  rw [e, List.all_append, List.all_cons, hf]; simp
set_option maxHeartbeats 800000 in
theorem gChances (a : Option Addr) (c : Nat) (l : List Int) (w : World) (h : IsInts w a l) :
    Calls Try.prog 52 #[.slice a l.length c] w fun e w' => e = .returned (.bool (l.all okB)) ∧ w' = w := by
  have HI := Lib.hid h
  have hl := h.1
  clear h
  go_enter Try.func52, Try.ntmps52
  go_wp2
  go_loop [7] (fun i => ∃ k : Nat, k ≤ l.length ∧ i = .int .i64 k ∧ Hid ((l.take k).all okB = true)) (fun i => l.length - (intOf i).toNat)
  case atStart => exact ⟨0, Nat.zero_le _, rfl, Lib.hid rfl⟩
  case round =>
    obtain ⟨k, hk, rfl, hall⟩ := hrel
    by_cases hlt : k < l.length
    · obtain ⟨x, rfl, hxb, hc⟩ := HI.out.at k hlt
      have cx := hc k hlt
      have HA := Lib.hid (all_take l k hlt hall.out)
      have HN := fun h => Lib.hid (all_no l k hlt h)
      obtain ⟨Z, hZ⟩ : ∃ Z, l.getD k 0 = Z := ⟨_, rfl⟩
      rw [hZ] at cx HA HN
      have C := Lib.hid (fun w => gChance Z w)
      obtain ⟨B, hB⟩ : ∃ B, okB Z = B := ⟨_, rfl⟩
      rw [hB] at C HA HN
      clear hZ hB hc
      cases B with
      | true =>
        clear HN
        go_wp2_with fail
        refine (C.out _).mono ?_; rintro e w1 ⟨rfl, rfl⟩
        go_wp2_with fail
        go_round
        case rel => exact ⟨k + 1, by omega, by go_num, Lib.hid HA.out⟩
        case measure => simp [intOf]; omega
      | false =>
        have HN2 := HN rfl
        clear HN
        go_wp2_with fail
        refine (C.out _).mono ?_; rintro e w1 ⟨rfl, rfl⟩
        go_wp2_with fail
        go_ret
        exact ⟨ret_b HN2.out.symm, rfl⟩
    · obtain rfl : k = l.length := by omega
      have HT := Lib.hid (show l.all okB = true by have := hall.out; rwa [List.take_length] at this)
      go_wp2
      go_ret
      exact ⟨ret_b HT.out.symm, rfl⟩
set_option maxHeartbeats 800000 in
theorem gFine (a : Option Addr) (c : Nat) (l : List Int) (w : World) (h : IsInts w a l) :
    Calls Try.prog 60 #[.slice a l.length c] w fun e w' => e = .returned (.bool (l.all okB)) ∧ w' = w := by
  have HI := Lib.hid h
  have hl := h.1
  clear h
  go_enter Try.func60, Try.ntmps60
  go_wp2
  go_loop [3] (fun i => ∃ k : Nat, k ≤ l.length ∧ i = .int .i64 k ∧ Hid ((l.take k).all okB = true)) (fun i => l.length - (intOf i).toNat)
  case atStart => exact ⟨0, Nat.zero_le _, rfl, Lib.hid rfl⟩
  case round =>
    obtain ⟨k, hk, rfl, hall⟩ := hrel
    by_cases hlt : k < l.length
    · obtain ⟨x, rfl, hxb, hc⟩ := HI.out.at k hlt
      have cx := hc k hlt
      have HA := Lib.hid (all_take l k hlt hall.out)
      have HN := fun h => Lib.hid (all_no l k hlt h)
      obtain ⟨Z, hZ⟩ : ∃ Z, l.getD k 0 = Z := ⟨_, rfl⟩
      rw [hZ] at cx HA HN
      have C := Lib.hid (fun w => gFits Z w)
      obtain ⟨B, hB⟩ : ∃ B, okB Z = B := ⟨_, rfl⟩
      rw [hB] at C HA HN
      clear hZ hB hc
      cases B with
      | true =>
        clear HN
        go_wp2_with fail
        refine (C.out _).mono ?_; rintro e w1 ⟨rfl, rfl⟩
        go_wp2_with fail
        go_round
        case rel => exact ⟨k + 1, by omega, by go_num, Lib.hid HA.out⟩
        case measure => simp [intOf]; omega
      | false =>
        have HN2 := HN rfl
        clear HN
        go_wp2_with fail
        refine (C.out _).mono ?_; rintro e w1 ⟨rfl, rfl⟩
        go_wp2_with fail
        go_ret
        exact ⟨ret_b HN2.out.symm, rfl⟩
    · obtain rfl : k = l.length := by omega
      have HT := Lib.hid (show l.all okB = true by have := hall.out; rwa [List.take_length] at this)
      go_wp2
      go_ret
      exact ⟨ret_b HT.out.symm, rfl⟩
/-- A span's value. -/
def spV (a b : Nat) : Value := .agg #[.int .u32 a, .int .u32 b]
theorem gAll (w : World) : Calls Try.prog 53 #[] w fun e w' => e = .returned (.agg #[.int .u32 0, .int .u32 4294967295]) ∧ Below w.heap.size w w' := by
  go_enter Try.func53, Try.ntmps53
  go_wp2
  exact bodyPost_ret (v := .agg #[_, _]) (by simp [results, Try.results53, go_sem]) rfl ⟨rfl, by go_grown⟩
theorem mid_int (a b p : Nat) (h : a ≤ b) (hb : b < 4294967296) (hp : p ≤ 2047) : ((a : Int) + ((b : Int) - a) / 2048 * p % 4294967296) % 4294967296 = (mid a b p : Nat) := by
  have h2 := (mid_le a b p h (by omega)).2.2.2
  have e1 : ((b : Int) - a) / 2048 = (((b - a) / 2048 : Nat) : Int) := by omega
  unfold mid
  rw [e1, ← Int.natCast_mul]
  generalize (b - a) / 2048 * p = q at *
  omega
theorem gMiddle (a b p : Nat) (h : a ≤ b) (hb : b < 4294967296) (hp : p ≤ 2047) (w : World) : Calls Try.prog 56 #[.agg #[.int .u32 a, .int .u32 b], .int .i64 p] w fun e w' =>
    e = .returned (.int .u32 (mid a b p : Nat)) ∧ w' = w.alloc (.cells #[.int .u32 a, .int .u32 b] 83) := by
  have HE := Lib.hid (mid_int a b p h hb hp)
  go_enter Try.func56, Try.ntmps56
  go_wp2
  go_ret
  exact ⟨ret_i HE.out, rfl⟩
def sett (a b : Nat) : Bool := decide (a / 16777216 = b / 16777216)
theorem gSettled (a b : Nat) (ha : a < 4294967296) (hb : b < 4294967296) (w : World) : Calls Try.prog 57 #[.agg #[.int .u32 a, .int .u32 b]] w fun e w' =>
    e = .returned (.bool (sett a b)) ∧ w' = w.alloc (.cells #[.int .u32 a, .int .u32 b] 83) := by
  have HE := Lib.hid (show ((a : Int) / 16777216 == (b : Int) / 16777216) = sett a b by
    unfold sett; rw [Bool.eq_iff_iff, beq_iff_eq, decide_eq_true_iff]; omega)
  go_enter Try.func57, Try.ntmps57
  go_wp2
  go_ret
  exact ⟨ret_b HE.out, rfl⟩
theorem gWithout (a b : Nat) (ha : a < 4294967296) (hb : b < 4294967296) (w : World) : Calls Try.prog 58 #[.agg #[.int .u32 a, .int .u32 b]] w fun e w' =>
    e = .returned (.agg #[.int .u32 (a % 16777216 * 256 : Nat), .int .u32 (b % 16777216 * 256 + 255 : Nat)]) ∧
    w' = (w.alloc (.cells #[.int .u32 a, .int .u32 b] 83)).alloc (.cells #[.int .u32 (a % 16777216 * 256 : Nat), .int .u32 (b % 16777216 * 256 + 255 : Nat)] 83) := by
  have H1 := Lib.hid (show (a : Int) * 256 % 4294967296 = ((a % 16777216 * 256 : Nat) : Int) by omega)
  have H2 := Lib.hid (show (b : Int) * 256 % 4294967296 + 255 = ((b % 16777216 * 256 + 255 : Nat) : Int) by omega)
  go_enter Try.func58, Try.ntmps58
  go_wp2
  rw [H1.out, H2.out]
  exact bodyPost_ret (v := .agg #[.int .u32 (a % 16777216 * 256 : Nat), .int .u32 (b % 16777216 * 256 + 255 : Nat)]) (by simp [results, Try.results58, go_sem]) rfl ⟨rfl, rfl⟩
theorem gOfX (a b m : Nat) (bit : Bool) (ha : a < 4294967296) (hb : b < 4294967296) (hm : bit = true → m < b) (hm2 : m < 4294967296) (w : World) : Calls Try.prog 55 #[.agg #[.int .u32 a, .int .u32 b], .bool bit, .int .u32 m] w fun e w' =>
    e = .returned (.agg #[.int .u32 ((if bit then m + 1 else a : Nat) : Int), .int .u32 ((if bit then b else m : Nat) : Int)]) ∧
    w' = (w.alloc (.cells #[.int .u32 a, .int .u32 b] 83)).alloc (.cells #[.int .u32 ((if bit then m + 1 else a : Nat) : Int), .int .u32 ((if bit then b else m : Nat) : Int)] 83) := by
  cases bit with
  | true =>
    have hm := hm rfl
    go_enter Try.func55, Try.ntmps55
    go_wp2
    exact bodyPost_ret (v := .agg #[.int .u32 ((m : Int) + 1), .int .u32 (b : Int)]) (by simp [results, Try.results55, go_sem]) rfl ⟨by simp, by simp⟩
  | false =>
    clear hm
    go_enter Try.func55, Try.ntmps55
    go_wp2
    exact bodyPost_ret (v := .agg #[.int .u32 (a : Int), .int .u32 (m : Int)]) (by simp [results, Try.results55, go_sem]) rfl ⟨by simp, by simp⟩
theorem gOf (a b m : Nat) (bit : Bool) (ha : a < 4294967296) (hb : b < 4294967296) (hm : bit = true → m < b) (hm2 : m < 4294967296) (w : World) : Calls Try.prog 55 #[.agg #[.int .u32 a, .int .u32 b], .bool bit, .int .u32 m] w fun e w' =>
    e = .returned (.agg #[.int .u32 ((if bit then m + 1 else a : Nat) : Int), .int .u32 ((if bit then b else m : Nat) : Int)]) ∧ Below w.heap.size w w' ∧ w'.heap.size = w.heap.size + 2 := by
  refine (gOfX a b m bit ha hb hm hm2 w).mono ?_
  rintro e w1 ⟨rfl, rfl⟩
  exact ⟨rfl, by go_grown, by simp⟩
end Go.Proofs.Ytedmnlfbmmlcbaa

/- Layer 45: the decoder: next, New. -/
namespace Go.Proofs.Ytedmnlfbmmlcbaa
open Go.ChangeShapes Go.WideShapes Go.ChangeAt Go.RowKit
set_option linter.unusedVariables false
set_option maxRecDepth 100000
open Range

theorem bytesRow_get (s : ByteArray) (cap j : Nat) (h : j < s.size) : (bytesRow s cap)[j]? = some (.int .u8 ((s.data.toList.getD j 0).toNat : Int)) := by
  have h' : j < s.data.size := h
  unfold bytesRow
  rw [Array.getElem?_append_left (by simpa using h'), Array.getElem?_map, Array.getElem?_eq_getElem h']
  simp only [Array.getElem?_toList, List.getD_eq_getElem?_getD, Array.getElem?_eq_getElem h', Option.map_some, Option.getD_some]
/-- A row of bytes that is left, in no block g. -/
def LeftAt (w : World) (g : Nat) (p : Option Addr) (s : List UInt8) : Prop :=
  s ≠ [] → ∃ b o, p = some ⟨b, o, none⟩ ∧ b < g ∧ b < w.heap.size ∧ ∀ j, j < s.length → w.cell? ⟨b, o + j, none⟩ = some (.int .u8 ((s.getD j 0).toNat : Int))
def IsDec (w : World) (g : Nat) (d : Dec) : Prop :=
  ∃ p C, w.heap[g]? = some (.cells #[.int .u32 d.a, .int .u32 d.b, .int .u32 d.x, .slice p d.s.length C] 101 (0, 0)) ∧ d.s.length ≤ C ∧ C ≤ maxLen ∧ LeftAt w g p d.s
theorem LeftAt.keeps {w w' : World} {g : Nat} {p : Option Addr} {s : List UInt8} (h : LeftAt w g p s) (hk : Keeps (fun k => k = g) w w') : LeftAt w' g p s := by
  intro h0
  obtain ⟨b, o, rfl, hb, hlt, hc⟩ := h h0
  exact ⟨b, o, rfl, hb, Nat.lt_of_lt_of_le hlt hk.size, fun j hj => by rw [hk.cell hlt (by show ¬ b = g; omega)]; exact hc j hj⟩
theorem LeftAt.tail {w : World} {g b o : Nat} {s : List UInt8} (h : LeftAt w g (some ⟨b, o, none⟩) s) (p : Option Addr) (hp : 1 < s.length → p = some ⟨b, o + 1, none⟩) : LeftAt w g p (s.drop 1) := by
  intro h0
  have hl : 1 < s.length := by
    have : 0 < (s.drop 1).length := List.length_pos_iff.2 h0
    rw [List.length_drop] at this; omega
  obtain ⟨b', o', e, hb, hlt, hc⟩ := h (by intro e; subst e; simp at hl)
  simp only [Option.some.injEq, Addr.mk.injEq, and_true] at e
  obtain ⟨rfl, rfl⟩ := e
  refine ⟨b, o + 1, hp hl, hb, hlt, fun j hj => ?_⟩
  rw [List.length_drop] at hj
  have := hc (j + 1) (by omega)
  rw [show o + 1 + j = o + (j + 1) by omega, this]
  simp [List.getD_eq_getElem?_getD]
theorem IsDec.keepsNot {w w' : World} {g : Nat} {d : Dec} (h : IsDec w g d) (hk : Below w.heap.size w w') : IsDec w' g d := by
  obtain ⟨p, C, hg, h1, h2, h3⟩ := h
  exact ⟨p, C, (hk.block g (block_lt hg)).trans hg, h1, h2, h3.keeps (Keeps.of_below hk)⟩
theorem IsDec.kept {w w' : World} {g B : Nat} {d : Dec} (h : IsDec w g d) (hk : Below B w w') (hB : g < B) : IsDec w' g d := by
  obtain ⟨p, C, hg, h1, h2, h3⟩ := h
  refine ⟨p, C, (hk.block g hB).trans hg, h1, h2, fun h0 => ?_⟩
  obtain ⟨b, o, rfl, hb, hlt, hc⟩ := h3 h0
  exact ⟨b, o, rfl, hb, Nat.lt_of_lt_of_le hlt hk.size, fun j hj => by rw [World.cell?_of_block (w := w) (hk.block b (by omega))]; exact hc j hj⟩
theorem or_u32 (x c : Nat) (hx : x < 4294967296) (hc : c < 256) : bits .or .u32 ((x : Int) * 256 % 4294967296) (c : Int) = ((x % 16777216 * 256 + c : Nat) : Int) := by
  have e1 : (x : Int) * 256 % 4294967296 = ((x % 16777216 * 256 : Nat) : Int) := by omega
  have h := (bits_nat .u32 32 (by decide) (fun n h1 h2 => by first | exact IntWalk.u32_in n (by omega) | (unfold IntKind.wrap; simp; omega)) (x % 16777216 * 256) c (by omega) (by omega)).2
  rw [e1, h]
  congr 1
  have := Nat.two_pow_add_eq_or_of_lt (show c < 2 ^ 8 from hc) (x % 16777216)
  rw [Nat.mul_comm (x % 16777216) 256, show (256 : Nat) = 2 ^ 8 from rfl, ← this]
set_option maxHeartbeats 800000 in
theorem gNextNo (w : World) (g : Nat) (d : Dec) (h : IsDec w g d) (hx : d.x < 4294967296) (h0 : d.s = []) : Calls Try.prog 68 #[.pointer (some ⟨g, 0, none⟩)] w fun e w' =>
    e = .returned (.tuple #[]) ∧ IsDec w' g ⟨d.a, d.b, (moveB d.x d.s).1, (moveB d.x d.s).2⟩ ∧ Keeps (fun k => k = g) w w' ∧ w'.heap.size = w.heap.size := by
  obtain ⟨a, b, x, s⟩ := d
  simp only at h0 hx
  subst h0
  obtain ⟨p, C, hg, h1, h2, h3⟩ := h
  unfold maxLen at h2
  have c2 := cell_in hg 2
  have c3 := cell_in hg 3
  have f2 := free_in hg 2
  simp at c2 c3
  have HG := Lib.hid hg
  have HE := Lib.hid (show (x : Int) * 256 % 4294967296 = ((x % 16777216 * 256 + 0 : Nat) : Int) by omega)
  clear hg h3
  go_enter Try.func68, Try.ntmps68
  go_wp2
  go_end0
  refine ⟨rfl, ⟨p, C, ?_, h1, by unfold maxLen; exact h2, fun h => absurd rfl h⟩, (Keeps.refl (fun k => k = g) w).setCell (p := ⟨g, 2, none⟩) (.inr rfl) _, by simp⟩
  rw [HE.out]
  exact block_set HG.out 2 _
theorem next_close {w : World} {g a b x c L C D q o : Nat} {s : List UInt8} {p : Option Addr} {z y : Int} (hg : w.heap[g]? = some (.cells #[.int .u32 a, .int .u32 b, .int .u32 x, .slice (some ⟨q, o, none⟩) s.length C] 101 (0, 0)))
    (h3 : LeftAt w g (some ⟨q, o, none⟩) s) (hc : (s.getD 0 0).toNat = c) (hL : s.length = L) (hs : 0 < L) (hy : y = ((x % 16777216 * 256 + c : Nat) : Int)) (hp : 1 < L → p = some ⟨q, o + 1, none⟩) (hD : L - 1 ≤ D) (hD2 : D ≤ maxLen) :
    IsDec (((w.setCell ⟨g, 2, none⟩ (.int .u32 z)).setCell ⟨g, 2, none⟩ (.int .u32 y)).setCell ⟨g, 3, none⟩ (.slice p (L - 1) D)).drew g ⟨a, b, (moveB x s).1, (moveB x s).2⟩ ∧
    Keeps (fun k => k = g) w (((w.setCell ⟨g, 2, none⟩ (.int .u32 z)).setCell ⟨g, 2, none⟩ (.int .u32 y)).setCell ⟨g, 3, none⟩ (.slice p (L - 1) D)).drew ∧
    (((w.setCell ⟨g, 2, none⟩ (.int .u32 z)).setCell ⟨g, 2, none⟩ (.int .u32 y)).setCell ⟨g, 3, none⟩ (.slice p (L - 1) D)).drew.heap.size = w.heap.size := by
  have hk : Keeps (fun k => k = g) w (((w.setCell ⟨g, 2, none⟩ (.int .u32 z)).setCell ⟨g, 2, none⟩ (.int .u32 y)).setCell ⟨g, 3, none⟩ (.slice p (L - 1) D)).drew :=
    ((((Keeps.refl (fun k => k = g) w).setCell (p := ⟨g, 2, none⟩) (.inr rfl) _).setCell (p := ⟨g, 2, none⟩) (.inr rfl) _).setCell (p := ⟨g, 3, none⟩) (.inr rfl) _).drew
  refine ⟨⟨p, D, ?_, ?_, hD2, ?_⟩, hk, by simp⟩
  · have := block_set (block_set (block_set hg 2 (.int .u32 z)) 2 (.int .u32 y)) 3 (.slice p (L - 1) D)
    subst hy hc hL
    simp only [moveB, List.length_drop]
    exact this
  · simp only [moveB, List.length_drop]; omega
  · exact (h3.tail p (by rw [hL]; exact hp)).keeps hk
set_option maxHeartbeats 1600000 in
theorem gNextYes (w : World) (g : Nat) (d : Dec) (h : IsDec w g d) (hx : d.x < 4294967296) (h0 : d.s ≠ []) : Calls Try.prog 68 #[.pointer (some ⟨g, 0, none⟩)] w fun e w' =>
    e = .returned (.tuple #[]) ∧ IsDec w' g ⟨d.a, d.b, (moveB d.x d.s).1, (moveB d.x d.s).2⟩ ∧ Keeps (fun k => k = g) w w' ∧ w'.heap.size = w.heap.size := by
  obtain ⟨a, b, x, s⟩ := d
  simp only at h0 hx
  obtain ⟨p, C, hg, h1, h2, h3⟩ := h
  obtain ⟨q, o, rfl, hq, hlt, hc⟩ := h3 h0
  have hs : 0 < s.length := List.length_pos_iff.2 h0
  have c0 := hc 0 hs
  have c2 := cell_in hg 2
  have c3 := cell_in hg 3
  have f2 := free_in hg 2
  have f3 := free_in hg 3
  simp only at h1 c2 c3
  simp at c2 c3
  obtain ⟨c, hcc⟩ : ∃ c, (s.getD 0 0).toNat = c := ⟨_, rfl⟩
  have hc8 : c < 256 := by rw [← hcc]; exact UInt8.toNat_lt _
  rw [Nat.add_zero, hcc] at c0
  have HO := Lib.hid (or_u32 x c hx hc8)
  have HL3 := Lib.hid h3
  have HG := Lib.hid hg
  have HC := Lib.hid hcc
  have hm : C ≤ 9223372036854775807 := by unfold maxLen at h2; omega
  obtain ⟨L, hL⟩ : ∃ L, s.length = L := ⟨_, rfl⟩
  rw [hL] at hs c3 h1
  have HLL := Lib.hid hL
  clear hg h3 hc hcc h0 hL h2
  go_enter Try.func68, Try.ntmps68
  go_wp2
  go_region
  all_goals go_wp2
  · go_end0
    exact ⟨rfl, next_close HG.out HL3.out HC.out HLL.out hs HO.out (fun h => by omega) (by omega) (by unfold maxLen; omega)⟩
  · go_end0
    exact ⟨rfl, next_close HG.out HL3.out HC.out HLL.out hs HO.out (fun h => rfl) (by omega) (by unfold maxLen; omega)⟩
theorem gNext (w : World) (g : Nat) (d : Dec) (h : IsDec w g d) (hx : d.x < 4294967296) : Calls Try.prog 68 #[.pointer (some ⟨g, 0, none⟩)] w fun e w' =>
    e = .returned (.tuple #[]) ∧ IsDec w' g ⟨d.a, d.b, (moveB d.x d.s).1, (moveB d.x d.s).2⟩ ∧ Keeps (fun k => k = g) w w' ∧ w'.heap.size = w.heap.size := by
  by_cases h0 : d.s = []
  · exact gNextNo w g d h hx h0
  · exact gNextYes w g d h hx h0
set_option maxHeartbeats 800000 in
theorem gNew (s : ByteArray) (hs : s.size ≤ 1000000000) (w : World) :
    Calls Try.prog 62 #[.string s] w fun e w' => ∃ g, e = .returned (.pointer (some ⟨g, 0, none⟩)) ∧ IsDec w' g (fresh s.data.toList) ∧ Below w.heap.size w w' ∧ w.heap.size ≤ g ∧ g < w'.heap.size := by
  have hcv := fun w => run_bytes_of_string (P := Try.prog) w 9 52 5 s Try.underlying9 Try.underlying52 Try.underlying5
  have h1 := fun w => grownCap_ge w s.size 0 5
  have h2 := fun w => grownCap_le_maxLen w s.size 0 5 (by unfold maxLen at *; omega)
  have CA := Lib.hid (fun w => gAll w)
  go_enter Try.func62, Try.ntmps62
  go_wp2_with fail
  refine (CA.out _).mono ?_; rintro e w1 ⟨rfl, hb1⟩
  have hcv1 := hcv w1
  have h11 := h1 w1
  have h21 := h2 w1
  clear hcv h1 h2
  go_wp2_with fail
  obtain ⟨W, hW⟩ : ∃ W, ((w1.alloc (.cells (bytesRow s (grownCap w1 s.size 0 5)) 5 ((bytesRow s (grownCap w1 s.size 0 5)).size, (bytesRow s (grownCap w1 s.size 0 5)).size + 1))).alloc (.cells #[.int .u32 0, .int .u32 4294967295, .int .u32 0, .slice (some ⟨w1.heap.size, 0, none⟩) s.size (grownCap w1 s.size 0 5)] 101)).drew = W := ⟨_, rfl⟩
  have hbW : Below w.heap.size w W := by
    rw [← hW]
    exact below_dn (((hb1.alloc hb1.size _).alloc (by have := hb1.size; simp; omega) _)) 1
  have hsz := hb1.size
  have hd0 : IsDec W (w1.heap.size + 1) ⟨0, top, 0, s.data.toList⟩ := by
    rw [← hW]
    refine ⟨_, _, heap_two_last _ _ _, by simpa using h11, h21, fun _ => ⟨w1.heap.size, 0, rfl, by omega, by simp; omega, fun j hj => ?_⟩⟩
    rw [Nat.zero_add]
    exact cell_lit (heap_two_first w1 _ _) j _ (bytesRow_get s _ j hj)
  have hlt : w1.heap.size + 1 < W.heap.size := by rw [← hW]; simp
  obtain ⟨g, hg⟩ : ∃ g, w1.heap.size + 1 = g := ⟨_, rfl⟩
  rw [hW]
  rw [hg] at hd0 hlt ⊢
  have hwg : w.heap.size ≤ g := by omega
  have HF := Lib.hid (show fresh s.data.toList = ⟨0, top, (moves 4 0 s.data.toList).1, (moves 4 0 s.data.toList).2⟩ from rfl)
  have HD := Lib.hid hd0
  have HB := Lib.hid hbW
  clear hW hcv1 h11 h21 hb1 hsz hg hd0 hbW CA
  obtain ⟨wS, hwS⟩ : ∃ wS, w1.heap.size = wS := ⟨_, rfl⟩
  try rw [hwS]
  clear hwS
  go_loopw [9] (fun i wr => ∃ k : Nat, k ≤ 4 ∧ i = .int .i64 k ∧ IsDec wr g ⟨0, top, (moves k 0 s.data.toList).1, (moves k 0 s.data.toList).2⟩ ∧ Below w.heap.size w wr ∧ g < wr.heap.size) (fun i _ => 4 - (intOf i).toNat)
  case atStart => exact ⟨0, Nat.zero_le _, rfl, HD.out, HB.out, hlt⟩
  case round =>
    obtain ⟨k, hk, rfl, hd, hb, hl⟩ := hrel
    by_cases hk4 : k < 4
    · have C := Lib.hid (gNext wr g _ hd (moves_lt k 0 _ (by decide)))
      have HM := Lib.hid (moves_succ k 0 s.data.toList)
      have hd_ := Lib.hid hd
      have hb_ := Lib.hid hb
      clear hd hb
      go_wp2_with fail
      refine C.out.mono ?_; rintro e w2 ⟨rfl, hd2, hk2, hz2⟩
      have hb2 := hb_.out.trans (hk2.below (B := w.heap.size) (fun k hk => ⟨by have := hb_.out.size; omega, fun e => by omega⟩))
      have hl2 : g < w2.heap.size := by omega
      have hd2_ := Lib.hid hd2
      have hb2_ := Lib.hid hb2
      clear hd2 hb2
      clear hk2 hz2
      go_wp2_with fail
      go_roundw
      case rel => exact ⟨k + 1, by omega, by go_num, by rw [HM.out]; exact hd2_.out, hb2_.out, hl2⟩
      case measure => simp [intOf]; omega
    · obtain rfl : k = 4 := by omega
      have hd_ := Lib.hid hd
      have hb_ := Lib.hid hb
      clear hd hb
      go_wp2_with fail
      go_ret
      exact ⟨g, rfl, by rw [HF.out]; exact hd_.out, hb_.out, hwg, hl⟩
end Go.Proofs.Ytedmnlfbmmlcbaa

/- Layer 45: the decoder: Bit. -/
namespace Go.Proofs.Ytedmnlfbmmlcbaa
open Go.ChangeShapes Go.WideShapes Go.ChangeAt Go.RowKit Go.Deep
set_option linter.unusedVariables false
set_option maxRecDepth 100000
open Range

theorem gBitNone (p : Int) (w : World) : Calls Try.prog 64 #[.pointer none, .int .i64 p] w fun e w' => e = .returned (.tuple #[.bool false, .int .i64 1]) ∧ w' = w := by
  go_enter Try.func64, Try.ntmps64
  go_wp2
  go_ret2
  exact ⟨rfl, rfl⟩
theorem gBitOut (a : Addr) (p : Int) (w : World) (h : okB p = false) : Calls Try.prog 64 #[.pointer (some a), .int .i64 p] w fun e w' => e = .returned (.tuple #[.bool false, .int .i64 2]) ∧ w' = w := by
  have C := Lib.hid (gChance p w)
  rw [h] at C
  clear h
  go_enter Try.func64, Try.ntmps64
  go_wp2_with fail
  refine C.out.mono ?_; rintro e w1 ⟨rfl, rfl⟩
  go_wp2_with fail
  go_ret2
  exact ⟨rfl, rfl⟩
/-- On the way to T. -/
def Going (T : Dec) (f : Nat) (d : Dec) : Prop :=
  Wide f d.a d.b ∧ d.x < 4294967296 ∧ (sttl f d.a d.b).2.1 = T.a ∧ (sttl f d.a d.b).2.2 = T.b ∧ moves (sttl f d.a d.b).1.length d.x d.s = (T.x, T.s)
theorem going_next {T d : Dec} {f : Nat} (h : Going T f d) (hs : sett d.a d.b = true) : ∃ f', f = f' + 1 ∧ Going T f' ⟨d.a % 16777216 * 256, d.b % 16777216 * 256 + 255, (moveB d.x d.s).1, (moveB d.x d.s).2⟩ := by
  obtain ⟨h1, h2, h3, h4, h5⟩ := h
  have he : d.a / 16777216 = d.b / 16777216 := by simpa [sett] using hs
  cases f with
  | zero => exact absurd he (wide0 h1)
  | succ f =>
    rw [settle_yes he] at h3 h4 h5
    exact ⟨f, rfl, wide_next h1 he, move_lt _ _, h3, h4, h5⟩
theorem going_done {T d : Dec} {f : Nat} (h : Going T f d) (hs : sett d.a d.b = false) : d = T := by
  obtain ⟨h1, h2, h3, h4, h5⟩ := h
  have he : d.a / 16777216 ≠ d.b / 16777216 := by simpa [sett] using hs
  rw [settle_no he] at h3 h4 h5
  obtain ⟨a, b, x, s⟩ := d
  obtain ⟨a', b', x', s'⟩ := T
  simp only [List.length_nil, moves, Prod.mk.injEq] at *
  obtain ⟨h5, h6⟩ := h5
  subst h3 h4 h5 h6
  rfl
theorem IsDec.set2 {w : World} {g : Nat} {d : Dec} (h : IsDec w g d) (a b : Nat) : IsDec ((w.setCell ⟨g, 0, none⟩ (.int .u32 a)).setCell ⟨g, 1, none⟩ (.int .u32 b)) g ⟨a, b, d.x, d.s⟩ := by
  obtain ⟨p, C, hg, h1, h2, h3⟩ := h
  refine ⟨p, C, block_set (block_set hg 0 _) 1 _, h1, h2, h3.keeps (((Keeps.refl (fun k => k = g) w).setCell (p := ⟨g, 0, none⟩) (.inr rfl) _).setCell (p := ⟨g, 1, none⟩) (.inr rfl) _)⟩
theorem IsDec.cells {w : World} {g : Nat} {d : Dec} (h : IsDec w g d) : g < w.heap.size ∧ w.cell? ⟨g, 0, none⟩ = some (.int .u32 d.a) ∧ w.cell? ⟨g, 1, none⟩ = some (.int .u32 d.b) ∧ w.cell? ⟨g, 2, none⟩ = some (.int .u32 d.x) ∧
    w.frozen? ⟨g, 0, none⟩ = false ∧ w.frozen? ⟨g, 1, none⟩ = false := by
  obtain ⟨p, C, hg, h1, h2, h3⟩ := h
  exact ⟨block_lt hg, by rw [cell_in hg]; rfl, by rw [cell_in hg]; rfl, by rw [cell_in hg]; rfl, free_in hg 0, free_in hg 1⟩
set_option maxHeartbeats 3200000 in
theorem gBit (w : World) (g : Nat) (d : Dec) (P : Nat) (h : IsDec w g d) (hf : Fine d) (hp : okB P = true) : Calls Try.prog 64 #[.pointer (some ⟨g, 0, none⟩), .int .i64 P] w fun e w' =>
    e = .returned (.tuple #[.bool (bitOf d P), .int .i64 0]) ∧ IsDec w' g (behind d P) ∧ Keeps (fun k => k = g) w w' := by
  have hpp : 1 ≤ P ∧ P ≤ 2047 := by have := okB_yes hp; omega
  have hm := mid_le d.a d.b P hf.1.1 (by omega)
  have hab := apart_lt hf.1
  have hb32 := hf.1.2.1
  have hx := hf.2
  have C1 := Lib.hid (gChance P w)
  rw [hp] at C1
  have C2 := Lib.hid (gMiddle d.a d.b P hf.1.1 hb32 hpp.2 w)
  have hmid := hm.2.2.1 hab
  have hamid := hm.1
  have HT : Hid (∀ a b, (if bitOf d P then mid d.a d.b P + 1 else d.a : Nat) = a → (if bitOf d P then d.b else mid d.a d.b P : Nat) = b → Going (behind d P) 4 ⟨a, b, d.x, d.s⟩) := by
    intro a b ha hb
    have hbh : behind d P = ⟨(sttl 4 a b).2.1, (sttl 4 a b).2.2, (moves (sttl 4 a b).1.length d.x d.s).1, (moves (sttl 4 a b).1.length d.x d.s).2⟩ := by
      subst ha hb
      unfold behind Range.part
      cases bitOf d P <;> rfl
    rw [hbh]
    refine ⟨?_, hx, rfl, rfl, rfl⟩
    subst ha hb
    cases bitOf d P
    · exact wide4 _ _ hamid (by simp only; simp; omega)
    · exact wide4 _ _ (by simp; omega) hb32
  have HBT := Lib.hid (show decide (mid d.a d.b P < d.x) = bitOf d P from rfl)
  obtain ⟨T, hT⟩ : ∃ T, behind d P = T := ⟨_, rfl⟩
  rw [hT] at HT ⊢
  obtain ⟨M, hM⟩ : ∃ M, mid d.a d.b P = M := ⟨_, rfl⟩
  rw [hM] at C2 HT HBT hmid hamid
  obtain ⟨BT, hBT⟩ : ∃ BT, bitOf d P = BT := ⟨_, rfl⟩
  rw [hBT] at HT HBT ⊢
  have CO := Lib.hid (fun w => gOf d.a d.b M BT (by omega) hb32 (fun _ => hmid) (by omega) w)
  obtain ⟨A, hA⟩ : ∃ A, (if BT then M + 1 else d.a : Nat) = A := ⟨_, rfl⟩
  obtain ⟨B, hB⟩ : ∃ B, (if BT then d.b else M : Nat) = B := ⟨_, rfl⟩
  have HG := Lib.hid (HT.out A B hA hB)
  rw [hA, hB] at CO
  obtain ⟨c, c0, c1, c2, f0, f1⟩ := h.cells
  have HD := Lib.hid h
  obtain ⟨da, db, dx, ds⟩ := d
  simp only at *
  have HBT2 := HBT.out
  clear h hf hp hm hT hM hBT HT hA hB HBT
  go_enter Try.func64, Try.ntmps64
  go_wp2_with fail
  refine C1.out.mono ?_; rintro e w1 ⟨rfl, rfl⟩
  go_wp2_with fail
  refine C2.out.mono ?_; rintro e w1 ⟨rfl, rfl⟩
  go_wp2_with fail
  refine (CO.out _).mono ?_; rintro e w2 ⟨rfl, hb2, hz2⟩
  have hbw : Below w1.heap.size w1 w2 := ((Below.refl _ _).alloc (Nat.le_refl _) _).trans (hb2.mono (by simp))
  have hd2 := HD.out.keepsNot hbw
  obtain ⟨gl, c0', c1', c2', f0', f1'⟩ := hd2.cells
  simp only at c0' c1' c2'
  have HS := Lib.hid (hd2.set2 A B)
  have HK := Lib.hid (((Keeps.of_below (S := fun k => k = g) hbw).setCell (p := ⟨g, 0, none⟩) (.inr rfl) (.int .u32 A)).setCell (p := ⟨g, 1, none⟩) (.inr rfl) (.int .u32 B))
  clear HD CO C1 C2 c0 c1 c2 f0 f1 hb2 hz2 hbw hd2
  go_wp2_with fail
  clear c0' c1' c2' f0' f1' HBT2
  go_loopg [] 4 (fun f wr => ∃ d, Going T f d ∧ IsDec wr g d ∧ Keeps (fun k => k = g) w1 wr)
  case atStart => exact ⟨_, HG.out, HS.out, HK.out⟩
  case round =>
    obtain ⟨d', hgo, hd', hk'⟩ := hrel
    have hgn := going_next (T := T) (d := d') (f := gk) hgo
    have hgd := going_done (T := T) (d := d') (f := gk) hgo
    obtain ⟨gl', c0, c1, c2, f0, f1⟩ := hd'.cells
    have hA32 : d'.a < 4294967296 := by have := hgo.1.1; have := hgo.1.2.1; omega
    have hB32 : d'.b < 4294967296 := hgo.1.2.1
    have hX32 := hgo.2.1
    obtain ⟨a', b', x', s'⟩ := d'
    simp only at *
    have CS := Lib.hid (fun w => gSettled a' b' hA32 hB32 w)
    have CW := Lib.hid (fun w => gWithout a' b' hA32 hB32 w)
    have HD := Lib.hid hd'
    have HK := Lib.hid hk'
    obtain ⟨ST, hST⟩ : ∃ ST, sett a' b' = ST := ⟨_, rfl⟩
    rw [hST] at hgn hgd CS
    clear hST hgo hd' hk'
    cases ST with
    | false =>
      have hTT := Lib.hid (hgd rfl)
      clear hgn hgd
      go_wp2_with fail
      refine (CS.out _).mono ?_; rintro e w3 ⟨rfl, rfl⟩
      go_wp2_with fail
      go_ret2
      refine ⟨rfl, ?_, HK.out.alloc _⟩
      have := HD.out.keepsNot ((Below.refl _ wr).alloc (Nat.le_refl _) (.cells #[.int .u32 a', .int .u32 b'] 83))
      rw [hTT.out] at this
      exact this
    | true =>
      obtain ⟨f', rfl, hgo'⟩ := hgn rfl
      have HGO := Lib.hid hgo'
      clear hgd hgo' hgn
      go_wp2_with fail
      refine (CS.out _).mono ?_; rintro e w3 ⟨rfl, rfl⟩
      go_wp2_with fail
      refine (CW.out _).mono ?_; rintro e w4 ⟨rfl, hw4⟩
      have hb4 : Below wr.heap.size wr w4 := by
        rw [hw4]
        exact ((((Below.refl wr.heap.size wr).alloc (Nat.le_refl _) (.cells #[.int .u32 a', .int .u32 b'] 83)).alloc (by simp) (.cells #[.int .u32 a', .int .u32 b'] 83)).alloc (by simp; omega) (.cells #[.int .u32 (a' % 16777216 * 256 : Nat), .int .u32 (b' % 16777216 * 256 + 255 : Nat)] 83))
      have hd4 := HD.out.keepsNot hb4
      obtain ⟨gl4, d0, d1, d2, e0, e1⟩ := hd4.cells
      simp only at d0 d1 d2
      have HD4 := Lib.hid (hd4.set2 (a' % 16777216 * 256) (b' % 16777216 * 256 + 255))
      have HK4 := Lib.hid (((HK.out.trans (Keeps.of_below hb4)).setCell (p := ⟨g, 0, none⟩) (.inr rfl) (.int .u32 (a' % 16777216 * 256 : Nat))).setCell (p := ⟨g, 1, none⟩) (.inr rfl) (.int .u32 (b' % 16777216 * 256 + 255 : Nat)))
      obtain ⟨a2, ha2⟩ : ∃ a2, a' % 16777216 * 256 = a2 := ⟨_, rfl⟩
      obtain ⟨b2, hb2⟩ : ∃ b2, b' % 16777216 * 256 + 255 = b2 := ⟨_, rfl⟩
      rw [ha2, hb2] at HD4 HK4 HGO ⊢
      have CN := Lib.hid (gNext _ g _ HD4.out hX32)
      clear hd4 hb4 hw4 c0 c1 c2 f0 f1 ha2 hb2 CS CW
      go_wp2_with fail
      refine CN.out.mono ?_; rintro e w5 ⟨rfl, hd5, hk5, -⟩
      have HD5 := Lib.hid hd5
      have HK5 := Lib.hid (HK4.out.trans hk5)
      clear hd5 hk5 d0 d1 d2 e0 e1
      go_wp2_with fail
      go_roundg f'
      case rel => exact ⟨_, HGO.out, HD5.out, HK5.out⟩
      case measure => omega
end Go.Proofs.Ytedmnlfbmmlcbaa
