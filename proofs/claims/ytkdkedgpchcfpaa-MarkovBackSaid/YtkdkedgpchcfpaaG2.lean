/- Layer 45: the decoder: next, New. -/
import Derived.Test.YtkdkedgpchcfpaaG1
import Derived.Laws.IdiomStrings
import Derived.WalkLawsBesides
namespace Go.Proofs.Ytkdkedgpchcfpaa
open Go.ChangeShapes Go.WideShapes Go.ChangeAt Go.RowKit
set_option linter.unusedVariables false
set_option maxRecDepth 100000
open Range

theorem bytesRow_get (s : ByteArray) (cap j : Nat) (h : j < s.size) : (bytesRow s cap)[j]? = some (.int .u8 ((s.data.toList.getD j 0).toNat : Int)) := by
  have h' : j < s.data.size := h
  unfold bytesRow
  rw [Array.getElem?_append_left (by simpa using h'), Array.getElem?_map, Array.getElem?_eq_getElem h']
  simp only [Array.getElem?_toList, List.getD_eq_getElem?_getD, Array.getElem?_eq_getElem h', Option.map_some, Option.getD_some]
/-- A row of bytes that is left, in no block g. -/
def LeftAt (w : World) (g : Nat) (p : Option Addr) (s : List UInt8) : Prop :=
  s ≠ [] → ∃ b o, p = some ⟨b, o, none⟩ ∧ b < g ∧ b < w.heap.size ∧ ∀ j, j < s.length → w.cell? ⟨b, o + j, none⟩ = some (.int .u8 ((s.getD j 0).toNat : Int))
def IsDec (w : World) (g : Nat) (d : Dec) : Prop :=
  ∃ p C, w.heap[g]? = some (.cells #[.int .u32 d.a, .int .u32 d.b, .int .u32 d.x, .slice p d.s.length C] 85 (0, 0)) ∧ d.s.length ≤ C ∧ C ≤ maxLen ∧ LeftAt w g p d.s
theorem LeftAt.keeps {w w' : World} {g : Nat} {p : Option Addr} {s : List UInt8} (h : LeftAt w g p s) (hk : Keeps (fun k => k = g) w w') : LeftAt w' g p s := by
  intro h0
  obtain ⟨b, o, rfl, hb, hlt, hc⟩ := h h0
  exact ⟨b, o, rfl, hb, Nat.lt_of_lt_of_le hlt hk.size, fun j hj => by rw [hk.cell hlt (by show ¬ b = g; omega)]; exact hc j hj⟩
theorem LeftAt.tail {w : World} {g b o : Nat} {s : List UInt8} (h : LeftAt w g (some ⟨b, o, none⟩) s) (p : Option Addr) (hp : 1 < s.length → p = some ⟨b, o + 1, none⟩) : LeftAt w g p (s.drop 1) := by
  intro h0
  have hl : 1 < s.length := by
    have : 0 < (s.drop 1).length := List.length_pos_iff.2 h0
    rw [List.length_drop] at this; omega
  obtain ⟨b', o', e, hb, hlt, hc⟩ := h (by intro e; subst e; simp at hl)
  simp only [Option.some.injEq, Addr.mk.injEq, and_true] at e
  obtain ⟨rfl, rfl⟩ := e
  refine ⟨b, o + 1, hp hl, hb, hlt, fun j hj => ?_⟩
  rw [List.length_drop] at hj
  have := hc (j + 1) (by omega)
  rw [show o + 1 + j = o + (j + 1) by omega, this]
  simp [List.getD_eq_getElem?_getD]
theorem IsDec.keepsNot {w w' : World} {g : Nat} {d : Dec} (h : IsDec w g d) (hk : Below w.heap.size w w') : IsDec w' g d := by
  obtain ⟨p, C, hg, h1, h2, h3⟩ := h
  exact ⟨p, C, (hk.block g (block_lt hg)).trans hg, h1, h2, h3.keeps (Keeps.of_below hk)⟩
theorem IsDec.kept {w w' : World} {g B : Nat} {d : Dec} (h : IsDec w g d) (hk : Below B w w') (hB : g < B) : IsDec w' g d := by
  obtain ⟨p, C, hg, h1, h2, h3⟩ := h
  refine ⟨p, C, (hk.block g hB).trans hg, h1, h2, fun h0 => ?_⟩
  obtain ⟨b, o, rfl, hb, hlt, hc⟩ := h3 h0
  exact ⟨b, o, rfl, hb, Nat.lt_of_lt_of_le hlt hk.size, fun j hj => by rw [World.cell?_of_block (w := w) (hk.block b (by omega))]; exact hc j hj⟩
theorem or_u32 (x c : Nat) (hx : x < 4294967296) (hc : c < 256) : bits .or .u32 ((x : Int) * 256 % 4294967296) (c : Int) = ((x % 16777216 * 256 + c : Nat) : Int) := by
  have e1 : (x : Int) * 256 % 4294967296 = ((x % 16777216 * 256 : Nat) : Int) := by omega
  have h := (bits_nat .u32 32 (by decide) (fun n h1 h2 => by first | exact IntWalk.u32_in n (by omega) | (unfold IntKind.wrap; simp; omega)) (x % 16777216 * 256) c (by omega) (by omega)).2
  rw [e1, h]
  congr 1
  have := Nat.two_pow_add_eq_or_of_lt (show c < 2 ^ 8 from hc) (x % 16777216)
  rw [Nat.mul_comm (x % 16777216) 256, show (256 : Nat) = 2 ^ 8 from rfl, ← this]
set_option maxHeartbeats 800000 in
theorem gNextNo (w : World) (g : Nat) (d : Dec) (h : IsDec w g d) (hx : d.x < 4294967296) (h0 : d.s = []) : Calls Try.prog 51 #[.pointer (some ⟨g, 0, none⟩)] w fun e w' =>
    e = .returned (.tuple #[]) ∧ IsDec w' g ⟨d.a, d.b, (moveB d.x d.s).1, (moveB d.x d.s).2⟩ ∧ Keeps (fun k => k = g) w w' ∧ w'.heap.size = w.heap.size := by
  obtain ⟨a, b, x, s⟩ := d
  simp only at h0 hx
  subst h0
  obtain ⟨p, C, hg, h1, h2, h3⟩ := h
  unfold maxLen at h2
  have c2 := cell_in hg 2
  have c3 := cell_in hg 3
  have f2 := free_in hg 2
  simp at c2 c3
  have HG := Lib.hid hg
  have HE := Lib.hid (show (x : Int) * 256 % 4294967296 = ((x % 16777216 * 256 + 0 : Nat) : Int) by omega)
  clear hg h3
  go_enter Try.func51, Try.ntmps51
  go_wp2
  go_end0
  refine ⟨rfl, ⟨p, C, ?_, h1, by unfold maxLen; exact h2, fun h => absurd rfl h⟩, (Keeps.refl (fun k => k = g) w).setCell (p := ⟨g, 2, none⟩) (.inr rfl) _, by simp⟩
  rw [HE.out]
  exact block_set HG.out 2 _
theorem next_close {w : World} {g a b x c L C D q o : Nat} {s : List UInt8} {p : Option Addr} {z y : Int} (hg : w.heap[g]? = some (.cells #[.int .u32 a, .int .u32 b, .int .u32 x, .slice (some ⟨q, o, none⟩) s.length C] 85 (0, 0)))
    (h3 : LeftAt w g (some ⟨q, o, none⟩) s) (hc : (s.getD 0 0).toNat = c) (hL : s.length = L) (hs : 0 < L) (hy : y = ((x % 16777216 * 256 + c : Nat) : Int)) (hp : 1 < L → p = some ⟨q, o + 1, none⟩) (hD : L - 1 ≤ D) (hD2 : D ≤ maxLen) :
    IsDec (((w.setCell ⟨g, 2, none⟩ (.int .u32 z)).setCell ⟨g, 2, none⟩ (.int .u32 y)).setCell ⟨g, 3, none⟩ (.slice p (L - 1) D)).drew g ⟨a, b, (moveB x s).1, (moveB x s).2⟩ ∧
    Keeps (fun k => k = g) w (((w.setCell ⟨g, 2, none⟩ (.int .u32 z)).setCell ⟨g, 2, none⟩ (.int .u32 y)).setCell ⟨g, 3, none⟩ (.slice p (L - 1) D)).drew ∧
    (((w.setCell ⟨g, 2, none⟩ (.int .u32 z)).setCell ⟨g, 2, none⟩ (.int .u32 y)).setCell ⟨g, 3, none⟩ (.slice p (L - 1) D)).drew.heap.size = w.heap.size := by
  have hk : Keeps (fun k => k = g) w (((w.setCell ⟨g, 2, none⟩ (.int .u32 z)).setCell ⟨g, 2, none⟩ (.int .u32 y)).setCell ⟨g, 3, none⟩ (.slice p (L - 1) D)).drew :=
    ((((Keeps.refl (fun k => k = g) w).setCell (p := ⟨g, 2, none⟩) (.inr rfl) _).setCell (p := ⟨g, 2, none⟩) (.inr rfl) _).setCell (p := ⟨g, 3, none⟩) (.inr rfl) _).drew
  refine ⟨⟨p, D, ?_, ?_, hD2, ?_⟩, hk, by simp⟩
  · have := block_set (block_set (block_set hg 2 (.int .u32 z)) 2 (.int .u32 y)) 3 (.slice p (L - 1) D)
    subst hy hc hL
    simp only [moveB, List.length_drop]
    exact this
  · simp only [moveB, List.length_drop]; omega
  · exact (h3.tail p (by rw [hL]; exact hp)).keeps hk
set_option maxHeartbeats 1600000 in
theorem gNextYes (w : World) (g : Nat) (d : Dec) (h : IsDec w g d) (hx : d.x < 4294967296) (h0 : d.s ≠ []) : Calls Try.prog 51 #[.pointer (some ⟨g, 0, none⟩)] w fun e w' =>
    e = .returned (.tuple #[]) ∧ IsDec w' g ⟨d.a, d.b, (moveB d.x d.s).1, (moveB d.x d.s).2⟩ ∧ Keeps (fun k => k = g) w w' ∧ w'.heap.size = w.heap.size := by
  obtain ⟨a, b, x, s⟩ := d
  simp only at h0 hx
  obtain ⟨p, C, hg, h1, h2, h3⟩ := h
  obtain ⟨q, o, rfl, hq, hlt, hc⟩ := h3 h0
  have hs : 0 < s.length := List.length_pos_iff.2 h0
  have c0 := hc 0 hs
  have c2 := cell_in hg 2
  have c3 := cell_in hg 3
  have f2 := free_in hg 2
  have f3 := free_in hg 3
  simp only at h1 c2 c3
  simp at c2 c3
  obtain ⟨c, hcc⟩ : ∃ c, (s.getD 0 0).toNat = c := ⟨_, rfl⟩
  have hc8 : c < 256 := by rw [← hcc]; exact UInt8.toNat_lt _
  rw [Nat.add_zero, hcc] at c0
  have HO := Lib.hid (or_u32 x c hx hc8)
  have HL3 := Lib.hid h3
  have HG := Lib.hid hg
  have HC := Lib.hid hcc
  have hm : C ≤ 9223372036854775807 := by unfold maxLen at h2; omega
  obtain ⟨L, hL⟩ : ∃ L, s.length = L := ⟨_, rfl⟩
  rw [hL] at hs c3 h1
  have HLL := Lib.hid hL
  clear hg h3 hc hcc h0 hL h2
  go_enter Try.func51, Try.ntmps51
  go_wp2
  go_region
  all_goals go_wp2
  · go_end0
    exact ⟨rfl, next_close HG.out HL3.out HC.out HLL.out hs HO.out (fun h => by omega) (by omega) (by unfold maxLen; omega)⟩
  · go_end0
    exact ⟨rfl, next_close HG.out HL3.out HC.out HLL.out hs HO.out (fun h => rfl) (by omega) (by unfold maxLen; omega)⟩
theorem gNext (w : World) (g : Nat) (d : Dec) (h : IsDec w g d) (hx : d.x < 4294967296) : Calls Try.prog 51 #[.pointer (some ⟨g, 0, none⟩)] w fun e w' =>
    e = .returned (.tuple #[]) ∧ IsDec w' g ⟨d.a, d.b, (moveB d.x d.s).1, (moveB d.x d.s).2⟩ ∧ Keeps (fun k => k = g) w w' ∧ w'.heap.size = w.heap.size := by
  by_cases h0 : d.s = []
  · exact gNextNo w g d h hx h0
  · exact gNextYes w g d h hx h0
set_option maxHeartbeats 800000 in
theorem gNew (s : ByteArray) (hs : s.size ≤ 1000000000) (w : World) :
    Calls Try.prog 20 #[.string s] w fun e w' => ∃ g, e = .returned (.pointer (some ⟨g, 0, none⟩)) ∧ IsDec w' g (fresh s.data.toList) ∧ Below w.heap.size w w' ∧ w.heap.size ≤ g ∧ g < w'.heap.size := by
  have hcv := fun w => run_bytes_of_string (P := Try.prog) w 9 75 5 s Try.underlying9 Try.underlying75 Try.underlying5
  have h1 := fun w => grownCap_ge w s.size 0 5
  have h2 := fun w => grownCap_le_maxLen w s.size 0 5 (by unfold maxLen at *; omega)
  have CA := Lib.hid (fun w => gAll w)
  go_enter Try.func20, Try.ntmps20
  go_wp2_with fail
  refine (CA.out _).mono ?_; rintro e w1 ⟨rfl, hb1⟩
  have hcv1 := hcv w1
  have h11 := h1 w1
  have h21 := h2 w1
  clear hcv h1 h2
  go_wp2_with fail
  obtain ⟨W, hW⟩ : ∃ W, ((w1.alloc (.cells (bytesRow s (grownCap w1 s.size 0 5)) 5 ((bytesRow s (grownCap w1 s.size 0 5)).size, (bytesRow s (grownCap w1 s.size 0 5)).size + 1))).alloc (.cells #[.int .u32 0, .int .u32 4294967295, .int .u32 0, .slice (some ⟨w1.heap.size, 0, none⟩) s.size (grownCap w1 s.size 0 5)] 85)).drew = W := ⟨_, rfl⟩
  have hbW : Below w.heap.size w W := by
    rw [← hW]
    exact below_dn (((hb1.alloc hb1.size _).alloc (by have := hb1.size; simp; omega) _)) 1
  have hsz := hb1.size
  have hd0 : IsDec W (w1.heap.size + 1) ⟨0, top, 0, s.data.toList⟩ := by
    rw [← hW]
    refine ⟨_, _, heap_two_last _ _ _, by simpa using h11, h21, fun _ => ⟨w1.heap.size, 0, rfl, by omega, by simp; omega, fun j hj => ?_⟩⟩
    rw [Nat.zero_add]
    exact cell_lit (heap_two_first w1 _ _) j _ (bytesRow_get s _ j hj)
  have hlt : w1.heap.size + 1 < W.heap.size := by rw [← hW]; simp
  obtain ⟨g, hg⟩ : ∃ g, w1.heap.size + 1 = g := ⟨_, rfl⟩
  rw [hW]
  rw [hg] at hd0 hlt ⊢
  have hwg : w.heap.size ≤ g := by omega
  have HF := Lib.hid (show fresh s.data.toList = ⟨0, top, (moves 4 0 s.data.toList).1, (moves 4 0 s.data.toList).2⟩ from rfl)
  have HD := Lib.hid hd0
  have HB := Lib.hid hbW
  clear hW hcv1 h11 h21 hb1 hsz hg hd0 hbW CA
  obtain ⟨wS, hwS⟩ : ∃ wS, w1.heap.size = wS := ⟨_, rfl⟩
  try rw [hwS]
  clear hwS
  go_loopw [9] (fun i wr => ∃ k : Nat, k ≤ 4 ∧ i = .int .i64 k ∧ IsDec wr g ⟨0, top, (moves k 0 s.data.toList).1, (moves k 0 s.data.toList).2⟩ ∧ Below w.heap.size w wr ∧ g < wr.heap.size) (fun i _ => 4 - (intOf i).toNat)
  case atStart => exact ⟨0, Nat.zero_le _, rfl, HD.out, HB.out, hlt⟩
  case round =>
    obtain ⟨k, hk, rfl, hd, hb, hl⟩ := hrel
    by_cases hk4 : k < 4
    · have C := Lib.hid (gNext wr g _ hd (moves_lt k 0 _ (by decide)))
      have HM := Lib.hid (moves_succ k 0 s.data.toList)
      have hd_ := Lib.hid hd
      have hb_ := Lib.hid hb
      clear hd hb
      go_wp2_with fail
      refine C.out.mono ?_; rintro e w2 ⟨rfl, hd2, hk2, hz2⟩
      have hb2 := hb_.out.trans (hk2.below (B := w.heap.size) (fun k hk => ⟨by have := hb_.out.size; omega, fun e => by omega⟩))
      have hl2 : g < w2.heap.size := by omega
      have hd2_ := Lib.hid hd2
      have hb2_ := Lib.hid hb2
      clear hd2 hb2
      clear hk2 hz2
      go_wp2_with fail
      go_roundw
      case rel => exact ⟨k + 1, by omega, by go_num, by rw [HM.out]; exact hd2_.out, hb2_.out, hl2⟩
      case measure => simp [intOf]; omega
    · obtain rfl : k = 4 := by omega
      have hd_ := Lib.hid hd
      have hb_ := Lib.hid hb
      clear hd hb
      go_wp2_with fail
      go_ret
      exact ⟨g, rfl, by rw [HF.out]; exact hd_.out, hb_.out, hwg, hl⟩
end Go.Proofs.Ytkdkedgpchcfpaa
