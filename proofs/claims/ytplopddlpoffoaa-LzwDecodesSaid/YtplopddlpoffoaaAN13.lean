/- Layer 60: a reader whose bytes lie below a bound. -/
import Derived.Test.YtplopddlpoffoaaAN12
import Derived.Test.YtplopddlpoffoaaD4
namespace Go.Proofs.Ytplopddlpoffoaa
open Go.ChangeShapes Go.WideShapes Go.ChangeAt Go.RowKit
set_option linter.unusedVariables false
set_option linter.unusedSimpArgs false
set_option maxRecDepth 100000
open Bits
/-- A reader, and its bytes, lie below B. -/
def Far (w : World) (g B : Nat) : Prop := g < B ∧ ∀ p L C u t, w.heap[g]? = some (.cells #[.slice p L C, u, t] 102 (0, 0)) → 0 < L → ∃ b o, p = some ⟨b, o, none⟩ ∧ b < B
theorem far_close {w : World} {g B : Nat} {x y z u v : Value} {p q : Option Addr} {L C M D e : Nat} (hg : w.heap[g]? = some (.cells #[.slice p L C, y, z] 102 (0, 0))) (hF : Far w g B) (hM : M ≤ L) (hq : 0 < M → q = p.map (fun x => x.add e)) : Far (((w.setCell ⟨g, 2, none⟩ v).setCell ⟨g, 0, none⟩ (.slice q M D)).setCell ⟨g, 1, none⟩ u).drew g B := by
  refine ⟨hF.1, fun p' L' C' u' t' h h0 => ?_⟩
  have h2 : (((w.setCell ⟨g, 2, none⟩ v).setCell ⟨g, 0, none⟩ (.slice q M D)).setCell ⟨g, 1, none⟩ u).drew.heap[g]? = _ := set3 hg (.slice q M D) u v
  rw [h2] at h
  injection h with h
  injection h with h _ _
  have h3 := congrArg Array.toList h
  simp at h3
  obtain ⟨⟨rfl, rfl, rfl⟩, -, -⟩ := h3
  obtain ⟨b, o, rfl, hb⟩ := hF.2 _ _ _ _ _ hg (by omega)
  rw [hq h0]
  refine ⟨b, o + e, ?_, hb⟩
  simp only [Option.map_some, Option.some.injEq]
  unfold Addr.add; split <;> simp_all
theorem Far.kept {w w' : World} {g B : Nat} (h : Far w g B) (he : w'.heap[g]? = w.heap[g]?) : Far w' g B := ⟨h.1, fun p L C u t e => h.2 p L C u t (by rw [← he]; exact e)⟩
set_option maxHeartbeats 1600000 in
theorem rMoveF (w : World) (g a n : Nat) (s : List UInt8) (h : IsReader w g s a) (hn : a + n ≤ 8 * s.length) : Calls Try.prog 53 #[.pointer (some ⟨g, 0, none⟩), .int .i64 n] w fun e w' => e = .returned (.tuple #[]) ∧ IsReader w' g s (a + n) ∧ Keeps (fun k => k = g) w w' ∧ w'.heap.size = w.heap.size ∧ ∀ B, Far w g B → Far w' g B := by
  obtain ⟨p, L, C, hg, ha, hL, hC, hm, hs, hp⟩ := h
  unfold maxLen at hm hs
  have c0 := cell_in hg 0
  have c1 := cell_in hg 1
  have c2 := cell_in hg 2
  have f0 := free_in hg 0
  have f1 := free_in hg 1
  have f2 := free_in hg 2
  simp at c0 c1 c2
  have b1 : ((n : Int) + (a : Int) % 8) / 8 ≤ (L : Int) := by omega
  have b0 : 0 ≤ ((n : Int) + (a : Int) % 8) / 8 := by omega
  have b2 : (L : Int) ≤ C := by omega
  have HL := Lib.hid hL; have HP := Lib.hid hp; have HG := Lib.hid hg
  clear hL hp hg
  go_enter Try.func53, Try.ntmps53
  go_wp2
  go_region
  all_goals go_wp2
  · go_end0
    exact ⟨rfl, reader_close HG.out hn HL.out hm hC hs HP (by omega) (by omega) (by omega) rfl (fun h => by omega), keep3 _ _ _ _ _, size3 _ _ _ _ _, fun B hF => far_close (x := .int .i64 0) (e := 0) HG.out hF (by omega) (fun h => by omega)⟩
  · go_end0
    exact ⟨rfl, reader_close HG.out hn HL.out hm hC hs HP (by omega) (by omega) (by omega) rfl (fun h => rfl), keep3 _ _ _ _ _, size3 _ _ _ _ _, fun B hF => far_close (x := .int .i64 0) HG.out hF (by omega) (fun h => rfl)⟩
theorem rTakeInF (w : World) (g a n : Nat) (s : List UInt8) (h : IsReader w g s a) (hn : n ≤ 56) (hf : a + n ≤ 8 * s.length) : Calls Try.prog 32 #[.pointer (some ⟨g, 0, none⟩), .int .i64 n] w fun e w' =>
    e = .returned (.tuple #[.int .u64 (peek ((spread s).drop a) n), .int .i64 0]) ∧ IsReader w' g s (a + n) ∧ Keeps (fun k => k = g) w w' ∧ w'.heap.size = w.heap.size ∧ ∀ B, Far w g B → Far w' g B := by
  have C := Lib.hid (rMayIn w g a n s h hn hf)
  obtain ⟨K, hK⟩ : ∃ K, peek ((spread s).drop a) n = K := ⟨_, rfl⟩
  have P := Lib.hid (fun k => rPeek (w.drewN k) g a n s h hn)
  rw [hK] at P; rw [hK]
  have Q := Lib.hid (fun k => rMoveF (w.drewN k) g a n s h hf)
  clear h hK
  go_enter Try.func32, Try.ntmps32
  go_wp2_with fail
  refine C.out.mono ?_; rintro e w1 ⟨rfl, k, rfl⟩
  go_wp2_with fail
  refine (P.out k).mono ?_; rintro e w1 ⟨rfl, j, rfl⟩
  go_wp2_with fail
  refine (Q.out _).mono ?_; rintro e w1 ⟨rfl, hr, hk, hz, hF⟩
  go_wp2_with fail
  go_ret2
  exact ⟨rfl, hr, ⟨hk.os, hk.tape, hk.output, hk.size, hk.block⟩, hz, hF⟩
theorem rTakeF (w : World) (g t n : Nat) (s : List UInt8) (hn : n ≤ 56) (h : IsReader w g s t) (t' W : Nat) (E : Int) (hS : takeS (spread s) t (n : Nat) = (t', W, E)) :
    Calls Try.prog 32 #[.pointer (some ⟨g, 0, none⟩), .int .i64 n] w fun e w' => e = .returned (.tuple #[.int .u64 W, .int .i64 E]) ∧ IsReader w' g s t' ∧ Keeps (fun k => k = g) w w' ∧ ∀ B, Far w g B → Far w' g B := by
  unfold takeS at hS
  rw [if_neg (by omega), Int.toNat_natCast] at hS
  by_cases h2 : (spread s).length < t + n
  · rw [if_pos h2] at hS
    obtain ⟨rfl, rfl, rfl⟩ := by simpa using hS
    refine (rTakeOut w _ n 3 (rMayShort w g _ n s h hn (by rw [← spread_length]; exact h2)) (by decide)).mono ?_
    rintro e w' ⟨rfl, k, rfl⟩
    exact ⟨rfl, h, (Keeps.refl _ _).drewN _, fun B h => h⟩
  · rw [if_neg h2] at hS
    obtain ⟨rfl, rfl, rfl⟩ := by simpa using hS
    refine (rTakeInF w g t n s h hn (by rw [← spread_length]; omega)).mono ?_
    rintro e w' ⟨rfl, hr, hk, -, hF⟩
    exact ⟨rfl, hr, hk, hF⟩
/-- Behind a turn of blocks from B on the reader is as it was. -/
theorem reader_low {w w' : World} {g a B : Nat} {s : List UInt8} (h : IsReader w g s a) (hF : Far w g B) (hb : Below B w w') : IsReader w' g s a ∧ Far w' g B := by
  have he := hb.block g hF.1
  obtain ⟨p, L, C, hg, h1, h2, h3, h4, h5, h6⟩ := h
  refine ⟨⟨p, L, C, he.trans hg, h1, h2, h3, h4, h5, fun h0 => ?_⟩, hF.kept he⟩
  obtain ⟨b, o, rfl, hbg, hbl, hc⟩ := h6 h0
  obtain ⟨b', o', e, hbB⟩ := hF.2 _ _ _ _ _ hg h0
  obtain ⟨rfl, rfl⟩ := by simpa using e
  exact ⟨b, o, rfl, hbg, Nat.lt_of_lt_of_le hbl hb.size, fun j hj => by rw [← hc j hj]; exact World.cell?_of_block (hb.block b hbB)⟩
theorem far_start {w1 : World} {g : Nat} {s : List UInt8} (h : IsReader w1 g s 0) : Far w1 g w1.heap.size := by
  obtain ⟨p, L, C, hg, h1, h2, h3, h4, h5, h6⟩ := h
  refine ⟨block_lt hg, fun p' L' C' u t e h0 => ?_⟩
  rw [hg] at e
  injection e with e
  injection e with e _ _
  have h7 := congrArg Array.toList e
  simp at h7
  obtain ⟨⟨rfl, rfl, rfl⟩, -, -⟩ := h7
  obtain ⟨b, o, rfl, -, hbl, -⟩ := h6 h0
  exact ⟨b, o, rfl, hbl⟩
end Go.Proofs.Ytplopddlpoffoaa
