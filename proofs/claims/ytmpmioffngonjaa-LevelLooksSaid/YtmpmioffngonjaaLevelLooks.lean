/- It is proved that the law 'LevelLooks' of the program returns true for every input, with no condition, and leaves what was handed in as it was. The frame was written by a program; the walk is by hand. -/
import Derived.Test.YtmpmioffngonjaaRows
import Derived.WalkKit
import Derived.ProofKit
import Derived.OpenShut
import Derived.ShutString
import Derived.ChangeOld
import Derived.Below
import Derived.Test.YtmpmioffngonjaaBase
import Derived.Test.YtmpmioffngonjaaLw
import Derived.Test.YtmpmioffngonjaaLy
import Derived.Deep.RegionHeld3
namespace Go.Proofs.Ytmpmioffngonjaa.levelLooks
open Go.ChangeShapes Go.WideShapes Go.ChangeAt Go.RowKit Go.Deep
open Go.ChangeMaps (open_string shut_string)
set_option linter.unusedVariables false
set_option maxRecDepth 100000

theorem own : ownKnob Try.prog.godebug = none := by kernel_rfl
theorem laidOut : laidOutB Try.prog = true := by kernel_rfl

theorem keepS {w1 w2 w3 w4 : World} {b0_0 b0_1 W D P L I : Int} {T : Bool} {b0_2 : ByteArray} {w wx wy : World} (h : (fun w' => w'.cell? ⟨w.heap.size, 0, none⟩ = some (.int .i64 b0_0) ∧ w'.cell? ⟨w.heap.size, 1, none⟩ = some (.int .i64 b0_1) ∧ w'.cell? ⟨w.heap.size, 2, none⟩ = some (.string b0_2) ∧ w'.cell? ⟨w1.heap.size, 0, none⟩ = some (.int .i64 W) ∧ w'.cell? ⟨w1.heap.size, 1, none⟩ = some (.int .i64 D) ∧ w'.cell? ⟨w1.heap.size, 2, none⟩ = some (.int .i64 P) ∧ w'.cell? ⟨w2.heap.size, 0, none⟩ = some (.int .i64 W) ∧ w'.cell? ⟨w2.heap.size, 1, none⟩ = some (.int .i64 D) ∧ w'.cell? ⟨w2.heap.size, 2, none⟩ = some (.int .i64 P) ∧ w'.cell? ⟨w3.heap.size, 0, none⟩ = some (.int .i64 L) ∧ w'.cell? ⟨w3.heap.size, 1, none⟩ = some (.bool T) ∧ w'.cell? ⟨w3.heap.size, 2, none⟩ = some (.int .u32 I) ∧ w'.cell? ⟨w4.heap.size, 0, none⟩ = some (.int .i64 L) ∧ w'.cell? ⟨w4.heap.size, 1, none⟩ = some (.bool T) ∧ w'.cell? ⟨w4.heap.size, 2, none⟩ = some (.int .u32 I) ∧ w.heap.size < w'.heap.size ∧ w1.heap.size < w'.heap.size ∧ w2.heap.size < w'.heap.size ∧ w3.heap.size < w'.heap.size ∧ w4.heap.size < w'.heap.size ∧ w.heap.size ≤ w'.heap.size ∧ Below w.heap.size w w') wx) (hb : Below wx.heap.size wx wy) : (fun w' => w'.cell? ⟨w.heap.size, 0, none⟩ = some (.int .i64 b0_0) ∧ w'.cell? ⟨w.heap.size, 1, none⟩ = some (.int .i64 b0_1) ∧ w'.cell? ⟨w.heap.size, 2, none⟩ = some (.string b0_2) ∧ w'.cell? ⟨w1.heap.size, 0, none⟩ = some (.int .i64 W) ∧ w'.cell? ⟨w1.heap.size, 1, none⟩ = some (.int .i64 D) ∧ w'.cell? ⟨w1.heap.size, 2, none⟩ = some (.int .i64 P) ∧ w'.cell? ⟨w2.heap.size, 0, none⟩ = some (.int .i64 W) ∧ w'.cell? ⟨w2.heap.size, 1, none⟩ = some (.int .i64 D) ∧ w'.cell? ⟨w2.heap.size, 2, none⟩ = some (.int .i64 P) ∧ w'.cell? ⟨w3.heap.size, 0, none⟩ = some (.int .i64 L) ∧ w'.cell? ⟨w3.heap.size, 1, none⟩ = some (.bool T) ∧ w'.cell? ⟨w3.heap.size, 2, none⟩ = some (.int .u32 I) ∧ w'.cell? ⟨w4.heap.size, 0, none⟩ = some (.int .i64 L) ∧ w'.cell? ⟨w4.heap.size, 1, none⟩ = some (.bool T) ∧ w'.cell? ⟨w4.heap.size, 2, none⟩ = some (.int .u32 I) ∧ w.heap.size < w'.heap.size ∧ w1.heap.size < w'.heap.size ∧ w2.heap.size < w'.heap.size ∧ w3.heap.size < w'.heap.size ∧ w4.heap.size < w'.heap.size ∧ w.heap.size ≤ w'.heap.size ∧ Below w.heap.size w w') wy := by
  obtain ⟨g0, g1, g2, g3, g4, g5, g6, g7, g8, g9, g10, g11, g12, g13, g14, g15, g16, g17, g18, g19, g20, g21⟩ := h
  exact ⟨(hb.cell (by first | assumption | omega)).trans g0, (hb.cell (by first | assumption | omega)).trans g1, (hb.cell (by first | assumption | omega)).trans g2, (hb.cell (by first | assumption | omega)).trans g3, (hb.cell (by first | assumption | omega)).trans g4, (hb.cell (by first | assumption | omega)).trans g5, (hb.cell (by first | assumption | omega)).trans g6, (hb.cell (by first | assumption | omega)).trans g7, (hb.cell (by first | assumption | omega)).trans g8, (hb.cell (by first | assumption | omega)).trans g9, (hb.cell (by first | assumption | omega)).trans g10, (hb.cell (by first | assumption | omega)).trans g11, (hb.cell (by first | assumption | omega)).trans g12, (hb.cell (by first | assumption | omega)).trans g13, (hb.cell (by first | assumption | omega)).trans g14, by have := hb.size; omega, by have := hb.size; omega, by have := hb.size; omega, by have := hb.size; omega, by have := hb.size; omega, by have := hb.size; omega, g21.trans (hb.mono g20)⟩

theorem Of_hid (n : Int) : ∃ W D P E, Hid (Of32 42 n W D P E) ∧ Hid (Of32 43 n W D P E) := by
  obtain ⟨W, D, P, E, h1, h2⟩ := Of_both n
  exact ⟨W, D, P, E, Lib.hid h1, Lib.hid h2⟩
theorem Hd_both (lv lg : Int) (s : ByteArray) (hs : s.size ≤ 100000) : ∃ L T I E, Hid (Hd32 44 lv lg s L T I E) ∧ Hid (Hd32 45 lv lg s L T I E) := by
  have c1 := ck46_any lv lg s hs
  have c2 := ck47_any lv lg s hs
  by_cases hE : chk32 lv lg s.size = 0
  · rw [hE] at c1 c2
    by_cases h0 : 0 < s.size
    · exact ⟨_, _, _, _, Lib.hid (hd44_some lv lg s h0 hs c1), Lib.hid (hd45_some lv lg s h0 hs c2)⟩
    · have e : s = ⟨#[]⟩ := ByteArray.ext (Array.eq_empty_of_size_eq_zero (by have : s.data.size = s.size := rfl; omega))
      subst e
      exact ⟨_, _, _, _, Lib.hid (hd44_none lv lg c1), Lib.hid (hd45_none lv lg c2)⟩
  · exact ⟨_, _, _, _, Lib.hid (hd44_err lv lg _ s hE c1), Lib.hid (hd45_err lv lg _ s hE c2)⟩
theorem Ck_hid (lv lg : Int) (s : ByteArray) (hs : s.size ≤ 100000) : ∃ G, Hid (Ck32 46 lv lg s G) ∧ Hid (Ck32 47 lv lg s G) := ⟨_, Lib.hid (ck46_any lv lg s hs), Lib.hid (ck47_any lv lg s hs)⟩

set_option maxHeartbeats 3200000 in
theorem walk (b0_0 : Int) (b0_1 : Int) (b0_2 : ByteArray) (a1 : Int) (w : World) (w0_0 : (Lit.int .i64 b0_0).wf = true) (w0_1 : (Lit.int .i64 b0_1).wf = true) (w0_2 : b0_2.size ≤ maxLen) (w1 : (Lit.int .i64 a1).wf = true) :
    Calls Try.prog 9 #[.agg #[.int .i64 b0_0, .int .i64 b0_1, .string b0_2], .int .i64 a1] w fun e w' => e = .returned (.bool true) ∧ Below w.heap.size w w' := by
  by_cases hl : 100000 < b0_2.size
  · unfold maxLen at w0_2
    go_enter Try.func9, Try.ntmps9
    go_wp2_with fail
    refine (awake32 _).mono ?_; rintro e w5 ⟨rfl, hb⟩
    go_wp2_with fail
    go_ret
    exact ⟨rfl, below_box3 hb⟩
  obtain ⟨W, D, P, E, c1, c2⟩ := Of_hid a1
  obtain ⟨L, T, I, F, c3, c4⟩ := Hd_both b0_0 b0_1 b0_2 (by omega)
  obtain ⟨G, c5, c6⟩ := Ck_hid b0_0 b0_1 b0_2 (by omega)
  go_enter Try.func9, Try.ntmps9
  go_wp2_with fail
  refine (c1.out _).mono ?_; rintro e w1 ⟨rfl, hb1⟩
  have z1 := hb1.size
  simp at z1
  have l1 : w.heap.size < w1.heap.size := by omega
  have hc1 : Below w.heap.size w w1 := Below.trans (by go_grown) (hb1.mono (by simp))
  have f1p0 : w1.cell? ⟨w.heap.size, 0, none⟩ = some (.int .i64 b0_0) := by rw [hb1.cell (by first | (simp; done) | (simp; omega) | omega)]; first | assumption | (simp; done) | (simp [go_sem]; done) | (simp [go_sem, *]; done)
  have f1p1 : w1.cell? ⟨w.heap.size, 1, none⟩ = some (.int .i64 b0_1) := by rw [hb1.cell (by first | (simp; done) | (simp; omega) | omega)]; first | assumption | (simp; done) | (simp [go_sem]; done) | (simp [go_sem, *]; done)
  have f1p2 : w1.cell? ⟨w.heap.size, 2, none⟩ = some (.string b0_2) := by rw [hb1.cell (by first | (simp; done) | (simp; omega) | omega)]; first | assumption | (simp; done) | (simp [go_sem]; done) | (simp [go_sem, *]; done)
  clear hb1 z1
  go_wp2_with fail
  refine (c2.out _).mono ?_; rintro e w2 ⟨rfl, hb2⟩
  have z2 := hb2.size
  simp at z2
  have l2 : w.heap.size < w2.heap.size := by omega
  have l3 : w1.heap.size < w2.heap.size := by omega
  have hc2 : Below w.heap.size w w2 := Below.trans (hc1.alloc (by omega) _) (hb2.mono (by simp; omega))
  have f2p0 : w2.cell? ⟨w.heap.size, 0, none⟩ = some (.int .i64 b0_0) := by rw [hb2.cell (by first | (simp; done) | (simp; omega) | omega)]; first | assumption | (simp; done) | (simp [go_sem]; done) | (simp [go_sem, *]; done)
  have f2p1 : w2.cell? ⟨w.heap.size, 1, none⟩ = some (.int .i64 b0_1) := by rw [hb2.cell (by first | (simp; done) | (simp; omega) | omega)]; first | assumption | (simp; done) | (simp [go_sem]; done) | (simp [go_sem, *]; done)
  have f2p2 : w2.cell? ⟨w.heap.size, 2, none⟩ = some (.string b0_2) := by rw [hb2.cell (by first | (simp; done) | (simp; omega) | omega)]; first | assumption | (simp; done) | (simp [go_sem]; done) | (simp [go_sem, *]; done)
  have f2a0 : w2.cell? ⟨w1.heap.size, 0, none⟩ = some (.int .i64 W) := by rw [hb2.cell (by first | (simp; done) | (simp; omega) | omega)]; first | assumption | (simp; done) | (simp [go_sem]; done) | (simp [go_sem, *]; done)
  have f2a1 : w2.cell? ⟨w1.heap.size, 1, none⟩ = some (.int .i64 D) := by rw [hb2.cell (by first | (simp; done) | (simp; omega) | omega)]; first | assumption | (simp; done) | (simp [go_sem]; done) | (simp [go_sem, *]; done)
  have f2a2 : w2.cell? ⟨w1.heap.size, 2, none⟩ = some (.int .i64 P) := by rw [hb2.cell (by first | (simp; done) | (simp; omega) | omega)]; first | assumption | (simp; done) | (simp [go_sem]; done) | (simp [go_sem, *]; done)
  clear hb2 z2 f1p0 f1p1 f1p2 hc1
  go_wp2_with fail
  refine (c3.out _).mono ?_; rintro e w3 ⟨rfl, hb3⟩
  have z3 := hb3.size
  simp at z3
  have l4 : w.heap.size < w3.heap.size := by omega
  have l5 : w1.heap.size < w3.heap.size := by omega
  have l6 : w2.heap.size < w3.heap.size := by omega
  have hc3 : Below w.heap.size w w3 := Below.trans (hc2.alloc (by omega) _) (hb3.mono (by simp; omega))
  have f3p0 : w3.cell? ⟨w.heap.size, 0, none⟩ = some (.int .i64 b0_0) := by rw [hb3.cell (by first | (simp; done) | (simp; omega) | omega)]; first | assumption | (simp; done) | (simp [go_sem]; done) | (simp [go_sem, *]; done)
  have f3p1 : w3.cell? ⟨w.heap.size, 1, none⟩ = some (.int .i64 b0_1) := by rw [hb3.cell (by first | (simp; done) | (simp; omega) | omega)]; first | assumption | (simp; done) | (simp [go_sem]; done) | (simp [go_sem, *]; done)
  have f3p2 : w3.cell? ⟨w.heap.size, 2, none⟩ = some (.string b0_2) := by rw [hb3.cell (by first | (simp; done) | (simp; omega) | omega)]; first | assumption | (simp; done) | (simp [go_sem]; done) | (simp [go_sem, *]; done)
  have f3a0 : w3.cell? ⟨w1.heap.size, 0, none⟩ = some (.int .i64 W) := by rw [hb3.cell (by first | (simp; done) | (simp; omega) | omega)]; first | assumption | (simp; done) | (simp [go_sem]; done) | (simp [go_sem, *]; done)
  have f3a1 : w3.cell? ⟨w1.heap.size, 1, none⟩ = some (.int .i64 D) := by rw [hb3.cell (by first | (simp; done) | (simp; omega) | omega)]; first | assumption | (simp; done) | (simp [go_sem]; done) | (simp [go_sem, *]; done)
  have f3a2 : w3.cell? ⟨w1.heap.size, 2, none⟩ = some (.int .i64 P) := by rw [hb3.cell (by first | (simp; done) | (simp; omega) | omega)]; first | assumption | (simp; done) | (simp [go_sem]; done) | (simp [go_sem, *]; done)
  have f3b0 : w3.cell? ⟨w2.heap.size, 0, none⟩ = some (.int .i64 W) := by rw [hb3.cell (by first | (simp; done) | (simp; omega) | omega)]; first | assumption | (simp; done) | (simp [go_sem]; done) | (simp [go_sem, *]; done)
  have f3b1 : w3.cell? ⟨w2.heap.size, 1, none⟩ = some (.int .i64 D) := by rw [hb3.cell (by first | (simp; done) | (simp; omega) | omega)]; first | assumption | (simp; done) | (simp [go_sem]; done) | (simp [go_sem, *]; done)
  have f3b2 : w3.cell? ⟨w2.heap.size, 2, none⟩ = some (.int .i64 P) := by rw [hb3.cell (by first | (simp; done) | (simp; omega) | omega)]; first | assumption | (simp; done) | (simp [go_sem]; done) | (simp [go_sem, *]; done)
  clear hb3 z3 f2p0 f2p1 f2p2 f2a0 f2a1 f2a2 hc2
  go_wp2_with fail
  refine (c4.out _).mono ?_; rintro e w4 ⟨rfl, hb4⟩
  have z4 := hb4.size
  simp at z4
  have l7 : w.heap.size < w4.heap.size := by omega
  have l8 : w1.heap.size < w4.heap.size := by omega
  have l9 : w2.heap.size < w4.heap.size := by omega
  have l10 : w3.heap.size < w4.heap.size := by omega
  have hc4 : Below w.heap.size w w4 := Below.trans (hc3.alloc (by omega) _) (hb4.mono (by simp; omega))
  have f4p0 : w4.cell? ⟨w.heap.size, 0, none⟩ = some (.int .i64 b0_0) := by rw [hb4.cell (by first | (simp; done) | (simp; omega) | omega)]; first | assumption | (simp; done) | (simp [go_sem]; done) | (simp [go_sem, *]; done)
  have f4p1 : w4.cell? ⟨w.heap.size, 1, none⟩ = some (.int .i64 b0_1) := by rw [hb4.cell (by first | (simp; done) | (simp; omega) | omega)]; first | assumption | (simp; done) | (simp [go_sem]; done) | (simp [go_sem, *]; done)
  have f4p2 : w4.cell? ⟨w.heap.size, 2, none⟩ = some (.string b0_2) := by rw [hb4.cell (by first | (simp; done) | (simp; omega) | omega)]; first | assumption | (simp; done) | (simp [go_sem]; done) | (simp [go_sem, *]; done)
  have f4a0 : w4.cell? ⟨w1.heap.size, 0, none⟩ = some (.int .i64 W) := by rw [hb4.cell (by first | (simp; done) | (simp; omega) | omega)]; first | assumption | (simp; done) | (simp [go_sem]; done) | (simp [go_sem, *]; done)
  have f4a1 : w4.cell? ⟨w1.heap.size, 1, none⟩ = some (.int .i64 D) := by rw [hb4.cell (by first | (simp; done) | (simp; omega) | omega)]; first | assumption | (simp; done) | (simp [go_sem]; done) | (simp [go_sem, *]; done)
  have f4a2 : w4.cell? ⟨w1.heap.size, 2, none⟩ = some (.int .i64 P) := by rw [hb4.cell (by first | (simp; done) | (simp; omega) | omega)]; first | assumption | (simp; done) | (simp [go_sem]; done) | (simp [go_sem, *]; done)
  have f4b0 : w4.cell? ⟨w2.heap.size, 0, none⟩ = some (.int .i64 W) := by rw [hb4.cell (by first | (simp; done) | (simp; omega) | omega)]; first | assumption | (simp; done) | (simp [go_sem]; done) | (simp [go_sem, *]; done)
  have f4b1 : w4.cell? ⟨w2.heap.size, 1, none⟩ = some (.int .i64 D) := by rw [hb4.cell (by first | (simp; done) | (simp; omega) | omega)]; first | assumption | (simp; done) | (simp [go_sem]; done) | (simp [go_sem, *]; done)
  have f4b2 : w4.cell? ⟨w2.heap.size, 2, none⟩ = some (.int .i64 P) := by rw [hb4.cell (by first | (simp; done) | (simp; omega) | omega)]; first | assumption | (simp; done) | (simp [go_sem]; done) | (simp [go_sem, *]; done)
  have f4c0 : w4.cell? ⟨w3.heap.size, 0, none⟩ = some (.int .i64 L) := by rw [hb4.cell (by first | (simp; done) | (simp; omega) | omega)]; first | assumption | (simp; done) | (simp [go_sem]; done) | (simp [go_sem, *]; done)
  have f4c1 : w4.cell? ⟨w3.heap.size, 1, none⟩ = some (.bool T) := by rw [hb4.cell (by first | (simp; done) | (simp; omega) | omega)]; first | assumption | (simp; done) | (simp [go_sem]; done) | (simp [go_sem, *]; done)
  have f4c2 : w4.cell? ⟨w3.heap.size, 2, none⟩ = some (.int .u32 I) := by rw [hb4.cell (by first | (simp; done) | (simp; omega) | omega)]; first | assumption | (simp; done) | (simp [go_sem]; done) | (simp [go_sem, *]; done)
  clear hb4 z4 f3p0 f3p1 f3p2 f3a0 f3a1 f3a2 f3b0 f3b1 f3b2 hc3
  go_wp2_with fail
  have z5 : w4.heap.size < (w4.alloc (.cells #[.int .i64 L, .bool T, .int .u32 I] 66)).heap.size := by simp
  have S0 : (fun w' => w'.cell? ⟨w.heap.size, 0, none⟩ = some (.int .i64 b0_0) ∧ w'.cell? ⟨w.heap.size, 1, none⟩ = some (.int .i64 b0_1) ∧ w'.cell? ⟨w.heap.size, 2, none⟩ = some (.string b0_2) ∧ w'.cell? ⟨w1.heap.size, 0, none⟩ = some (.int .i64 W) ∧ w'.cell? ⟨w1.heap.size, 1, none⟩ = some (.int .i64 D) ∧ w'.cell? ⟨w1.heap.size, 2, none⟩ = some (.int .i64 P) ∧ w'.cell? ⟨w2.heap.size, 0, none⟩ = some (.int .i64 W) ∧ w'.cell? ⟨w2.heap.size, 1, none⟩ = some (.int .i64 D) ∧ w'.cell? ⟨w2.heap.size, 2, none⟩ = some (.int .i64 P) ∧ w'.cell? ⟨w3.heap.size, 0, none⟩ = some (.int .i64 L) ∧ w'.cell? ⟨w3.heap.size, 1, none⟩ = some (.bool T) ∧ w'.cell? ⟨w3.heap.size, 2, none⟩ = some (.int .u32 I) ∧ w'.cell? ⟨w4.heap.size, 0, none⟩ = some (.int .i64 L) ∧ w'.cell? ⟨w4.heap.size, 1, none⟩ = some (.bool T) ∧ w'.cell? ⟨w4.heap.size, 2, none⟩ = some (.int .u32 I) ∧ w.heap.size < w'.heap.size ∧ w1.heap.size < w'.heap.size ∧ w2.heap.size < w'.heap.size ∧ w3.heap.size < w'.heap.size ∧ w4.heap.size < w'.heap.size ∧ w.heap.size ≤ w'.heap.size ∧ Below w.heap.size w w') (w4.alloc (.cells #[.int .i64 L, .bool T, .int .u32 I] 66)) := by
    refine ⟨?_, ?_, ?_, ?_, ?_, ?_, ?_, ?_, ?_, ?_, ?_, ?_, ?_, ?_, ?_, ?_, ?_, ?_, ?_, ?_, ?_, ?_⟩
    all_goals (first | (simp; done) | (simp; omega) | (simp [go_sem, *]; done) | exact hc4.alloc (by omega) _ | go_grown)
  go_region_held3 (fun w' => w'.cell? ⟨w.heap.size, 0, none⟩ = some (.int .i64 b0_0) ∧ w'.cell? ⟨w.heap.size, 1, none⟩ = some (.int .i64 b0_1) ∧ w'.cell? ⟨w.heap.size, 2, none⟩ = some (.string b0_2) ∧ w'.cell? ⟨w1.heap.size, 0, none⟩ = some (.int .i64 W) ∧ w'.cell? ⟨w1.heap.size, 1, none⟩ = some (.int .i64 D) ∧ w'.cell? ⟨w1.heap.size, 2, none⟩ = some (.int .i64 P) ∧ w'.cell? ⟨w2.heap.size, 0, none⟩ = some (.int .i64 W) ∧ w'.cell? ⟨w2.heap.size, 1, none⟩ = some (.int .i64 D) ∧ w'.cell? ⟨w2.heap.size, 2, none⟩ = some (.int .i64 P) ∧ w'.cell? ⟨w3.heap.size, 0, none⟩ = some (.int .i64 L) ∧ w'.cell? ⟨w3.heap.size, 1, none⟩ = some (.bool T) ∧ w'.cell? ⟨w3.heap.size, 2, none⟩ = some (.int .u32 I) ∧ w'.cell? ⟨w4.heap.size, 0, none⟩ = some (.int .i64 L) ∧ w'.cell? ⟨w4.heap.size, 1, none⟩ = some (.bool T) ∧ w'.cell? ⟨w4.heap.size, 2, none⟩ = some (.int .u32 I) ∧ w.heap.size < w'.heap.size ∧ w1.heap.size < w'.heap.size ∧ w2.heap.size < w'.heap.size ∧ w3.heap.size < w'.heap.size ∧ w4.heap.size < w'.heap.size ∧ w.heap.size ≤ w'.heap.size ∧ Below w.heap.size w w') (first | exact keepS (by assumption) (by assumption) | exact S0 | exact ⟨S0.1, S0.2.1, S0.2.2.1, S0.2.2.2.1, S0.2.2.2.2.1, S0.2.2.2.2.2.1, S0.2.2.2.2.2.2.1, S0.2.2.2.2.2.2.2.1, S0.2.2.2.2.2.2.2.2.1, S0.2.2.2.2.2.2.2.2.2.1, S0.2.2.2.2.2.2.2.2.2.2.1, S0.2.2.2.2.2.2.2.2.2.2.2.1, S0.2.2.2.2.2.2.2.2.2.2.2.2.1, S0.2.2.2.2.2.2.2.2.2.2.2.2.2.1, S0.2.2.2.2.2.2.2.2.2.2.2.2.2.2.1, S0.2.2.2.2.2.2.2.2.2.2.2.2.2.2.2.1, S0.2.2.2.2.2.2.2.2.2.2.2.2.2.2.2.2.1, S0.2.2.2.2.2.2.2.2.2.2.2.2.2.2.2.2.2.1, S0.2.2.2.2.2.2.2.2.2.2.2.2.2.2.2.2.2.2.1, S0.2.2.2.2.2.2.2.2.2.2.2.2.2.2.2.2.2.2.2.1, S0.2.2.2.2.2.2.2.2.2.2.2.2.2.2.2.2.2.2.2.2.1, S0.2.2.2.2.2.2.2.2.2.2.2.2.2.2.2.2.2.2.2.2.2.drew⟩) (first | (go_at_call 46; refine (c5.out _).mono ?_; rintro e w5 ⟨rfl, hb5⟩) | (go_at_call 47; refine (c6.out _).mono ?_; rintro e w5 ⟨rfl, hb5⟩) | (go_at_call 41; refine (awake32 _).mono ?_; rintro e w5 ⟨rfl, hb5⟩))
  rename_i K hK v1 g1 v2 g2 hH
  simp only [Exit.then]
  refine hK _ _ ?_
  go_wp2_with fail
  go_ret
  exact ⟨rfl, hH.2.2.2.2.2.2.2.2.2.2.2.2.2.2.2.2.2.2.2.2.2⟩

theorem lifted (os : Os) (started : os.Started) (H : Type) (enc : TypeId × Value → H) :
    ReturnsInHanded {} Try.checked os 9 .any (Rows.levelLooksSpec.pre6 enc Try.prog Try.f9 Rows.levelLooksRow.domain false) (Rows.levelLooksSpec.post enc Try.prog Try.f9 false true false false) := by
  refine returnsInHanded_of_change (C := Try.checked) own started (by kernel_rfl) Try.func9
    (ChangeSpec.witness6 (enc := enc) (C := Try.checked) false ⟨#[], #[.agg #[.int .i64 0, .int .i64 0, .string ByteArray.empty], .int .i64 0], []⟩ 8 (by kernel_rfl) (by kernel_rfl) (by kernel_rfl) (by kernel_rfl)) ?_
  intro W base args ds gs before hval0 hW hcnd _
  have hval : ∀ (j : Nat) t v, Try.f9.params[j]? = some t → args[j]? = some v → Value.okWide Try.prog W .any base t v := hval0
  have hW' := hW
  obtain ⟨p, q, hA0, hV, rfl, hfz, hnd⟩ := hW
  have hA : DataW.TrodAll enc Try.prog W 0 (fun _ => true) true Try.f9.params.toList args.toList ds p := hA0
  rw [Try.params9] at hA hval
  obtain ⟨v0, vs0, d0, ds0, p0, q0, hargs, rfl, rfl, h0, r0⟩ := trodAll_cons hA
  obtain ⟨v1, vs1, d1, ds1, p1, q1, rfl, rfl, rfl, h1, r1⟩ := trodAll_cons r0
  obtain ⟨rfl, rfl, rfl⟩ := trodAll_nil r1
  obtain rfl : args = #[v0, v1] := by cases args; simp_all
  obtain ⟨rfl, rfl⟩ := trodVars_none hV
  have k0 := h0
  have lt0 : ∀ x ∈ p0, x.block < W.heap.size := by obtain ⟨m, hm⟩ := k0; exact DataW.trod_lt m _ _ _ hm
  obtain ⟨l, rfl, hl, hcs⟩ := agg_struct Try.underlying57 (by kernel_rfl) (by kernel_rfl) (hval 0 57 v0 rfl rfl) h0
  obtain ⟨x0, x1, x2, rfl⟩ := len3 l hl
  obtain ⟨n0, c, y, hc, hy⟩ := hcs 0 _ rfl
  simp only [List.getElem?_cons_zero, Option.some.injEq] at hc
  subst hc
  obtain ⟨b0_0, hc, -, w0_0⟩ := DataW.trod_int Try.underlying3 hy
  simp only [List.cons.injEq, and_true] at hc
  subst hc
  clear hy
  obtain ⟨n1, c, y, hc, hy⟩ := hcs 1 _ rfl
  simp only [List.getElem?_cons_zero, List.getElem?_cons_succ, Option.some.injEq] at hc
  subst hc
  obtain ⟨b0_1, hc, -, w0_1⟩ := DataW.trod_int Try.underlying3 hy
  simp only [List.cons.injEq, and_true] at hc
  subst hc
  clear hy
  obtain ⟨n2, c, y, hc, hy⟩ := hcs 2 _ rfl
  simp only [List.getElem?_cons_zero, List.getElem?_cons_succ, Option.some.injEq] at hc
  subst hc
  obtain ⟨b0_2, hc, -, w0_2⟩ := DataW.trod_string Try.underlying9 hy
  simp only [List.cons.injEq, and_true] at hc
  subst hc
  clear hy
  clear hl hcs
  have k1 := h1
  have lt1 : ∀ x ∈ p1, x.block < W.heap.size := by obtain ⟨m, hm⟩ := k1; exact DataW.trod_lt m _ _ _ hm
  obtain ⟨a1, rfl, rfl, rfl, w1⟩ := open_int Try.underlying3 (hval 1 3 v1 rfl rfl) h1
  clear hA0 hval0
  refine (walk b0_0 b0_1 b0_2 a1 W w0_0 w0_1 w0_2 w1).mono fun e W' ⟨he, bel⟩ => ?_
  subst he
  exact ⟨_, rfl, _, _, _, [], _, [], hW', trodAll_mk1 (shut_bool Try.underlying4 _), (trodAll_cons_mk (Below.trod laidOut (by kernel_rfl) (of_decide_eq_true (by kernel_rfl)) k0 bel lt0) (trodAll_cons_mk (Below.trod laidOut (by kernel_rfl) (of_decide_eq_true (by kernel_rfl)) k1 bel lt1) trodAll_mk0)), rfl, bel.frame _, fun h => by cases h⟩

theorem over : Rows.levelLooksRow.holds Try.pinned (OpenSpec.ofChange Rows.levelLooksSpec) :=
  OpenClaim.holds_of_wide 9 Try.f9 rfl rfl rfl rfl rfl rfl rfl ⟨rfl, rfl, rfl, rfl, rfl⟩ rfl rfl rfl rfl rfl (by kernel_rfl) Try.func9 (by kernel_rfl)
    (of_decide_eq_true (by kernel_rfl)) (by unfold Func.isWrapper; first | (rw [if_pos (by decide +kernel)]; kernel_rfl) | (rw [if_neg (by decide +kernel)]; exact ⟨rfl, rfl⟩))
    (fun os started H enc _ => lifted os started H enc)

theorem proved : Rows.LevelLooksSaid := over
#print axioms proved
end Go.Proofs.Ytmpmioffngonjaa.levelLooks
