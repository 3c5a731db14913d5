/- Layer 61: a new model. -/
import Derived.Test.YtkdkedgpchcfpaaV1
namespace Go.Proofs.Ytkdkedgpchcfpaa
open Go.ChangeShapes Go.WideShapes Go.ChangeAt Go.RowKit
set_option linter.unusedVariables false
set_option linter.unusedSimpArgs false
set_option maxRecDepth 100000
open Range
abbrev mV (gc : Nat) (last : Int) : Array Value := #[.slice (some ⟨gc, 0, none⟩) 256 256, .int .u8 last]
theorem fill_len (N k : Nat) (hk : k ≤ N) : (List.replicate k (1024 : Int) ++ List.replicate (N - k) 0).length = N := by simp; omega
theorem fill_set (N k : Nat) (hk : k < N) : (List.replicate k (1024 : Int) ++ List.replicate (N - k) 0).set k 1024 = List.replicate (k + 1) 1024 ++ List.replicate (N - (k + 1)) 0 := by
  rw [List.set_append_right _ _ (by simp), List.length_replicate, Nat.sub_self]
  obtain ⟨m, hm⟩ : ∃ m, N - k = m + 1 := ⟨N - k - 1, by omega⟩
  rw [hm, show N - (k + 1) = m by omega, List.replicate_succ, List.replicate_succ' (n := k)]
  simp
set_option maxHeartbeats 1600000 in
theorem mNew (N : Nat) (hN : N = 65536) (w : World) : Calls Try.prog 79 #[] w fun e w' => ∃ gm gc, e = .returned (.pointer (some ⟨gm, 0, none⟩)) ∧ w'.heap[gm]? = some (.cells (mV gc 0) 146 (0, 0)) ∧ IsCh w' gc (List.replicate N 1024) ∧ gm ≠ gc ∧ w.heap.size ≤ gm ∧ w.heap.size ≤ gc ∧ Below w.heap.size w w' := by
  obtain ⟨ROW, hmk, hrow⟩ := mk256
  have HROW := Lib.hid (hrow N hN)
  have CS := Lib.hid (fun W => pStart W)
  clear hrow
  go_enter Try.func79, Try.ntmps79
  go_wp2_with fail
  obtain ⟨gc, hgc⟩ : ∃ gc, w.heap.size = gc := ⟨_, rfl⟩
  obtain ⟨W, hW⟩ : ∃ W, (w.alloc (.cells ROW 147)).alloc (.cells (mV w.heap.size 0) 146) = W := ⟨_, rfl⟩
  have HG := Lib.hid (show W.heap[gc + 1]? = some (.cells (mV gc 0) 146 (0, 0)) by rw [← hW, ← hgc]; exact heap_two_last _ _ _)
  have HC := Lib.hid (show IsCh W gc (List.replicate N 0) by
    rw [← hW, ← hgc]
    exact (HROW.out w).block (((Below.refl (w.alloc (.cells ROW 147)).heap.size (w.alloc (.cells ROW 147))).alloc (Nat.le_refl _) _).block _ (by simp)))
  have HB := Lib.hid (show Below gc w W by rw [← hW, ← hgc]; exact ((Below.refl _ _).alloc (Nat.le_refl _) _).alloc (by simp) _)
  have hWs : gc + 2 ≤ W.heap.size := by rw [← hW, ← hgc]; simp
  rw [hW, hgc]
  clear hW HROW hmk
  go_loopw [12] (fun i wr => ∃ b : Nat, b ≤ 256 ∧ i = .int .i64 b ∧ IsCh wr gc (List.replicate (b * 256) 1024 ++ List.replicate (N - b * 256) 0) ∧ wr.heap[gc + 1]? = some (.cells (mV gc 0) 146 (0, 0)) ∧ Below gc w wr) (fun i _ => 256 - (intOf i).toNat)
  case atStart => exact ⟨0, Nat.zero_le _, rfl, by simpa using HC.out, HG.out, HB.out⟩
  case round =>
    obtain ⟨b, hb, rfl, hch, hgg, hbe⟩ := hrel
    obtain ⟨wo, hwo⟩ : ∃ wo : World, wo = wr := ⟨_, rfl⟩
    subst hwo
    by_cases hlt : b < 256
    · have g0 := cell_lit hgg 0 _ rfl
      have hb0 : (0 : Int) ≤ (b : Int) := by omega
      have hb1 : (b : Int) < 256 := by omega
      have HC1 := Lib.hid hch; have HG1 := Lib.hid hgg; have HB1 := Lib.hid hbe
      clear hch hgg hbe
      go_wp2_with fail
      go_loopw [15] (fun i wr => ∃ r : Nat, r ≤ 256 ∧ i = .int .i64 r ∧ IsCh wr gc (List.replicate (b * 256 + r) 1024 ++ List.replicate (N - (b * 256 + r)) 0) ∧ wr.heap[gc + 1]? = some (.cells (mV gc 0) 146 (0, 0)) ∧ Below gc w wr) (fun i _ => 256 - (intOf i).toNat)
      case atStart => exact ⟨0, Nat.zero_le _, rfl, HC1.out, HG1.out, HB1.out⟩
      case round =>
        obtain ⟨r, hr, rfl, hch, hgg, hbe⟩ := hrel
        by_cases hlt2 : r < 256
        · have hk : b * 256 + r < N := by omega
          have cx := hch.cell (b * 256 + r) (by rw [fill_len _ _ (by omega)]; exact hk)
          have fx := hch.free (b * 256 + r)
          have g0 := cell_lit hgg 0 _ rfl
          have hch2 := hch.set (b * 256 + r) (by rw [fill_len _ _ (by omega)]; exact hk) 1024
          rw [fill_set N _ hk] at hch2
          have hb2 := hbe.setCell (p := ⟨gc, b * 256 + r, none⟩) (Nat.le_refl _) (.int .i64 1024)
          have hg2 := (Below.heap_setCell wr ⟨gc, b * 256 + r, none⟩ (.int .i64 1024) (gc + 1) (by show gc + 1 ≠ gc; omega)).trans hgg
          have HC2 := Lib.hid hch2; have HB2 := Lib.hid hb2; have HG2 := Lib.hid hg2
          have hr0 : (0 : Int) ≤ (r : Int) := by omega
          have hr1 : (r : Int) < 256 := by omega
          clear hch hbe hch2 hb2 hg2
          go_wp2_with fail
          go_region_with (go_at_call 84; (with_reducible refine (CS.out _).mono ?_); rintro e w5 ⟨rfl, rfl⟩)
          all_goals
            go_wp2_with fail
            go_roundw
            case rel => exact ⟨r + 1, by omega, by go_num, HC2.out, HG2.out, HB2.out.drew⟩
            case measure => simp [intOf]; omega
        · obtain rfl : r = 256 := by omega
          have HC1 := Lib.hid (show IsCh wr gc (List.replicate ((b + 1) * 256) 1024 ++ List.replicate (N - (b + 1) * 256) 0) by rw [show (b + 1) * 256 = b * 256 + 256 by omega]; exact hch)
          have HG1 := Lib.hid hgg; have HB1 := Lib.hid hbe
          clear hch hgg hbe g0
          go_wp2_with fail
          go_roundw
          case rel => exact ⟨b + 1, by omega, by go_num, HC1.out, HG1.out, HB1.out⟩
          case measure => simp [intOf]; omega
    · obtain rfl : b = 256 := by omega
      have e1 : N - 256 * 256 = 0 := by omega
      rw [e1, List.replicate_zero, List.append_nil, show 256 * 256 = N by omega] at hch
      have HC1 := Lib.hid hch; have HG1 := Lib.hid hgg; have HB1 := Lib.hid hbe
      clear hch hgg hbe
      go_wp2_with fail
      go_ret
      exact ⟨gc + 1, gc, rfl, HG1.out, HC1.out, by omega, by omega, by omega, by rw [hgc]; exact HB1.out⟩
end Go.Proofs.Ytkdkedgpchcfpaa
