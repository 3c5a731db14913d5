/- Layer 24: pmerge.Lengths of one symbol that occurs, and of none. -/
import Derived.Test.YtofmjcelmbkebaaAF11
namespace Go.Proofs.Ytofmjcelmbkebaa
open Go.ChangeShapes Go.WideShapes Go.ChangeAt Go.RowKit
set_option linter.unusedVariables false
set_option linter.unusedSimpArgs false
set_option maxRecDepth 100000
open KraftMath
theorem used_none : ∀ l : List Int, (∀ i, l.getD i 0 = 0) → used l = 0
  | [], _ => rfl
  | x :: r, h => by
    have h0 := h 0
    simp only [List.getD_cons_zero] at h0
    have hr := used_none r (fun i => by have := h (i + 1); simpa using this)
    simp only [used]
    rw [h0, hr]; rfl
theorem used_one : ∀ (l : List Int) (S : Nat) (v : Int), OneAt l S v → used l = 1
  | [], S, v, h => by have := h.1; simp at this
  | x :: r, 0, v, h => by
    have h0 := h.2.2 0
    simp only [List.getD_cons_zero, if_true] at h0
    have hr := used_none r (fun i => by have := h.2.2 (i + 1); simpa using this)
    simp only [used]
    rw [h0, hr, if_pos h.2.1]
  | x :: r, S + 1, v, h => by
    have h0 := h.2.2 0
    rw [if_neg (by omega)] at h0
    simp only [List.getD_cons_zero] at h0
    have hr := used_one r S v ⟨by have := h.1; simp at this; omega, h.2.1, fun i => by have := h.2.2 (i + 1); simpa using this⟩
    simp only [used]
    rw [h0, hr]; rfl
set_option maxHeartbeats 1600000 in
theorem pNone (a : Option Addr) (c n : Nat) (l : List Int) (w : World) (hl : l.length = n) (h : IsInts w a l) (hn : n ≤ 1000) (hz : ∀ i, l.getD i 0 = 0) :
    Calls Try.prog 9 #[.slice a n c, .int .i64 15] w fun e w' => e = .returned (.tuple #[.slice none 0 0, .int .i64 7]) ∧ Below w.heap.size w w' := by
  have CC := Lib.hid (pCheck a c n 0 l w hl h hn (fun i => by rw [hz i]; omega) (used_none l hz) (by decide))
  rw [if_pos rfl] at CC
  clear h hl hz
  go_enter Try.func9, Try.ntmps9
  go_wp2_with fail
  refine CC.out.mono ?_; rintro e w2 ⟨rfl, hb⟩
  go_wp2_with fail
  go_ret2
  exact ⟨rfl, hb⟩
set_option maxHeartbeats 1600000 in
theorem pOne (a : Option Addr) (c n S : Nat) (v : Int) (l : List Int) (w : World) (hl : l.length = n) (h : IsInts w a l) (hn : n ≤ 1000) (ho : OneAt l S v) (hv : v ≤ 1000) :
    Calls Try.prog 9 #[.slice a n c, .int .i64 15] w fun e w' => ∃ u, e = .returned (.tuple #[u, .int .i64 0]) ∧ OwnI w.heap.size w' u ((List.replicate n 0).set S 1) ∧ Below w.heap.size w w' := by
  have CC := Lib.hid (pCheck a c n 1 l w hl h hn (fun i => by rw [ho.2.2 i]; have := ho.2.1; split <;> omega) (used_one l S v ho) (by decide))
  rw [if_neg (by decide)] at CC
  have HI := Lib.hid h
  have CB := Lib.hid (fun W h => pByFreq a c n S v l W hl h hn ho)
  have hS : S < n := by have := ho.1; omega
  have hSi : (S : Int) < n := by omega
  clear h hl ho
  go_enter Try.func9, Try.ntmps9
  go_wp2_with fail
  refine CC.out.mono ?_; rintro e w1 ⟨rfl, hb⟩
  have HB := Lib.hid hb
  clear hb CC
  go_wp2_with (refine make_int rfl _ _ rfl .i64 .i64 (n : Int) (n : Int) n rfl rfl rfl rfl (by omega) ?_; intro w2 ho2 hb2 hs2)
  have HO := Lib.hid ho2
  have HBm := Lib.hid (HB.out.trans (hb2.mono HB.out.size))
  obtain ⟨g, hg⟩ : ∃ g, w1.heap.size = g := ⟨_, rfl⟩
  have hgw : w.heap.size ≤ g := by rw [← hg]; exact HB.out.size
  rw [hg] at HO ⊢
  clear ho2 hb2 hs2 hg HB
  refine (CB.out _ (HI.out.kept HBm.out)).mono ?_; rintro e w3 ⟨u, rfl, hu, hb⟩
  have HO := Lib.hid (HO.out.kept hb)
  have HBm := Lib.hid (HBm.out.trans (hb.mono HBm.out.size))
  obtain ⟨g2, cap, rfl, -, -⟩ := hu.form (by simp) (by decide)
  have cu := hu.int_cell 0 (by simp)
  have lu := (hu.lt _ rfl).2
  simp only [List.length_singleton, List.getD_cons_zero] at *
  have co := HO.out.int_cell S (by rw [List.length_replicate]; exact hS)
  have fo := HO.out.free S
  have lo := (HO.out.lt _ rfl).2
  have HO2 := Lib.hid (HO.out.set_int S 1 (by rw [List.length_replicate]; exact hS))
  have HB2 := Lib.hid (HBm.out.setCell (p := ⟨g, S, none⟩) hgw (.int .i64 1))
  clear hu hb CB
  go_wp2_with fail
  go_ret2
  exact ⟨_, rfl, HO2.out.base hgw, HB2.out⟩
end Go.Proofs.Ytofmjcelmbkebaa
