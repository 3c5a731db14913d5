/- Layer 31: PutBlock, both ways. -/
import Derived.Test.YtekageibffhloaaH2
import Derived.RegionCalls
import Derived.Deep.RegionWith
namespace Go.Proofs.Ytekageibffhloaa
open Go.ChangeShapes Go.WideShapes Go.ChangeAt Go.RowKit
set_option linter.unusedVariables false
set_option maxRecDepth 100000
theorem hPutBOut (K R C : Int) (h : mayB K R C = false) (w : World) : Calls Try.prog 37 #[.agg #[.int .i64 K, .int .i64 R, .int .i64 C]] w fun e w' => e = .returned (.tuple #[.string (sB []), .int .i64 16]) ∧ Below w.heap.size w w' := by
  have CM := Lib.hid (fun W => hMay K R C W)
  rw [h] at CM
  clear h
  go_enter Try.func37, Try.ntmps37
  go_wp2_with fail
  refine (CM.out _).mono ?_; rintro e w1 ⟨rfl, rfl⟩
  go_wp2_with fail
  go_ret2
  exact ⟨rfl, by go_grown⟩
theorem dPutBOut (K R C : Int) (h : mayB K R C = false) (w : World) : Calls Try.prog 38 #[.agg #[.int .i64 K, .int .i64 R, .int .i64 C]] w fun e w' => e = .returned (.tuple #[.string (sB []), .int .i64 16]) ∧ Below w.heap.size w w' := by
  have CM := Lib.hid (fun W => dMay K R C W)
  rw [h] at CM
  clear h
  go_enter Try.func38, Try.ntmps38
  go_wp2_with fail
  refine (CM.out _).mono ?_; rintro e w1 ⟨rfl, rfl⟩
  go_wp2_with fail
  go_ret2
  exact ⟨rfl, by go_grown⟩
theorem hPutBEnd (w : World) : Calls Try.prog 37 #[.agg #[.int .i64 0, .int .i64 0, .int .i64 0]] w fun e w' => e = .returned (.tuple #[.string (sB [0]), .int .i64 0]) ∧ Below w.heap.size w w' := by
  have CM := Lib.hid (fun W => (hMay 0 0 0 W).mono (R' := fun e w' => e = .returned (.bool true) ∧ Below W.heap.size W w') (by rintro e w' ⟨h, rfl⟩; exact ⟨h, by go_grown⟩))
  have hcv := fun (Y : World) T => conv1 Y 0 0 T (by rfl)
  go_enter Try.func37, Try.ntmps37
  go_wp2_with fail
  refine (CM.out _).mono ?_; rintro e w1 ⟨rfl, hb⟩
  have hb1 := ((Below.refl w.heap.size w).alloc (Nat.le_refl _) _).trans (hb.mono (by simp))
  obtain ⟨hc, hf⟩ := bcell hb
  have hz := hb.size
  simp at hz
  have HB := Lib.hid hb1
  clear hb hb1
  go_wp2_with fail
  go_ret2
  exact ⟨rfl, HB.out.alloc HB.out.size _⟩
theorem dPutBEnd (w : World) : Calls Try.prog 38 #[.agg #[.int .i64 0, .int .i64 0, .int .i64 0]] w fun e w' => e = .returned (.tuple #[.string (sB [0]), .int .i64 0]) ∧ Below w.heap.size w w' := by
  have CM := Lib.hid (fun W => dMay 0 0 0 W)
  rw [show mayB 0 0 0 = true from rfl] at CM
  go_enter Try.func38, Try.ntmps38
  go_wp2_with fail
  refine (CM.out _).mono ?_; rintro e w1 ⟨rfl, rfl⟩
  go_wp2_with fail
  go_ret2
  exact ⟨rfl, by go_grown⟩
theorem mayB_some {K R C : Int} (h : mayB K R C = true) (h0 : K ≠ 0) : (K = 1 ∨ K = 2) ∧ 1 ≤ R ∧ R ≤ 65536 ∧ 1 ≤ C ∧ C ≤ 65536 := by
  unfold mayB at h
  rw [if_neg h0] at h
  split at h
  · simp at h; omega
  · split at h
    · simp at h; omega
    · cases h
theorem conv5d (Y : World) (l : List UInt8) (z0 z1 z2 z3 z4 : Int) (T : Nat) (h : cells8 l = [.int .u8 z0, .int .u8 z1, .int .u8 z2, .int .u8 z3, .int .u8 z4]) :
    (convert 44 9 (.slice (some ⟨Y.heap.size, 0, none⟩) 5 5)).run Try.prog (Y.alloc (.cells #[.int .u8 z0, .int .u8 z1, .int .u8 z2, .int .u8 z3, .int .u8 z4] T)).drew = .ok (.string (sB l)) (Y.alloc (.cells #[.int .u8 z0, .int .u8 z1, .int .u8 z2, .int .u8 z3, .int .u8 z4] T)).drew := by
  have hg : (Y.alloc (.cells #[.int .u8 z0, .int .u8 z1, .int .u8 z2, .int .u8 z3, .int .u8 z4] T)).drew.heap[Y.heap.size]? = some (.cells #[.int .u8 z0, .int .u8 z1, .int .u8 z2, .int .u8 z3, .int .u8 z4] T (0, 0)) := heap_alloc_new Y _
  refine conv_block (l := l) (T := T) (fr := (0, 0)) ?_ (by rw [← cells8_len, h]; rfl)
  rw [h]; exact hg
set_option maxHeartbeats 1600000 in
theorem hPutBIn (K R C : Nat) (h : mayB K (R + 1 : Nat) (C + 1 : Nat) = true) (h0 : K ≠ 0) (w : World) : Calls Try.prog 37 #[.agg #[.int .i64 K, .int .i64 (R + 1 : Nat), .int .i64 (C + 1 : Nat)]] w fun e w' => e = .returned (.tuple #[.string (sB ([UInt8.ofNat K] ++ lowB R 2 ++ lowB C 2)), .int .i64 0]) ∧ Below w.heap.size w w' := by
  have CM := Lib.hid (fun W => (hMay K (R + 1 : Nat) (C + 1 : Nat) W).mono (R' := fun e w' => e = .returned (.bool true) ∧ Below W.heap.size W w') (by rintro e w' ⟨h', rfl⟩; exact ⟨by rw [h', h], by go_grown⟩))
  obtain ⟨hk, hr1, hr2, hc1, hc2⟩ := mayB_some h (by omega)
  have hz : ((K : Int) == 0) = false := by rw [beq_eq_false_iff_ne]; omega
  have hK : (K : Int) ≤ 2 := by omega
  have hR : (R : Int) ≤ 65535 := by omega
  have hC : (C : Int) ≤ 65535 := by omega
  have q1 : ((R + 1 : Nat) : Int) - 1 = R := by omega
  have q2 : ((C + 1 : Nat) : Int) - 1 = C := by omega
  clear h h0 hk hr1 hr2 hc1 hc2
  have hcv0 := fun w1 T => conv5d w1 ([UInt8.ofNat K] ++ lowB R 2 ++ lowB C 2) (K : Int) ((R : Int) % 256) ((R : Int) / 256) ((C : Int) % 256) ((C : Int) / 256) T (by
    simp [cells8, lowB]; omega)
  obtain ⟨S5, hS5⟩ : ∃ S5, sB ([UInt8.ofNat K] ++ lowB R 2 ++ lowB C 2) = S5 := ⟨_, rfl⟩
  rw [hS5]
  simp only [hS5] at hcv0
  have HCV := Lib.hid hcv0
  clear hS5 hcv0
  go_enter Try.func37, Try.ntmps37
  go_wp2_with fail
  refine (CM.out _).mono ?_; rintro e w1 ⟨rfl, hb⟩
  have hb1 := ((Below.refl w.heap.size w).alloc (Nat.le_refl _) _).trans (hb.mono (by simp))
  obtain ⟨hc, hf⟩ := bcell hb
  have hzz := hb.size
  simp at hzz
  have HB := Lib.hid hb1
  clear hb hb1
  have hcv := fun T => HCV.out w1 T
  go_wp2_with fail
  go_region
  all_goals
    go_wp2_with fail
    go_ret2
    exact ⟨rfl, (HB.out.alloc HB.out.size _).drew⟩
def RestB (w W : World) : Prop := Below w.heap.size w W ∧ w.heap.size < W.heap.size
theorem RestB.next {w W w' : World} {c0 c1 c2 : Value} (h : W.cell? ⟨w.heap.size, 0, none⟩ = some c0 ∧ W.cell? ⟨w.heap.size, 1, none⟩ = some c1 ∧ W.cell? ⟨w.heap.size, 2, none⟩ = some c2 ∧ RestB w W) (hb : Below W.heap.size W w') :
    w'.cell? ⟨w.heap.size, 0, none⟩ = some c0 ∧ w'.cell? ⟨w.heap.size, 1, none⟩ = some c1 ∧ w'.cell? ⟨w.heap.size, 2, none⟩ = some c2 ∧ RestB w w' := by
  obtain ⟨h0, h1, h2, h3, h4⟩ := h
  exact ⟨(hb.cell h4).trans h0, (hb.cell h4).trans h1, (hb.cell h4).trans h2, h3.trans (hb.mono h3.size), Nat.lt_of_lt_of_le h4 hb.size⟩
set_option maxHeartbeats 1600000 in
theorem dPutBIn (K R C : Nat) (h : mayB K (R + 1 : Nat) (C + 1 : Nat) = true) (h0 : K ≠ 0) (w : World) : Calls Try.prog 38 #[.agg #[.int .i64 K, .int .i64 (R + 1 : Nat), .int .i64 (C + 1 : Nat)]] w fun e w' => e = .returned (.tuple #[.string (sB ([UInt8.ofNat K] ++ lowB R 2 ++ lowB C 2)), .int .i64 0]) ∧ Below w.heap.size w w' := by
  have CM := Lib.hid (fun W => (dMay K (R + 1 : Nat) (C + 1 : Nat) W).mono (R' := fun e w' => e = .returned (.bool true) ∧ Below W.heap.size W w') (by rintro e w' ⟨h', rfl⟩; exact ⟨by rw [h', h], by go_grown⟩))
  obtain ⟨hk, hr1, hr2, hc1, hc2⟩ := mayB_some h (by omega)
  have hz : ((K : Int) == 0) = false := by rw [beq_eq_false_iff_ne]; omega
  have hK : (K : Int) ≤ 2 := by omega
  have hR : (R : Int) ≤ 65535 := by omega
  have hC : (C : Int) ≤ 65535 := by omega
  have e1 : IntKind.i64.wrap ((R : Int) + 1 - 1) = (R : Int) := by rw [show (R : Int) + 1 - 1 = R by omega]; exact IntWalk.i64_in _ (by omega)
  have e2 : IntKind.i64.wrap ((C : Int) + 1 - 1) = (C : Int) := by rw [show (C : Int) + 1 - 1 = C by omega]; exact IntWalk.i64_in _ (by omega)
  have e3 : IntKind.i64.wrap (R : Int) = (R : Int) := IntWalk.i64_in _ (by omega)
  have e4 : IntKind.i64.wrap (C : Int) = (C : Int) := IntWalk.i64_in _ (by omega)
  have C1 : Hid (∀ W, (W.cell? ⟨w.heap.size, 0, none⟩ = some (.int .i64 K) ∧ W.cell? ⟨w.heap.size, 1, none⟩ = some (.int .i64 ((R : Int) + 1)) ∧ W.cell? ⟨w.heap.size, 2, none⟩ = some (.int .i64 ((C : Int) + 1)) ∧ RestB w W) → Calls Try.prog 69 #[.int .i64 (K : Int), .int .i64 1] W fun e w' => e = .returned (.string (sB (lowB K 1))) ∧ (w'.cell? ⟨w.heap.size, 0, none⟩ = some (.int .i64 K) ∧ w'.cell? ⟨w.heap.size, 1, none⟩ = some (.int .i64 ((R : Int) + 1)) ∧ w'.cell? ⟨w.heap.size, 2, none⟩ = some (.int .i64 ((C : Int) + 1)) ∧ RestB w w')) :=
    Lib.hid (fun W hW => (dLow K 1 (by omega) (by decide) W).mono (by rintro e w' ⟨h1, h2⟩; exact ⟨h1, RestB.next hW h2⟩))
  have C2 : Hid (∀ W, (W.cell? ⟨w.heap.size, 0, none⟩ = some (.int .i64 K) ∧ W.cell? ⟨w.heap.size, 1, none⟩ = some (.int .i64 ((R : Int) + 1)) ∧ W.cell? ⟨w.heap.size, 2, none⟩ = some (.int .i64 ((C : Int) + 1)) ∧ RestB w W) → Calls Try.prog 69 #[.int .i64 (R : Int), .int .i64 2] W fun e w' => e = .returned (.string (sB (lowB R 2))) ∧ (w'.cell? ⟨w.heap.size, 0, none⟩ = some (.int .i64 K) ∧ w'.cell? ⟨w.heap.size, 1, none⟩ = some (.int .i64 ((R : Int) + 1)) ∧ w'.cell? ⟨w.heap.size, 2, none⟩ = some (.int .i64 ((C : Int) + 1)) ∧ RestB w w')) :=
    Lib.hid (fun W hW => (dLow R 2 (by omega) (by decide) W).mono (by rintro e w' ⟨h1, h2⟩; exact ⟨h1, RestB.next hW h2⟩))
  have C3 : Hid (∀ W, (W.cell? ⟨w.heap.size, 0, none⟩ = some (.int .i64 K) ∧ W.cell? ⟨w.heap.size, 1, none⟩ = some (.int .i64 ((R : Int) + 1)) ∧ W.cell? ⟨w.heap.size, 2, none⟩ = some (.int .i64 ((C : Int) + 1)) ∧ RestB w W) → Calls Try.prog 69 #[.int .i64 (C : Int), .int .i64 2] W fun e w' => e = .returned (.string (sB (lowB C 2))) ∧ (w'.cell? ⟨w.heap.size, 0, none⟩ = some (.int .i64 K) ∧ w'.cell? ⟨w.heap.size, 1, none⟩ = some (.int .i64 ((R : Int) + 1)) ∧ w'.cell? ⟨w.heap.size, 2, none⟩ = some (.int .i64 ((C : Int) + 1)) ∧ RestB w w')) :=
    Lib.hid (fun W hW => (dLow C 2 (by omega) (by decide) W).mono (by rintro e w' ⟨h1, h2⟩; exact ⟨h1, RestB.next hW h2⟩))
  have hs1 : (sB (lowB K 1)).size ≤ 1 := by rw [sB_size, lowB_len]; decide
  have hs2 : (sB (lowB R 2)).size ≤ 2 := by rw [sB_size, lowB_len]; decide
  have hs3 : (sB (lowB C 2)).size ≤ 2 := by rw [sB_size, lowB_len]; decide
  have HA := Lib.hid (show sB ([UInt8.ofNat K] ++ lowB R 2 ++ lowB C 2) = sB (lowB K 1) ++ sB (lowB R 2) ++ sB (lowB C 2) by rw [sB_app, sB_app]; simp [lowB])
  rw [HA.out]
  obtain ⟨S1, hS1⟩ : ∃ S1, sB (lowB K 1) = S1 := ⟨_, rfl⟩
  obtain ⟨S2, hS2⟩ : ∃ S2, sB (lowB R 2) = S2 := ⟨_, rfl⟩
  obtain ⟨S3, hS3⟩ : ∃ S3, sB (lowB C 2) = S3 := ⟨_, rfl⟩
  rw [hS1] at C1 hs1 ⊢
  rw [hS2] at C2 hs2 ⊢
  rw [hS3] at C3 hs3 ⊢
  have n1 : ¬ 9223372036854775807 < S1.size + S2.size := by omega
  have n2 : ¬ 9223372036854775807 < S1.size + S2.size + S3.size := by omega
  clear hS1 hS2 hS3 HA h h0 hk hr1 hr2 hc1 hc2
  go_enter Try.func38, Try.ntmps38
  go_wp2_with fail
  refine (CM.out _).mono ?_; rintro e w1 ⟨rfl, hb⟩
  have hrest : RestB w w1.drew := ⟨(((Below.refl w.heap.size w).alloc (Nat.le_refl _) _).trans (hb.mono (by simp))).drew, by have := hb.size; simp at this; show w.heap.size < w1.heap.size; omega⟩
  obtain ⟨hc, hf⟩ := bcell hb
  have x0 : w1.drew.cell? ⟨w.heap.size, 0, none⟩ = some (.int .i64 K) := by show w1.cell? _ = _; rw [hc _ _ (by simp)]; simp [cell_in (heap_alloc_new w _)]
  have x1 : w1.drew.cell? ⟨w.heap.size, 1, none⟩ = some (.int .i64 ((R : Int) + 1)) := by show w1.cell? _ = _; rw [hc _ _ (by simp)]; simp [cell_in (heap_alloc_new w _)]
  have x2 : w1.drew.cell? ⟨w.heap.size, 2, none⟩ = some (.int .i64 ((C : Int) + 1)) := by show w1.cell? _ = _; rw [hc _ _ (by simp)]; simp [cell_in (heap_alloc_new w _)]
  go_wp2_with fail
  clear hb hf hc
  go_region_held3 (fun w' => w'.cell? ⟨w.heap.size, 0, none⟩ = some (.int .i64 K) ∧ w'.cell? ⟨w.heap.size, 1, none⟩ = some (.int .i64 ((R : Int) + 1)) ∧ w'.cell? ⟨w.heap.size, 2, none⟩ = some (.int .i64 ((C : Int) + 1)) ∧ RestB w w') (first | exact ⟨x0, x1, x2, hrest⟩ | assumption) (first | (go_at_call 69; with_reducible refine (C1.out _ (by first | assumption | exact ⟨by assumption, by assumption, by assumption, by assumption⟩)).mono ?_; rintro e w2 ⟨rfl, hP⟩) | (go_at_call 69; with_reducible refine (C2.out _ (by first | assumption | exact ⟨by assumption, by assumption, by assumption, by assumption⟩)).mono ?_; rintro e w3 ⟨rfl, hP3⟩) | (go_at_call 69; with_reducible refine (C3.out _ (by first | assumption | exact ⟨by assumption, by assumption, by assumption, by assumption⟩)).mono ?_; rintro e w4 ⟨rfl, hP4⟩))
  simp only [Exit.then]
  rename_i hK hHeld
  refine hK _ _ ?_
  have HP := Lib.hid (show Below w.heap.size w w4 ∧ w.heap.size < w4.heap.size from hP4.2.2.2)
  clear hK hHeld hP hP3 hP4
  go_wp2_with fail
  go_ret2
  exact ⟨rfl, HP.out.1⟩
end Go.Proofs.Ytekageibffhloaa
