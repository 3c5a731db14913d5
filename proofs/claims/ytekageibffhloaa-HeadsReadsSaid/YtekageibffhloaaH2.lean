/- Layer 31: Put, PutBlock, both ways. -/
import Derived.Test.YtekageibffhloaaH1
import Derived.RegionCalls
import Derived.Deep.RegionWith
namespace Go.Proofs.Ytekageibffhloaa
open Go.ChangeShapes Go.WideShapes Go.ChangeAt Go.RowKit
set_option linter.unusedVariables false
set_option maxRecDepth 100000
theorem two_calls {w a b : World} {o : Obj} (h : Below (w.alloc o).drew.heap.size (w.alloc o).drew a) (h2 : Below a.heap.size a b) : Below w.heap.size w b :=
  (((Below.refl _ _).alloc (Nat.le_refl _) o).drew.trans (h.mono (by simp))).trans (h2.mono (by have := h.size; simp at this; omega))
def nameB : List UInt8 := [71, 76, 68, 49]
def putS (L : Int) (D : Bool) (I : Nat) : List UInt8 × Int :=
  if L < 15 ∨ 26 < L then ([], 12) else if D then (nameB ++ ([UInt8.ofNat (L.toNat + 32)] ++ lowB I 4), 0) else if I = 0 then (nameB ++ [UInt8.ofNat L.toNat], 0) else ([], 1)
def putBS (K R C : Int) : List UInt8 × Int :=
  if mayB K R C = false then ([], 16) else if K = 0 then ([0], 0) else ([UInt8.ofNat K.toNat] ++ lowB (R - 1).toNat 2 ++ lowB (C - 1).toNat 2, 0)
theorem hPutWin (L : Int) (D : Bool) (I : Nat) (h : L < 15 ∨ 26 < L) (w : World) : Calls Try.prog 35 #[.agg #[.int .i64 L, .bool D, .int .u32 I]] w fun e w' => e = .returned (.tuple #[.string (sB []), .int .i64 12]) ∧ Below w.heap.size w w' := by
  rcases h with h | h
  · go_enter Try.func35, Try.ntmps35
    go_wp2
    go_ret2
    exact ⟨rfl, by go_grown⟩
  · have h2 : ¬ L < 15 := by omega
    go_enter Try.func35, Try.ntmps35
    go_wp2
    go_ret2
    exact ⟨rfl, by go_grown⟩
theorem dPutWin (L : Int) (D : Bool) (I : Nat) (h : L < 15 ∨ 26 < L) (w : World) : Calls Try.prog 36 #[.agg #[.int .i64 L, .bool D, .int .u32 I]] w fun e w' => e = .returned (.tuple #[.string (sB []), .int .i64 12]) ∧ Below w.heap.size w w' := by
  rcases h with h | h
  · go_enter Try.func36, Try.ntmps36
    go_wp2
    go_ret2
    exact ⟨rfl, by go_grown⟩
  · have h2 : ¬ L < 15 := by omega
    go_enter Try.func36, Try.ntmps36
    go_wp2
    go_ret2
    exact ⟨rfl, by go_grown⟩
theorem hPutArg (L : Int) (I : Nat) (h : 15 ≤ L ∧ L ≤ 26) (hI : I ≠ 0) (w : World) : Calls Try.prog 35 #[.agg #[.int .i64 L, .bool false, .int .u32 I]] w fun e w' => e = .returned (.tuple #[.string (sB []), .int .i64 1]) ∧ Below w.heap.size w w' := by
  obtain ⟨h1, h2⟩ := h
  have hn : ((I : Int) != 0) = true := by rw [bne_iff_ne]; omega
  go_enter Try.func35, Try.ntmps35
  go_wp2
  go_ret2
  exact ⟨rfl, by go_grown⟩
theorem dPutArg (L : Int) (I : Nat) (h : 15 ≤ L ∧ L ≤ 26) (hI : I ≠ 0) (w : World) : Calls Try.prog 36 #[.agg #[.int .i64 L, .bool false, .int .u32 I]] w fun e w' => e = .returned (.tuple #[.string (sB []), .int .i64 1]) ∧ Below w.heap.size w w' := by
  obtain ⟨h1, h2⟩ := h
  have hn : ((I : Int) != 0) = true := by rw [bne_iff_ne]; omega
  go_enter Try.func36, Try.ntmps36
  go_wp2
  go_ret2
  exact ⟨rfl, by go_grown⟩
theorem hPutNo (L : Nat) (h : 15 ≤ L ∧ L ≤ 26) (w : World) : Calls Try.prog 35 #[.agg #[.int .i64 L, .bool false, .int .u32 0]] w fun e w' => e = .returned (.tuple #[.string (sB (nameB ++ [UInt8.ofNat L])), .int .i64 0]) ∧ Below w.heap.size w w' := by
  obtain ⟨h1, h2⟩ := h
  have b1 : decide ((L : Int) < 15) = false := by simp; omega
  have b2 : decide (26 < (L : Int)) = false := by simp; omega
  have hcv := fun (o : Obj) T => conv1b w o (L : Int) (UInt8.ofNat L) T (by rw [u8w]; omega)
  have hs1 : (sB [UInt8.ofNat L]).size ≤ 1 := by rw [sB_size]; simp
  have HA := Lib.hid (sB_app nameB [UInt8.ofNat L])
  go_enter Try.func35, Try.ntmps35
  go_wp2
  go_ret2
  exact ⟨by rw [← HA.out]; rfl, by go_grown⟩
theorem dPutNo (L : Nat) (h : 15 ≤ L ∧ L ≤ 26) (w : World) : Calls Try.prog 36 #[.agg #[.int .i64 L, .bool false, .int .u32 0]] w fun e w' => e = .returned (.tuple #[.string (sB (nameB ++ [UInt8.ofNat L])), .int .i64 0]) ∧ Below w.heap.size w w' := by
  obtain ⟨h1, h2⟩ := h
  have b1 : decide ((L : Int) < 15) = false := by simp; omega
  have b2 : decide (26 < (L : Int)) = false := by simp; omega
  have C := Lib.hid (fun W => dLow L 1 (by omega) (by decide) W)
  have hs1 : (sB (lowB L 1)).size ≤ 1 := by rw [sB_size, lowB_len]; decide
  have HA := Lib.hid (show sB nameB ++ sB (lowB L 1) = sB (nameB ++ [UInt8.ofNat L]) by rw [sB_app]; simp [lowB])
  go_enter Try.func36, Try.ntmps36
  go_wp2_with fail
  refine (C.out _).mono ?_; rintro e w1 ⟨rfl, hb⟩
  go_wp2_with fail
  go_ret2
  exact ⟨by rw [← HA.out]; rfl, ((Below.refl _ _).alloc (Nat.le_refl _) _).trans (hb.mono (by simp))⟩
set_option maxHeartbeats 3200000 in
theorem hPutDict (L I : Nat) (h : 15 ≤ L ∧ L ≤ 26) (hI : I < 4294967296) (w : World) : Calls Try.prog 35 #[.agg #[.int .i64 L, .bool true, .int .u32 I]] w fun e w' => e = .returned (.tuple #[.string (sB (nameB ++ ([UInt8.ofNat (L + 32)] ++ lowB I 4))), .int .i64 0]) ∧ Below w.heap.size w w' := by
  obtain ⟨h1, h2⟩ := h
  have b1 : decide ((L : Int) < 15) = false := by simp; omega
  have b2 : decide (26 < (L : Int)) = false := by simp; omega
  have hcv := fun (o : Obj) T => conv5b w o ([UInt8.ofNat (L + 32)] ++ lowB I 4) ((L : Int) + 32) ((I : Int) % 256) ((I : Int) / 256 % 256) ((I : Int) / 65536 % 256) ((I : Int) / 16777216) T (by
    simp [cells8, lowB]; omega)
  have HA := Lib.hid (sB_app nameB ([UInt8.ofNat (L + 32)] ++ lowB I 4))
  have hs1 : (sB ([UInt8.ofNat (L + 32)] ++ lowB I 4)).size ≤ 5 := by rw [sB_size]; simp [lowB_len]
  obtain ⟨S5, hS5⟩ : ∃ S5, sB ([UInt8.ofNat (L + 32)] ++ lowB I 4) = S5 := ⟨_, rfl⟩
  rw [hS5] at hs1 HA
  simp only [hS5] at hcv
  have HS5 : Hid (sB (nameB ++ UInt8.ofNat (L + 32) :: lowB I 4) = sB nameB ++ S5) := HA.out.symm
  clear hS5
  go_enter Try.func35, Try.ntmps35
  go_wp2
  refine wp_loop_rounds 5 ?_
  rw [rounds_succ]
  go_wp2
  rw [rounds_succ]
  go_wp2
  rw [rounds_succ]
  go_wp2
  rw [rounds_succ]
  go_wp2
  rw [rounds_succ]
  go_wp2
  go_ret2
  exact ⟨by rw [HS5.out]; rfl, by go_grown⟩
set_option maxHeartbeats 3200000 in
theorem dPutDict (L I : Nat) (h : 15 ≤ L ∧ L ≤ 26) (hI : I < 4294967296) (w : World) : Calls Try.prog 36 #[.agg #[.int .i64 L, .bool true, .int .u32 I]] w fun e w' => e = .returned (.tuple #[.string (sB (nameB ++ ([UInt8.ofNat (L + 32)] ++ lowB I 4))), .int .i64 0]) ∧ Below w.heap.size w w' := by
  obtain ⟨h1, h2⟩ := h
  have b1 : decide ((L : Int) < 15) = false := by simp; omega
  have b2 : decide (26 < (L : Int)) = false := by simp; omega
  have C1 : Hid (∀ W, Calls Try.prog 69 #[.int .i64 ((L : Int) + 32), .int .i64 1] W fun e w' => e = .returned (.string (sB (lowB (L + 32) 1))) ∧ Below W.heap.size W w') := Lib.hid (fun W => dLow (L + 32) 1 (by omega) (by decide) W)
  have C2 : Hid (∀ W, Calls Try.prog 69 #[.int .i64 (I : Int), .int .i64 4] W fun e w' => e = .returned (.string (sB (lowB I 4))) ∧ Below W.heap.size W w') := Lib.hid (fun W => dLow I 4 (by omega) (by decide) W)
  have hs1 : (sB (lowB (L + 32) 1)).size ≤ 1 := by rw [sB_size, lowB_len]; decide
  have hs2 : (sB (lowB I 4)).size ≤ 4 := by rw [sB_size, lowB_len]; decide
  have HA := Lib.hid (show sB nameB ++ sB (lowB (L + 32) 1) ++ sB (lowB I 4) = sB (nameB ++ ([UInt8.ofNat (L + 32)] ++ lowB I 4)) by rw [sB_app, sB_app]; simp [lowB])
  have HS5 : Hid (sB (nameB ++ UInt8.ofNat (L + 32) :: lowB I 4) = sB nameB ++ sB (lowB (L + 32) 1) ++ sB (lowB I 4)) := HA.out.symm
  have e1 : IntKind.i64.wrap ((L : Int) + 32) = (L : Int) + 32 := IntWalk.i64_in _ (by omega)
  have e2 : IntKind.i64.wrap (I : Int) = (I : Int) := IntWalk.i64_in _ (by omega)
  obtain ⟨S1, hS1⟩ : ∃ S1, sB (lowB (L + 32) 1) = S1 := ⟨_, rfl⟩
  obtain ⟨S4, hS4⟩ : ∃ S4, sB (lowB I 4) = S4 := ⟨_, rfl⟩
  rw [hS1] at C1 hs1 HS5
  rw [hS4] at C2 hs2 HS5
  clear hS1 hS4 HA
  go_enter Try.func36, Try.ntmps36
  go_wp2_with fail
  go_region_with (first | (go_at_call 69; (with_reducible refine (C1.out _).mono ?_); rintro e w2 ⟨rfl, hb2⟩; obtain ⟨hc2, hf2⟩ := bcell hb2; have HB2 := Lib.hid hb2; clear hb2) | (go_at_call 69; (with_reducible refine (C2.out _).mono ?_); rintro e w3 ⟨rfl, hb3⟩; obtain ⟨hc3, hf3⟩ := bcell hb3; have HB3 := Lib.hid hb3; clear hb3))
  all_goals
    go_wp2_with fail
    go_ret2
    exact ⟨by rw [HS5.out]; rfl, by first | exact two_calls HB2.out HB3.out | exact two_calls HB3.out HB2.out⟩
end Go.Proofs.Ytekageibffhloaa
