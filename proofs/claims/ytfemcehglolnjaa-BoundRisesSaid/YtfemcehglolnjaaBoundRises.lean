/- It is proved that the law 'BoundRises' of the program returns true for every input, with no condition, and leaves what was handed in as it was. The frame was written by a program; the walk is by hand. -/
import Derived.Test.YtfemcehglolnjaaRows
import Derived.WalkKit
import Derived.ProofKit
import Derived.OpenShut
import Derived.ShutString
import Derived.ChangeOld
import Derived.Below
import Derived.Test.YtfemcehglolnjaaBase
import Derived.Test.YtfemcehglolnjaaBo
namespace Go.Proofs.Ytfemcehglolnjaa.boundRises
open Go.ChangeShapes Go.WideShapes Go.ChangeAt Go.RowKit
open Go.ChangeMaps (open_string shut_string)
set_option linter.unusedVariables false
set_option maxRecDepth 100000

theorem own : ownKnob Try.prog.godebug = none := by kernel_rfl
theorem laidOut : laidOutB Try.prog = true := by kernel_rfl

theorem blocksI_mono (a b : Int) (h : a ≤ b) : blocksI a ≤ blocksI b := by unfold blocksI; split <;> split <;> omega
theorem frameI_mono (n m x y : Int) (h : n ≤ m) (k : x ≤ y) : frameI n x ≤ frameI m y := by
  have h1 : cutI n ≤ cutI m := by unfold cutI; (repeat' split) <;> omega
  have h2 : cutI x ≤ cutI y := by unfold cutI; (repeat' split) <;> omega
  have h3 := blocksI_mono _ _ h1
  unfold frameI; omega
theorem frameI_more (n m : Int) (h0 : 0 ≤ n) (h : n ≤ m) (h1 : m ≤ 4294967295) : m - n ≤ frameI m 0 - frameI n 0 := by
  have e1 : cutI n = n := by unfold cutI; rw [if_neg (by omega), if_neg (by omega)]
  have e2 : cutI m = m := by unfold cutI; rw [if_neg (by omega), if_neg (by omega)]
  have h3 := blocksI_mono _ _ h
  unfold frameI; rw [e1, e2]; omega
theorem frame_at (n f F : Int) (g : frameI n f = F) (h0 : -9223372036854775808 ≤ n) (h1 : n ≤ 9223372036854775807) (g0 : -9223372036854775808 ≤ f) (g1 : f ≤ 9223372036854775807) (w : World) :
    Calls Try.prog 31 #[.int .i64 n, .int .i64 f] w fun e w' => e = .returned (.int .i64 F) ∧ w = w' := by rw [← g]; exact frame_any n f h0 h1 g0 g1 w
theorem frameI_bd (n f : Int) : 32 ≤ frameI n f ∧ frameI n f ≤ 9000000000000000000 := by
  have h1 := cutI_bd n; have h2 := cutI_bd f
  have h3 := blocksI_bd _ h1.1 h1.2
  unfold frameI; omega

set_option maxHeartbeats 3200000 in
theorem walk (b0_0 : Int) (b0_1 : Int) (b1_0 : Int) (b1_1 : Int) (w : World) (w0_0 : (Lit.int .u32 b0_0).wf = true) (w0_1 : (Lit.int .u32 b0_1).wf = true) (w1_0 : (Lit.int .u16 b1_0).wf = true) (w1_1 : (Lit.int .u16 b1_1).wf = true) :
    Calls Try.prog 10 #[.agg #[.int .u32 b0_0, .int .u32 b0_1], .agg #[.int .u16 b1_0, .int .u16 b1_1]] w fun e w' => e = .returned (.bool true) ∧ Below w.heap.size w w' := by
  obtain ⟨p0, p1⟩ := bounds_u32 w0_0
  obtain ⟨q0, q1⟩ := bounds_u32 w0_1
  obtain ⟨r0, r1⟩ := bounds_u16 w1_0
  obtain ⟨s0, s1⟩ := bounds_u16 w1_1
  rcases Int.lt_trichotomy b0_0 b0_1 with h | h | h <;> rcases Int.lt_trichotomy b1_0 b1_1 with k | k | k
  · skip
    skip
    obtain ⟨F1, g1⟩ : ∃ F, frameI b0_0 b1_0 = F := ⟨_, rfl⟩
    obtain ⟨F2, g2⟩ : ∃ F, frameI b0_1 b1_1 = F := ⟨_, rfl⟩
    obtain ⟨F3, g3⟩ : ∃ F, frameI b0_1 0 = F := ⟨_, rfl⟩
    obtain ⟨F4, g4⟩ : ∃ F, frameI b0_0 0 = F := ⟨_, rfl⟩
    have f1 : F1 ≤ F2 := by have := frameI_mono b0_0 b0_1 b1_0 b1_1 (by omega) (by omega); omega
    have f2 : b0_1 - b0_0 ≤ F3 - F4 := by have := frameI_more b0_0 b0_1 (by omega) (by omega) (by omega); omega
    have d1 : 32 ≤ F3 ∧ F3 ≤ 9000000000000000000 := by have := frameI_bd b0_1 0; omega
    have d2 : 32 ≤ F4 ∧ F4 ≤ 9000000000000000000 := by have := frameI_bd b0_0 0; omega
    obtain ⟨d1, d3⟩ := d1
    obtain ⟨d2, d4⟩ := d2
    have c1 := frame_at b0_0 b1_0 F1 g1 (by omega) (by omega) (by omega) (by omega)
    have c2 := frame_at b0_1 b1_1 F2 g2 (by omega) (by omega) (by omega) (by omega)
    have c3 := frame_at b0_1 0 F3 g3 (by omega) (by omega) (by omega) (by omega)
    have c4 := frame_at b0_0 0 F4 g4 (by omega) (by omega) (by omega) (by omega)
    have C1 := Lib.hid c1; have C2 := Lib.hid c2; have C3 := Lib.hid c3; have C4 := Lib.hid c4
    clear c1 c2 c3 c4 g1 g2 g3 g4
    go_enter Try.func10, Try.ntmps10
    go_wp2_with fail
    go_quiet (fail)
    go_wp2_with fail
    go_quiet (fail)
    go_wp2_with fail
    refine (C1.out _).mono ?_; rintro e w' ⟨rfl, rfl⟩
    go_wp2_with fail
    refine (C2.out _).mono ?_; rintro e w' ⟨rfl, rfl⟩
    go_wp2_with fail
    refine (C3.out _).mono ?_; rintro e w' ⟨rfl, rfl⟩
    go_wp2_with fail
    refine (C4.out _).mono ?_; rintro e w' ⟨rfl, rfl⟩
    go_wp2_with fail
    refine (awake38 _).mono ?_; rintro e w' ⟨rfl, rfl⟩
    go_wp2_with fail
    go_ret
    exact ⟨rfl, below_drewN (((Below.refl _ _).alloc (Nat.le_refl _) _).alloc (by simp) _) _⟩
  · skip
    subst k
    obtain ⟨F1, g1⟩ : ∃ F, frameI b0_0 b1_0 = F := ⟨_, rfl⟩
    obtain ⟨F2, g2⟩ : ∃ F, frameI b0_1 b1_0 = F := ⟨_, rfl⟩
    obtain ⟨F3, g3⟩ : ∃ F, frameI b0_1 0 = F := ⟨_, rfl⟩
    obtain ⟨F4, g4⟩ : ∃ F, frameI b0_0 0 = F := ⟨_, rfl⟩
    have f1 : F1 ≤ F2 := by have := frameI_mono b0_0 b0_1 b1_0 b1_0 (by omega) (by omega); omega
    have f2 : b0_1 - b0_0 ≤ F3 - F4 := by have := frameI_more b0_0 b0_1 (by omega) (by omega) (by omega); omega
    have d1 : 32 ≤ F3 ∧ F3 ≤ 9000000000000000000 := by have := frameI_bd b0_1 0; omega
    have d2 : 32 ≤ F4 ∧ F4 ≤ 9000000000000000000 := by have := frameI_bd b0_0 0; omega
    obtain ⟨d1, d3⟩ := d1
    obtain ⟨d2, d4⟩ := d2
    have c1 := frame_at b0_0 b1_0 F1 g1 (by omega) (by omega) (by omega) (by omega)
    have c2 := frame_at b0_1 b1_0 F2 g2 (by omega) (by omega) (by omega) (by omega)
    have c3 := frame_at b0_1 0 F3 g3 (by omega) (by omega) (by omega) (by omega)
    have c4 := frame_at b0_0 0 F4 g4 (by omega) (by omega) (by omega) (by omega)
    have C1 := Lib.hid c1; have C2 := Lib.hid c2; have C3 := Lib.hid c3; have C4 := Lib.hid c4
    clear c1 c2 c3 c4 g1 g2 g3 g4
    go_enter Try.func10, Try.ntmps10
    go_wp2_with fail
    go_quiet (fail)
    go_wp2_with fail
    go_quiet (fail)
    go_wp2_with fail
    refine (C1.out _).mono ?_; rintro e w' ⟨rfl, rfl⟩
    go_wp2_with fail
    refine (C2.out _).mono ?_; rintro e w' ⟨rfl, rfl⟩
    go_wp2_with fail
    refine (C3.out _).mono ?_; rintro e w' ⟨rfl, rfl⟩
    go_wp2_with fail
    refine (C4.out _).mono ?_; rintro e w' ⟨rfl, rfl⟩
    go_wp2_with fail
    refine (awake38 _).mono ?_; rintro e w' ⟨rfl, rfl⟩
    go_wp2_with fail
    go_ret
    exact ⟨rfl, below_drewN (((Below.refl _ _).alloc (Nat.le_refl _) _).alloc (by simp) _) _⟩
  · skip
    skip
    obtain ⟨F1, g1⟩ : ∃ F, frameI b0_0 b1_1 = F := ⟨_, rfl⟩
    obtain ⟨F2, g2⟩ : ∃ F, frameI b0_1 b1_0 = F := ⟨_, rfl⟩
    obtain ⟨F3, g3⟩ : ∃ F, frameI b0_1 0 = F := ⟨_, rfl⟩
    obtain ⟨F4, g4⟩ : ∃ F, frameI b0_0 0 = F := ⟨_, rfl⟩
    have f1 : F1 ≤ F2 := by have := frameI_mono b0_0 b0_1 b1_1 b1_0 (by omega) (by omega); omega
    have f2 : b0_1 - b0_0 ≤ F3 - F4 := by have := frameI_more b0_0 b0_1 (by omega) (by omega) (by omega); omega
    have d1 : 32 ≤ F3 ∧ F3 ≤ 9000000000000000000 := by have := frameI_bd b0_1 0; omega
    have d2 : 32 ≤ F4 ∧ F4 ≤ 9000000000000000000 := by have := frameI_bd b0_0 0; omega
    obtain ⟨d1, d3⟩ := d1
    obtain ⟨d2, d4⟩ := d2
    have c1 := frame_at b0_0 b1_1 F1 g1 (by omega) (by omega) (by omega) (by omega)
    have c2 := frame_at b0_1 b1_0 F2 g2 (by omega) (by omega) (by omega) (by omega)
    have c3 := frame_at b0_1 0 F3 g3 (by omega) (by omega) (by omega) (by omega)
    have c4 := frame_at b0_0 0 F4 g4 (by omega) (by omega) (by omega) (by omega)
    have C1 := Lib.hid c1; have C2 := Lib.hid c2; have C3 := Lib.hid c3; have C4 := Lib.hid c4
    clear c1 c2 c3 c4 g1 g2 g3 g4
    go_enter Try.func10, Try.ntmps10
    go_wp2_with fail
    go_quiet (fail)
    go_wp2_with fail
    go_quiet (fail)
    go_wp2_with fail
    refine (C1.out _).mono ?_; rintro e w' ⟨rfl, rfl⟩
    go_wp2_with fail
    refine (C2.out _).mono ?_; rintro e w' ⟨rfl, rfl⟩
    go_wp2_with fail
    refine (C3.out _).mono ?_; rintro e w' ⟨rfl, rfl⟩
    go_wp2_with fail
    refine (C4.out _).mono ?_; rintro e w' ⟨rfl, rfl⟩
    go_wp2_with fail
    refine (awake38 _).mono ?_; rintro e w' ⟨rfl, rfl⟩
    go_wp2_with fail
    go_ret
    exact ⟨rfl, below_drewN (((Below.refl _ _).alloc (Nat.le_refl _) _).alloc (by simp) _) _⟩
  · subst h
    skip
    obtain ⟨F1, g1⟩ : ∃ F, frameI b0_0 b1_0 = F := ⟨_, rfl⟩
    obtain ⟨F2, g2⟩ : ∃ F, frameI b0_0 b1_1 = F := ⟨_, rfl⟩
    obtain ⟨F3, g3⟩ : ∃ F, frameI b0_0 0 = F := ⟨_, rfl⟩
    obtain ⟨F4, g4⟩ : ∃ F, frameI b0_0 0 = F := ⟨_, rfl⟩
    have f1 : F1 ≤ F2 := by have := frameI_mono b0_0 b0_0 b1_0 b1_1 (by omega) (by omega); omega
    have f2 : b0_0 - b0_0 ≤ F3 - F4 := by have := frameI_more b0_0 b0_0 (by omega) (by omega) (by omega); omega
    have d1 : 32 ≤ F3 ∧ F3 ≤ 9000000000000000000 := by have := frameI_bd b0_0 0; omega
    have d2 : 32 ≤ F4 ∧ F4 ≤ 9000000000000000000 := by have := frameI_bd b0_0 0; omega
    obtain ⟨d1, d3⟩ := d1
    obtain ⟨d2, d4⟩ := d2
    have c1 := frame_at b0_0 b1_0 F1 g1 (by omega) (by omega) (by omega) (by omega)
    have c2 := frame_at b0_0 b1_1 F2 g2 (by omega) (by omega) (by omega) (by omega)
    have c3 := frame_at b0_0 0 F3 g3 (by omega) (by omega) (by omega) (by omega)
    have c4 := frame_at b0_0 0 F4 g4 (by omega) (by omega) (by omega) (by omega)
    have C1 := Lib.hid c1; have C2 := Lib.hid c2; have C3 := Lib.hid c3; have C4 := Lib.hid c4
    clear c1 c2 c3 c4 g1 g2 g3 g4
    go_enter Try.func10, Try.ntmps10
    go_wp2_with fail
    go_quiet (fail)
    go_wp2_with fail
    go_quiet (fail)
    go_wp2_with fail
    refine (C1.out _).mono ?_; rintro e w' ⟨rfl, rfl⟩
    go_wp2_with fail
    refine (C2.out _).mono ?_; rintro e w' ⟨rfl, rfl⟩
    go_wp2_with fail
    refine (C3.out _).mono ?_; rintro e w' ⟨rfl, rfl⟩
    go_wp2_with fail
    refine (C4.out _).mono ?_; rintro e w' ⟨rfl, rfl⟩
    go_wp2_with fail
    refine (awake38 _).mono ?_; rintro e w' ⟨rfl, rfl⟩
    go_wp2_with fail
    go_ret
    exact ⟨rfl, below_drewN (((Below.refl _ _).alloc (Nat.le_refl _) _).alloc (by simp) _) _⟩
  · subst h
    subst k
    obtain ⟨F1, g1⟩ : ∃ F, frameI b0_0 b1_0 = F := ⟨_, rfl⟩
    obtain ⟨F2, g2⟩ : ∃ F, frameI b0_0 b1_0 = F := ⟨_, rfl⟩
    obtain ⟨F3, g3⟩ : ∃ F, frameI b0_0 0 = F := ⟨_, rfl⟩
    obtain ⟨F4, g4⟩ : ∃ F, frameI b0_0 0 = F := ⟨_, rfl⟩
    have f1 : F1 ≤ F2 := by have := frameI_mono b0_0 b0_0 b1_0 b1_0 (by omega) (by omega); omega
    have f2 : b0_0 - b0_0 ≤ F3 - F4 := by have := frameI_more b0_0 b0_0 (by omega) (by omega) (by omega); omega
    have d1 : 32 ≤ F3 ∧ F3 ≤ 9000000000000000000 := by have := frameI_bd b0_0 0; omega
    have d2 : 32 ≤ F4 ∧ F4 ≤ 9000000000000000000 := by have := frameI_bd b0_0 0; omega
    obtain ⟨d1, d3⟩ := d1
    obtain ⟨d2, d4⟩ := d2
    have c1 := frame_at b0_0 b1_0 F1 g1 (by omega) (by omega) (by omega) (by omega)
    have c2 := frame_at b0_0 b1_0 F2 g2 (by omega) (by omega) (by omega) (by omega)
    have c3 := frame_at b0_0 0 F3 g3 (by omega) (by omega) (by omega) (by omega)
    have c4 := frame_at b0_0 0 F4 g4 (by omega) (by omega) (by omega) (by omega)
    have C1 := Lib.hid c1; have C2 := Lib.hid c2; have C3 := Lib.hid c3; have C4 := Lib.hid c4
    clear c1 c2 c3 c4 g1 g2 g3 g4
    go_enter Try.func10, Try.ntmps10
    go_wp2_with fail
    go_quiet (fail)
    go_wp2_with fail
    go_quiet (fail)
    go_wp2_with fail
    refine (C1.out _).mono ?_; rintro e w' ⟨rfl, rfl⟩
    go_wp2_with fail
    refine (C2.out _).mono ?_; rintro e w' ⟨rfl, rfl⟩
    go_wp2_with fail
    refine (C3.out _).mono ?_; rintro e w' ⟨rfl, rfl⟩
    go_wp2_with fail
    refine (C4.out _).mono ?_; rintro e w' ⟨rfl, rfl⟩
    go_wp2_with fail
    refine (awake38 _).mono ?_; rintro e w' ⟨rfl, rfl⟩
    go_wp2_with fail
    go_ret
    exact ⟨rfl, below_drewN (((Below.refl _ _).alloc (Nat.le_refl _) _).alloc (by simp) _) _⟩
  · subst h
    skip
    obtain ⟨F1, g1⟩ : ∃ F, frameI b0_0 b1_1 = F := ⟨_, rfl⟩
    obtain ⟨F2, g2⟩ : ∃ F, frameI b0_0 b1_0 = F := ⟨_, rfl⟩
    obtain ⟨F3, g3⟩ : ∃ F, frameI b0_0 0 = F := ⟨_, rfl⟩
    obtain ⟨F4, g4⟩ : ∃ F, frameI b0_0 0 = F := ⟨_, rfl⟩
    have f1 : F1 ≤ F2 := by have := frameI_mono b0_0 b0_0 b1_1 b1_0 (by omega) (by omega); omega
    have f2 : b0_0 - b0_0 ≤ F3 - F4 := by have := frameI_more b0_0 b0_0 (by omega) (by omega) (by omega); omega
    have d1 : 32 ≤ F3 ∧ F3 ≤ 9000000000000000000 := by have := frameI_bd b0_0 0; omega
    have d2 : 32 ≤ F4 ∧ F4 ≤ 9000000000000000000 := by have := frameI_bd b0_0 0; omega
    obtain ⟨d1, d3⟩ := d1
    obtain ⟨d2, d4⟩ := d2
    have c1 := frame_at b0_0 b1_1 F1 g1 (by omega) (by omega) (by omega) (by omega)
    have c2 := frame_at b0_0 b1_0 F2 g2 (by omega) (by omega) (by omega) (by omega)
    have c3 := frame_at b0_0 0 F3 g3 (by omega) (by omega) (by omega) (by omega)
    have c4 := frame_at b0_0 0 F4 g4 (by omega) (by omega) (by omega) (by omega)
    have C1 := Lib.hid c1; have C2 := Lib.hid c2; have C3 := Lib.hid c3; have C4 := Lib.hid c4
    clear c1 c2 c3 c4 g1 g2 g3 g4
    go_enter Try.func10, Try.ntmps10
    go_wp2_with fail
    go_quiet (fail)
    go_wp2_with fail
    go_quiet (fail)
    go_wp2_with fail
    refine (C1.out _).mono ?_; rintro e w' ⟨rfl, rfl⟩
    go_wp2_with fail
    refine (C2.out _).mono ?_; rintro e w' ⟨rfl, rfl⟩
    go_wp2_with fail
    refine (C3.out _).mono ?_; rintro e w' ⟨rfl, rfl⟩
    go_wp2_with fail
    refine (C4.out _).mono ?_; rintro e w' ⟨rfl, rfl⟩
    go_wp2_with fail
    refine (awake38 _).mono ?_; rintro e w' ⟨rfl, rfl⟩
    go_wp2_with fail
    go_ret
    exact ⟨rfl, below_drewN (((Below.refl _ _).alloc (Nat.le_refl _) _).alloc (by simp) _) _⟩
  · skip
    skip
    obtain ⟨F1, g1⟩ : ∃ F, frameI b0_1 b1_0 = F := ⟨_, rfl⟩
    obtain ⟨F2, g2⟩ : ∃ F, frameI b0_0 b1_1 = F := ⟨_, rfl⟩
    obtain ⟨F3, g3⟩ : ∃ F, frameI b0_0 0 = F := ⟨_, rfl⟩
    obtain ⟨F4, g4⟩ : ∃ F, frameI b0_1 0 = F := ⟨_, rfl⟩
    have f1 : F1 ≤ F2 := by have := frameI_mono b0_1 b0_0 b1_0 b1_1 (by omega) (by omega); omega
    have f2 : b0_0 - b0_1 ≤ F3 - F4 := by have := frameI_more b0_1 b0_0 (by omega) (by omega) (by omega); omega
    have d1 : 32 ≤ F3 ∧ F3 ≤ 9000000000000000000 := by have := frameI_bd b0_0 0; omega
    have d2 : 32 ≤ F4 ∧ F4 ≤ 9000000000000000000 := by have := frameI_bd b0_1 0; omega
    obtain ⟨d1, d3⟩ := d1
    obtain ⟨d2, d4⟩ := d2
    have c1 := frame_at b0_1 b1_0 F1 g1 (by omega) (by omega) (by omega) (by omega)
    have c2 := frame_at b0_0 b1_1 F2 g2 (by omega) (by omega) (by omega) (by omega)
    have c3 := frame_at b0_0 0 F3 g3 (by omega) (by omega) (by omega) (by omega)
    have c4 := frame_at b0_1 0 F4 g4 (by omega) (by omega) (by omega) (by omega)
    have C1 := Lib.hid c1; have C2 := Lib.hid c2; have C3 := Lib.hid c3; have C4 := Lib.hid c4
    clear c1 c2 c3 c4 g1 g2 g3 g4
    go_enter Try.func10, Try.ntmps10
    go_wp2_with fail
    go_quiet (fail)
    go_wp2_with fail
    go_quiet (fail)
    go_wp2_with fail
    refine (C1.out _).mono ?_; rintro e w' ⟨rfl, rfl⟩
    go_wp2_with fail
    refine (C2.out _).mono ?_; rintro e w' ⟨rfl, rfl⟩
    go_wp2_with fail
    refine (C3.out _).mono ?_; rintro e w' ⟨rfl, rfl⟩
    go_wp2_with fail
    refine (C4.out _).mono ?_; rintro e w' ⟨rfl, rfl⟩
    go_wp2_with fail
    refine (awake38 _).mono ?_; rintro e w' ⟨rfl, rfl⟩
    go_wp2_with fail
    go_ret
    exact ⟨rfl, below_drewN (((Below.refl _ _).alloc (Nat.le_refl _) _).alloc (by simp) _) _⟩
  · skip
    subst k
    obtain ⟨F1, g1⟩ : ∃ F, frameI b0_1 b1_0 = F := ⟨_, rfl⟩
    obtain ⟨F2, g2⟩ : ∃ F, frameI b0_0 b1_0 = F := ⟨_, rfl⟩
    obtain ⟨F3, g3⟩ : ∃ F, frameI b0_0 0 = F := ⟨_, rfl⟩
    obtain ⟨F4, g4⟩ : ∃ F, frameI b0_1 0 = F := ⟨_, rfl⟩
    have f1 : F1 ≤ F2 := by have := frameI_mono b0_1 b0_0 b1_0 b1_0 (by omega) (by omega); omega
    have f2 : b0_0 - b0_1 ≤ F3 - F4 := by have := frameI_more b0_1 b0_0 (by omega) (by omega) (by omega); omega
    have d1 : 32 ≤ F3 ∧ F3 ≤ 9000000000000000000 := by have := frameI_bd b0_0 0; omega
    have d2 : 32 ≤ F4 ∧ F4 ≤ 9000000000000000000 := by have := frameI_bd b0_1 0; omega
    obtain ⟨d1, d3⟩ := d1
    obtain ⟨d2, d4⟩ := d2
    have c1 := frame_at b0_1 b1_0 F1 g1 (by omega) (by omega) (by omega) (by omega)
    have c2 := frame_at b0_0 b1_0 F2 g2 (by omega) (by omega) (by omega) (by omega)
    have c3 := frame_at b0_0 0 F3 g3 (by omega) (by omega) (by omega) (by omega)
    have c4 := frame_at b0_1 0 F4 g4 (by omega) (by omega) (by omega) (by omega)
    have C1 := Lib.hid c1; have C2 := Lib.hid c2; have C3 := Lib.hid c3; have C4 := Lib.hid c4
    clear c1 c2 c3 c4 g1 g2 g3 g4
    go_enter Try.func10, Try.ntmps10
    go_wp2_with fail
    go_quiet (fail)
    go_wp2_with fail
    go_quiet (fail)
    go_wp2_with fail
    refine (C1.out _).mono ?_; rintro e w' ⟨rfl, rfl⟩
    go_wp2_with fail
    refine (C2.out _).mono ?_; rintro e w' ⟨rfl, rfl⟩
    go_wp2_with fail
    refine (C3.out _).mono ?_; rintro e w' ⟨rfl, rfl⟩
    go_wp2_with fail
    refine (C4.out _).mono ?_; rintro e w' ⟨rfl, rfl⟩
    go_wp2_with fail
    refine (awake38 _).mono ?_; rintro e w' ⟨rfl, rfl⟩
    go_wp2_with fail
    go_ret
    exact ⟨rfl, below_drewN (((Below.refl _ _).alloc (Nat.le_refl _) _).alloc (by simp) _) _⟩
  · skip
    skip
    obtain ⟨F1, g1⟩ : ∃ F, frameI b0_1 b1_1 = F := ⟨_, rfl⟩
    obtain ⟨F2, g2⟩ : ∃ F, frameI b0_0 b1_0 = F := ⟨_, rfl⟩
    obtain ⟨F3, g3⟩ : ∃ F, frameI b0_0 0 = F := ⟨_, rfl⟩
    obtain ⟨F4, g4⟩ : ∃ F, frameI b0_1 0 = F := ⟨_, rfl⟩
    have f1 : F1 ≤ F2 := by have := frameI_mono b0_1 b0_0 b1_1 b1_0 (by omega) (by omega); omega
    have f2 : b0_0 - b0_1 ≤ F3 - F4 := by have := frameI_more b0_1 b0_0 (by omega) (by omega) (by omega); omega
    have d1 : 32 ≤ F3 ∧ F3 ≤ 9000000000000000000 := by have := frameI_bd b0_0 0; omega
    have d2 : 32 ≤ F4 ∧ F4 ≤ 9000000000000000000 := by have := frameI_bd b0_1 0; omega
    obtain ⟨d1, d3⟩ := d1
    obtain ⟨d2, d4⟩ := d2
    have c1 := frame_at b0_1 b1_1 F1 g1 (by omega) (by omega) (by omega) (by omega)
    have c2 := frame_at b0_0 b1_0 F2 g2 (by omega) (by omega) (by omega) (by omega)
    have c3 := frame_at b0_0 0 F3 g3 (by omega) (by omega) (by omega) (by omega)
    have c4 := frame_at b0_1 0 F4 g4 (by omega) (by omega) (by omega) (by omega)
    have C1 := Lib.hid c1; have C2 := Lib.hid c2; have C3 := Lib.hid c3; have C4 := Lib.hid c4
    clear c1 c2 c3 c4 g1 g2 g3 g4
    go_enter Try.func10, Try.ntmps10
    go_wp2_with fail
    go_quiet (fail)
    go_wp2_with fail
    go_quiet (fail)
    go_wp2_with fail
    refine (C1.out _).mono ?_; rintro e w' ⟨rfl, rfl⟩
    go_wp2_with fail
    refine (C2.out _).mono ?_; rintro e w' ⟨rfl, rfl⟩
    go_wp2_with fail
    refine (C3.out _).mono ?_; rintro e w' ⟨rfl, rfl⟩
    go_wp2_with fail
    refine (C4.out _).mono ?_; rintro e w' ⟨rfl, rfl⟩
    go_wp2_with fail
    refine (awake38 _).mono ?_; rintro e w' ⟨rfl, rfl⟩
    go_wp2_with fail
    go_ret
    exact ⟨rfl, below_drewN (((Below.refl _ _).alloc (Nat.le_refl _) _).alloc (by simp) _) _⟩

theorem lifted (os : Os) (started : os.Started) (H : Type) (enc : TypeId × Value → H) :
    ReturnsInHanded {} Try.checked os 10 .any (Rows.boundRisesSpec.pre6 enc Try.prog Try.f10 Rows.boundRisesRow.domain false) (Rows.boundRisesSpec.post enc Try.prog Try.f10 false true false false) := by
  refine returnsInHanded_of_change (C := Try.checked) own started (by kernel_rfl) Try.func10
    (ChangeSpec.witness6 (enc := enc) (C := Try.checked) false ⟨#[], #[.agg #[.int .u32 0, .int .u32 0], .agg #[.int .u16 0, .int .u16 0]], []⟩ 8 (by kernel_rfl) (by kernel_rfl) (by kernel_rfl) (by kernel_rfl)) ?_
  intro W base args ds gs before hval0 hW hcnd _
  have hval : ∀ (j : Nat) t v, Try.f10.params[j]? = some t → args[j]? = some v → Value.okWide Try.prog W .any base t v := hval0
  have hW' := hW
  obtain ⟨p, q, hA0, hV, rfl, hfz, hnd⟩ := hW
  have hA : DataW.TrodAll enc Try.prog W 0 (fun _ => true) true Try.f10.params.toList args.toList ds p := hA0
  rw [Try.params10] at hA hval
  obtain ⟨v0, vs0, d0, ds0, p0, q0, hargs, rfl, rfl, h0, r0⟩ := trodAll_cons hA
  obtain ⟨v1, vs1, d1, ds1, p1, q1, rfl, rfl, rfl, h1, r1⟩ := trodAll_cons r0
  obtain ⟨rfl, rfl, rfl⟩ := trodAll_nil r1
  obtain rfl : args = #[v0, v1] := by cases args; simp_all
  obtain ⟨rfl, rfl⟩ := trodVars_none hV
  have k0 := h0
  have lt0 : ∀ x ∈ p0, x.block < W.heap.size := by obtain ⟨m, hm⟩ := k0; exact DataW.trod_lt m _ _ _ hm
  obtain ⟨l, rfl, hl, hcs⟩ := agg_array Try.underlying45 (by kernel_rfl) (by kernel_rfl) (hval 0 45 v0 rfl rfl) h0
  obtain ⟨x0, x1, rfl⟩ := len2 l hl
  obtain ⟨n0, c, y, hc, hy⟩ := hcs 0 (by decide)
  simp only [List.getElem?_cons_zero, Option.some.injEq] at hc
  subst hc
  obtain ⟨b0_0, hc, -, w0_0⟩ := DataW.trod_int Try.underlying22 hy
  simp only [List.cons.injEq, and_true] at hc
  subst hc
  clear hy
  obtain ⟨n1, c, y, hc, hy⟩ := hcs 1 (by decide)
  simp only [List.getElem?_cons_zero, List.getElem?_cons_succ, Option.some.injEq] at hc
  subst hc
  obtain ⟨b0_1, hc, -, w0_1⟩ := DataW.trod_int Try.underlying22 hy
  simp only [List.cons.injEq, and_true] at hc
  subst hc
  clear hy
  clear hl hcs
  have k1 := h1
  have lt1 : ∀ x ∈ p1, x.block < W.heap.size := by obtain ⟨m, hm⟩ := k1; exact DataW.trod_lt m _ _ _ hm
  obtain ⟨l, rfl, hl, hcs⟩ := agg_array Try.underlying46 (by kernel_rfl) (by kernel_rfl) (hval 1 46 v1 rfl rfl) h1
  obtain ⟨x0, x1, rfl⟩ := len2 l hl
  obtain ⟨n0, c, y, hc, hy⟩ := hcs 0 (by decide)
  simp only [List.getElem?_cons_zero, Option.some.injEq] at hc
  subst hc
  obtain ⟨b1_0, hc, -, w1_0⟩ := DataW.trod_int Try.underlying28 hy
  simp only [List.cons.injEq, and_true] at hc
  subst hc
  clear hy
  obtain ⟨n1, c, y, hc, hy⟩ := hcs 1 (by decide)
  simp only [List.getElem?_cons_zero, List.getElem?_cons_succ, Option.some.injEq] at hc
  subst hc
  obtain ⟨b1_1, hc, -, w1_1⟩ := DataW.trod_int Try.underlying28 hy
  simp only [List.cons.injEq, and_true] at hc
  subst hc
  clear hy
  clear hl hcs
  clear hA0 hval0
  refine (walk b0_0 b0_1 b1_0 b1_1 W w0_0 w0_1 w1_0 w1_1).mono fun e W' ⟨he, bel⟩ => ?_
  subst he
  exact ⟨_, rfl, _, _, _, [], _, [], hW', trodAll_mk1 (shut_bool Try.underlying4 _), (trodAll_cons_mk (Below.trod laidOut (by kernel_rfl) (of_decide_eq_true (by kernel_rfl)) k0 bel lt0) (trodAll_cons_mk (Below.trod laidOut (by kernel_rfl) (of_decide_eq_true (by kernel_rfl)) k1 bel lt1) trodAll_mk0)), rfl, bel.frame _, fun h => by cases h⟩

theorem over : Rows.boundRisesRow.holds Try.pinned (OpenSpec.ofChange Rows.boundRisesSpec) :=
  OpenClaim.holds_of_wide 10 Try.f10 rfl rfl rfl rfl rfl rfl rfl ⟨rfl, rfl, rfl, rfl, rfl⟩ rfl rfl rfl rfl rfl (by kernel_rfl) Try.func10 (by kernel_rfl)
    (of_decide_eq_true (by kernel_rfl)) (by unfold Func.isWrapper; first | (rw [if_pos (by decide +kernel)]; kernel_rfl) | (rw [if_neg (by decide +kernel)]; exact ⟨rfl, rfl⟩))
    (fun os started H enc _ => lifted os started H enc)

theorem proved : Rows.BoundRisesSaid := over
#print axioms proved
end Go.Proofs.Ytfemcehglolnjaa.boundRises
