/- Layer 2's awake, and readers that are none. -/
import Derived.Test.YtnpbjnhjgoafpaaBs
namespace Go.Proofs.Ytnpbjnhjgoafpaa
open Go.ChangeShapes Go.WideShapes Go.ChangeAt Go.RowKit
set_option linter.unusedVariables false
set_option maxRecDepth 100000
open Bits

theorem rAlignIn (w : World) (g a : Nat) (s : List UInt8) (h : IsReader w g s a) : Calls Try.prog 33 #[.pointer (some ⟨g, 0, none⟩)] w fun e w' =>
    e = .returned (.int .i64 (lack a)) ∧ IsReader w' g s (a + lack a) ∧ Keeps (fun k => k = g) w w' ∧ w'.heap.size = w.heap.size := by
  have hl : a + lack a ≤ 8 * s.length := by obtain ⟨_, _, _, _, ha, _⟩ := h; unfold lack; omega
  have Q := Lib.hid (rMove w g a (lack a) s h hl)
  obtain ⟨p, L, C, hg, ha, hL, hC, hm, hs, hp⟩ := h
  have c1 := cell_in hg 1
  simp at c1
  have HE : Hid (-((a : Int) % 8) % 8 = ((lack a : Nat) : Int)) := by show _ = _; unfold lack; omega
  clear hl hg ha hL hC hm hs hp
  have b1 : 0 ≤ (a : Int) % 8 := by omega
  have b2 : (a : Int) % 8 ≤ 7 := by omega
  go_enter Try.func33, Try.ntmps33
  go_wp2_with fail
  rw [HE.out]
  refine Q.out.mono ?_; rintro e w1 ⟨rfl, hr, hk, hz⟩
  go_wp2_with fail
  go_ret
  exact ⟨ret_i HE.out, hr, hk, hz⟩
theorem rAlignNone (w : World) : Calls Try.prog 33 #[.pointer none] w fun e w' => e = .returned (.int .i64 0) ∧ w' = w := by
  go_enter Try.func33, Try.ntmps33
  go_wp2
  go_ret
  exact ⟨rfl, rfl⟩
theorem rAtNone (w : World) : Calls Try.prog 28 #[.pointer none] w fun e w' => e = .returned (.int .i64 0) ∧ w' = w := by
  go_enter Try.func28, Try.ntmps28
  go_wp2
  go_ret
  exact ⟨rfl, rfl⟩
theorem rLeftNone (w : World) : Calls Try.prog 29 #[.pointer none] w fun e w' => e = .returned (.int .i64 0) ∧ w' = w := by
  go_enter Try.func29, Try.ntmps29
  go_wp2
  go_ret
  exact ⟨rfl, rfl⟩
theorem rTakeNone (n : Int) (w : World) : Calls Try.prog 31 #[.pointer none, .int .i64 n] w fun e w' => e = .returned (.tuple #[.int .u64 0, .int .i64 1]) ∧ ∃ k, w' = w.drewN k :=
  rTakeOut w none n 1 ((rMayNone n w).mono fun e w' ⟨h1, h2⟩ => ⟨h1, 0, h2⟩) (by decide)
theorem rSkipNone (n : Int) (w : World) : Calls Try.prog 32 #[.pointer none, .int .i64 n] w fun e w' => e = .returned (.int .i64 1) ∧ ∃ k, w' = w.drewN k :=
  rSkipOut w none n 1 ((rMayNone n w).mono fun e w' ⟨h1, h2⟩ => ⟨h1, 0, h2⟩) (by decide)
def five : ByteArray := ⟨#[5]⟩
set_option maxHeartbeats 1600000 in
theorem awake02 (w : World) : Calls Try.prog 24 #[] w fun e w' => e = .returned (.bool true) ∧ Below w.heap.size w w' := by
  have hg0 : w.heap.size ≤ w.heap.size + 1 := by omega
  go_enter Try.func24, Try.ntmps24
  go_wp2_with fail
  refine (rNew ⟨#[5]⟩ (by decide) _).mono ?_; rintro e w1 ⟨rfl, hr1, hb1, hz1⟩
  go_wp2_with fail
  refine (rTakeIn _ _ 0 1 _ hr1 (by decide) (by decide)).mono ?_; rintro e w2 ⟨rfl, hr2, hk2, hz2⟩
  have hb2 := below_keeps hb1 hk2 hg0; clear hb1 hk2 hr1
  rw [show peek ((spread (⟨#[5]⟩ : ByteArray).data.toList).drop 0) 1 = 1 from by decide]
  go_wp2_with fail
  refine (rTakeIn _ _ 1 2 _ hr2 (by decide) (by decide)).mono ?_; rintro e w3 ⟨rfl, hr3, hk3, hz3⟩
  have hb3 := below_keeps hb2 hk3 hg0; clear hb2 hk3 hr2
  rw [show peek ((spread (⟨#[5]⟩ : ByteArray).data.toList).drop 1) 2 = 2 from by decide]
  go_wp2_with fail
  refine (rPeek _ _ 3 9 _ hr3 (by decide)).mono ?_; rintro e w4 ⟨rfl, k4, rfl⟩
  rw [show peek ((spread (⟨#[5]⟩ : ByteArray).data.toList).drop 3) 9 = 0 from by decide]
  go_wp2_with fail
  refine (rTakeOut _ _ 9 3 (rMayShort _ _ 3 9 _ (hr3.drewN k4) (by decide) (by decide)) (by decide)).mono ?_; rintro e w5 ⟨rfl, k5, rfl⟩
  go_wp2_with fail
  refine (rAlignIn _ _ 3 _ (hr3.drewN _)).mono ?_; rintro e w6 ⟨rfl, hr6, hk6, hz6⟩
  have hb6 := below_keeps (below_drewN hb3 _) hk6 hg0; clear hb3 hk6 hr3
  rw [show lack 3 = 5 from by decide] at *
  go_wp2_with fail
  refine (rAt _ _ 8 _ hr6).mono ?_; rintro e w7 ⟨rfl, rfl⟩
  go_wp2_with fail
  refine (rLeft _ _ 8 _ hr6).mono ?_; rintro e w8 ⟨rfl, k8, rfl⟩
  rw [show 8 * (⟨#[5]⟩ : ByteArray).data.toList.length - 8 = 0 from by decide]
  go_wp2_with fail
  refine (rSkipOut _ _ 57 2 ((rMayOut _ 57 (by omega) _).mono fun e w' ⟨h1, h2⟩ => ⟨h1, 0, h2⟩) (by decide)).mono ?_; rintro e w9 ⟨rfl, k9, rfl⟩
  go_wp2_with fail
  go_ret
  exact ⟨rfl, below_drewN hb6 _⟩
end Go.Proofs.Ytnpbjnhjgoafpaa
