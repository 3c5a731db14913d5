/- Layer 31, the document's ReadBlock, whole. -/
import Derived.Test.YtekageibffhloaaH4
import Derived.Deep.CutRange
namespace Go.Proofs.Ytekageibffhloaa
open Go.ChangeShapes Go.WideShapes Go.ChangeAt Go.RowKit
set_option linter.unusedVariables false
set_option maxRecDepth 100000
theorem step1c {w a : World} {o p : Obj} (h : Below (((w.alloc o).alloc p).drew).heap.size (((w.alloc o).alloc p).drew) a) : Below w.heap.size w a :=
  ((((Below.refl _ _).alloc (Nat.le_refl _) o).alloc (by simp) p).drew).trans (h.mono (by simp; omega))
set_option maxHeartbeats 3200000 in
theorem dReadBIn (a b c d f : UInt8) (A B C D F : Nat) (hA : a.toNat = A) (hB : b.toNat = B) (hC : c.toNat = C) (hD : d.toNat = D) (hF : f.toNat = F) (t : List UInt8) (ht : t.length ≤ 1000) (h : 1 ≤ A ∧ A ≤ 2) (M : Bool) (hM : mayB A ((B : Int) + C * 256 + 1) ((D : Int) + F * 256 + 1) = M) (w : World) :
    Calls Try.prog 43 #[.string (sB (a :: b :: c :: d :: f :: t))] w fun e w' => e = .returned (if M then .tuple #[bV A ((B : Int) + C * 256 + 1) ((D : Int) + F * 256 + 1), .string (sB t), .int .i64 0] else .tuple #[bV 0 0 0, .string (sB []), .int .i64 16]) ∧ Below w.heap.size w w' := by
  have CM := Lib.hid (fun W => (dMay A ((B : Int) + C * 256 + 1) ((D : Int) + F * 256 + 1) W).mono (R' := fun e w' => e = .returned (.bool M) ∧ Below W.heap.size W w') (by rintro e w' ⟨h', rfl⟩; exact ⟨by rw [h', hM], by go_grown⟩))
  have N1 : Hid (∀ W, Calls Try.prog 72 #[.string ((sB (a :: b :: c :: d :: f :: t)).extract 1 3)] W fun e w' => e = .returned (.int .i64 ((B : Int) + C * 256)) ∧ w' = W) := Lib.hid (fun W => by
    have := dNumber [b, c] (by simp) W
    rw [show ((num [b, c] : Nat) : Int) = (B : Int) + C * 256 by simp [num, hB, hC]; omega] at this
    rw [sB_cut]; exact this)
  have N2 : Hid (∀ W, Calls Try.prog 72 #[.string ((sB (a :: b :: c :: d :: f :: t)).extract 3 5)] W fun e w' => e = .returned (.int .i64 ((D : Int) + F * 256)) ∧ w' = W) := Lib.hid (fun W => by
    have := dNumber [d, f] (by simp) W
    rw [show ((num [d, f] : Nat) : Int) = (D : Int) + F * 256 by simp [num, hD, hF]; omega] at this
    rw [sB_cut]; exact this)
  have hm : (sB (a :: b :: c :: d :: f :: t)).size ≤ 2000 := by rw [sB_size]; simp; omega
  have h5 : 5 ≤ (sB (a :: b :: c :: d :: f :: t)).size := by rw [sB_size]; simp
  have q0 : 0 < (sB (a :: b :: c :: d :: f :: t)).size := by omega
  have q1 : 1 < (sB (a :: b :: c :: d :: f :: t)).size := by omega
  have q2 : 2 < (sB (a :: b :: c :: d :: f :: t)).size := by omega
  have q3 : 3 < (sB (a :: b :: c :: d :: f :: t)).size := by omega
  have q4 : 4 < (sB (a :: b :: c :: d :: f :: t)).size := by omega
  have q5 : decide (((sB (a :: b :: c :: d :: f :: t)).size : Int) < 5) = false := by simp; omega
  have q6 : ¬ (sB (a :: b :: c :: d :: f :: t)).size < 5 := by omega
  have hz : ((sB (a :: b :: c :: d :: f :: t)).size : Int) ≠ 0 := by omega
  have hzb : (((sB (a :: b :: c :: d :: f :: t)).size : Int) == 0) = false := by rw [beq_eq_false_iff_ne]; exact hz
  have hne := sB_ne a (b :: c :: d :: f :: t)
  have HT := Lib.hid (sB_drop (a :: b :: c :: d :: f :: t) 5)
  have HC13 := Lib.hid (sB_cut (a :: b :: c :: d :: f :: t) 1 3)
  have HC35 := Lib.hid (sB_cut (a :: b :: c :: d :: f :: t) 3 5)
  have g0 : ((sB (a :: b :: c :: d :: f :: t))[0]'q0).toNat = A := by rw [sB_get _ 0 (by simp) q0, ← hA]; rfl
  have g1 : ((sB (a :: b :: c :: d :: f :: t))[1]'q1).toNat = B := by rw [sB_get _ 1 (by simp) q1, ← hB]; rfl
  have g2 : ((sB (a :: b :: c :: d :: f :: t))[2]'q2).toNat = C := by rw [sB_get _ 2 (by simp) q2, ← hC]; rfl
  have g3 : ((sB (a :: b :: c :: d :: f :: t))[3]'q3).toNat = D := by rw [sB_get _ 3 (by simp) q3, ← hD]; rfl
  have g4 : ((sB (a :: b :: c :: d :: f :: t))[4]'q4).toNat = F := by rw [sB_get _ 4 (by simp) q4, ← hF]; rfl
  have hB8 : B < 256 := by rw [← hB]; exact b.toNat_lt
  have hC8 : C < 256 := by rw [← hC]; exact c.toNat_lt
  have hD8 : D < 256 := by rw [← hD]; exact d.toNat_lt
  have hF8 : F < 256 := by rw [← hF]; exact f.toNat_lt
  rw [show (a :: b :: c :: d :: f :: t).drop 5 = t from rfl] at HT
  rw [show (((a :: b :: c :: d :: f :: t).take 3).drop 1) = [b, c] from rfl] at HC13
  rw [show (((a :: b :: c :: d :: f :: t).take 5).drop 3) = [d, f] from rfl] at HC35
  obtain ⟨k1, k2⟩ := h
  have k0 : ((A : Int) == 0) = false := by rw [beq_eq_false_iff_ne]; omega
  have k3 : decide (2 < (A : Int)) = false := by simp; omega
  have k3b : ¬ 2 < A := by omega
  have k4 : ¬ (A : Int) = 0 := by omega
  have w1 : IntKind.i64.wrap (B : Int) = B := IntWalk.i64_in _ (by omega)
  have w2 : IntKind.i64.wrap (C : Int) = C := IntWalk.i64_in _ (by omega)
  have w3 : IntKind.i64.wrap (D : Int) = D := IntWalk.i64_in _ (by omega)
  have w4 : IntKind.i64.wrap (F : Int) = F := IntWalk.i64_in _ (by omega)
  have w5 : IntKind.i64.wrap ((C : Int) * 256) = (C : Int) * 256 := IntWalk.i64_in _ (by omega)
  have w6 : IntKind.i64.wrap ((F : Int) * 256) = (F : Int) * 256 := IntWalk.i64_in _ (by omega)
  have w7 : IntKind.i64.wrap ((B : Int) + C * 256) = (B : Int) + C * 256 := IntWalk.i64_in _ (by omega)
  have w8 : IntKind.i64.wrap ((D : Int) + F * 256) = (D : Int) + F * 256 := IntWalk.i64_in _ (by omega)
  have w9 : IntKind.i64.wrap ((B : Int) + C * 256 + 1) = (B : Int) + C * 256 + 1 := IntWalk.i64_in _ (by omega)
  have w10 : IntKind.i64.wrap ((D : Int) + F * 256 + 1) = (D : Int) + F * 256 + 1 := IntWalk.i64_in _ (by omega)
  have hA0 : ¬ A = 0 := by omega
  have s3 : 3 ≤ (sB (a :: b :: c :: d :: f :: t)).size := by omega
  have s5 : 5 ≤ (sB (a :: b :: c :: d :: f :: t)).size := by omega
  have s3i : (3 : Int) ≤ ((sB (a :: b :: c :: d :: f :: t)).size : Int) := by omega
  have s5i : (5 : Int) ≤ ((sB (a :: b :: c :: d :: f :: t)).size : Int) := by omega
  have w0 : IntKind.i64.wrap (A : Int) = A := IntWalk.i64_in _ (by omega)
  obtain ⟨S, hS⟩ : ∃ S, sB (a :: b :: c :: d :: f :: t) = S := ⟨_, rfl⟩
  simp only [hS] at *
  clear hS hA hB hC hD hF ht hM
  go_enter Try.func43, Try.ntmps43
  go_wp2_with fail
  go_cut [5] from 24 (fun s5 wc => s5 = .pointer (some ⟨w.heap.size + 1, 0, none⟩) ∧ wc = ((w.alloc (.cells #[.int .i64 0, .int .i64 0, .int .i64 0] 55)).alloc (.cells #[.int .i64 A, .int .i64 ((B : Int) + C * 256 + 1), .int .i64 ((D : Int) + F * 256 + 1)] 55)).drew)
  case first =>
    go_region_with (first | (go_at_call 72; (with_reducible refine (N1.out _).mono ?_); rintro e w3 ⟨rfl, rfl⟩) | (go_at_call 72; (with_reducible refine (N2.out _).mono ?_); rintro e w3 ⟨rfl, rfl⟩))
    all_goals
      go_wp2_with fail
      go_meet
      case rel => exact ⟨rfl, rfl⟩
  case rest =>
    obtain ⟨rfl, rfl⟩ := hcut
    clear w0 w1 w2 w3 w4 w5 w6 w7 w8 w9 w10
    go_wp2_with fail
    refine (CM.out _).mono ?_; rintro e w1 ⟨rfl, hb⟩
    have hh : w1.heap[w.heap.size]? = some (.cells #[.int .i64 0, .int .i64 0, .int .i64 0] 55 (0, 0)) := (hb.block _ (by simp; omega)).trans (heap_two_first w _ _)
    obtain ⟨hc, hf⟩ := bcell hb
    have HB := Lib.hid (step1c hb)
    have hz1 := hb.size
    simp at hz1
    have HH := Lib.hid hh
    clear hb hh
    cases M with
    | true =>
      go_wp2_with fail
      go_region
      go_wp2_with fail
      have h3 := block_set (block_set (block_set HH.out 0 (.int .i64 A)) 1 (.int .i64 ((B : Int) + C * 256 + 1))) 2 (.int .i64 ((D : Int) + F * 256 + 1))
      have z0 : ((((w1.setCell ⟨w.heap.size, 0, none⟩ (.int .i64 A)).setCell ⟨w.heap.size, 1, none⟩ (.int .i64 ((B : Int) + C * 256 + 1))).setCell ⟨w.heap.size, 2, none⟩ (.int .i64 ((D : Int) + F * 256 + 1))).drew).cell? ⟨w.heap.size, 0, none⟩ = some (.int .i64 A) := cell_lit h3 0 _ rfl
      have z1 : ((((w1.setCell ⟨w.heap.size, 0, none⟩ (.int .i64 A)).setCell ⟨w.heap.size, 1, none⟩ (.int .i64 ((B : Int) + C * 256 + 1))).setCell ⟨w.heap.size, 2, none⟩ (.int .i64 ((D : Int) + F * 256 + 1))).drew).cell? ⟨w.heap.size, 1, none⟩ = some (.int .i64 ((B : Int) + C * 256 + 1)) := cell_lit h3 1 _ rfl
      have z2 : ((((w1.setCell ⟨w.heap.size, 0, none⟩ (.int .i64 A)).setCell ⟨w.heap.size, 1, none⟩ (.int .i64 ((B : Int) + C * 256 + 1))).setCell ⟨w.heap.size, 2, none⟩ (.int .i64 ((D : Int) + F * 256 + 1))).drew).cell? ⟨w.heap.size, 2, none⟩ = some (.int .i64 ((D : Int) + F * 256 + 1)) := cell_lit h3 2 _ rfl
      have hbe : Below w.heap.size w ((((w1.setCell ⟨w.heap.size, 0, none⟩ (.int .i64 A)).setCell ⟨w.heap.size, 1, none⟩ (.int .i64 ((B : Int) + C * 256 + 1))).setCell ⟨w.heap.size, 2, none⟩ (.int .i64 ((D : Int) + F * 256 + 1))).drew) := by
        have := ((HB.out.setCell (p := ⟨w.heap.size, 0, none⟩) (Nat.le_refl _) (.int .i64 A)).setCell (p := ⟨w.heap.size, 1, none⟩) (Nat.le_refl _) (.int .i64 ((B : Int) + C * 256 + 1))).setCell (p := ⟨w.heap.size, 2, none⟩) (Nat.le_refl _) (.int .i64 ((D : Int) + F * 256 + 1))
        first | exact this | exact this.drew
      clear h3 hc hf
      revert z0 z1 z2 hbe
      generalize ((((w1.setCell ⟨w.heap.size, 0, none⟩ (.int .i64 A)).setCell ⟨w.heap.size, 1, none⟩ (.int .i64 ((B : Int) + C * 256 + 1))).setCell ⟨w.heap.size, 2, none⟩ (.int .i64 ((D : Int) + F * 256 + 1))).drew) = X
      intro z0 z1 z2 hbe
      exact bodyPost_ret (v := .tuple #[bV A ((B : Int) + C * 256 + 1) ((D : Int) + F * 256 + 1), .string (S.extract 5 S.size), .int .i64 0]) (by simp [results, Try.results43, go_sem, z0, z1, z2]) rfl ⟨by rw [HT.out], hbe⟩
    | false =>
      go_wp2_with fail
      have h3 := block_set (block_set (block_set HH.out 0 (.int .i64 0)) 1 (.int .i64 0)) 2 (.int .i64 0)
      have z0 : ((((w1.setCell ⟨w.heap.size, 0, none⟩ (.int .i64 0)).setCell ⟨w.heap.size, 1, none⟩ (.int .i64 0)).setCell ⟨w.heap.size, 2, none⟩ (.int .i64 0))).cell? ⟨w.heap.size, 0, none⟩ = some (.int .i64 0) := cell_lit h3 0 _ rfl
      have z1 : ((((w1.setCell ⟨w.heap.size, 0, none⟩ (.int .i64 0)).setCell ⟨w.heap.size, 1, none⟩ (.int .i64 0)).setCell ⟨w.heap.size, 2, none⟩ (.int .i64 0))).cell? ⟨w.heap.size, 1, none⟩ = some (.int .i64 0) := cell_lit h3 1 _ rfl
      have z2 : ((((w1.setCell ⟨w.heap.size, 0, none⟩ (.int .i64 0)).setCell ⟨w.heap.size, 1, none⟩ (.int .i64 0)).setCell ⟨w.heap.size, 2, none⟩ (.int .i64 0))).cell? ⟨w.heap.size, 2, none⟩ = some (.int .i64 0) := cell_lit h3 2 _ rfl
      have hbe : Below w.heap.size w ((((w1.setCell ⟨w.heap.size, 0, none⟩ (.int .i64 0)).setCell ⟨w.heap.size, 1, none⟩ (.int .i64 0)).setCell ⟨w.heap.size, 2, none⟩ (.int .i64 0))) := by
        have := ((HB.out.setCell (p := ⟨w.heap.size, 0, none⟩) (Nat.le_refl _) (.int .i64 0)).setCell (p := ⟨w.heap.size, 1, none⟩) (Nat.le_refl _) (.int .i64 0)).setCell (p := ⟨w.heap.size, 2, none⟩) (Nat.le_refl _) (.int .i64 0)
        first | exact this | exact this.drew
      clear h3 hc hf
      revert z0 z1 z2 hbe
      generalize ((((w1.setCell ⟨w.heap.size, 0, none⟩ (.int .i64 0)).setCell ⟨w.heap.size, 1, none⟩ (.int .i64 0)).setCell ⟨w.heap.size, 2, none⟩ (.int .i64 0))) = X
      intro z0 z1 z2 hbe
      exact bodyPost_ret (v := .tuple #[bV 0 0 0, .string ⟨#[]⟩, .int .i64 16]) (by simp [results, Try.results43, go_sem, z0, z1, z2]) rfl ⟨rfl, hbe⟩
end Go.Proofs.Ytekageibffhloaa
