/- Layer 11: fill of a part of a table: its contract. -/
import Derived.Test.YtbdhfmoididkgaaAL2
namespace Go.Proofs.Ytbdhfmoididkgaa
open Go.ChangeShapes Go.WideShapes Go.ChangeAt Go.RowKit
set_option linter.unusedVariables false
set_option linter.unusedSimpArgs false
set_option maxRecDepth 100000
open Two
set_option maxHeartbeats 4000000 in
theorem tFill (w : World) (B g b o N c T n L C : Nat) (E : Ent) (tab : List Ent) (h : OwnT B w (.slice (some ⟨g, 0, none⟩) L C) tab) (ho : o = b * 4) (hb : b + N ≤ tab.length) (hN : N ≤ 32768) (hn : n ≤ 15) (hT : T < 2 ^ n) :
    Calls Try.prog 33 #[.slice (some ⟨g, o, none⟩) N c, .int .i64 T, .int .i64 n, .agg #[.int .i32 E.1, .int .i16 E.2.1, .bool E.2.2.1, .int .i32 E.2.2.2]] w fun e w' => e = .returned (.tuple #[]) ∧ OwnT B w' (.slice (some ⟨g, 0, none⟩) L C) (segF tab b N T (2 ^ n) E) ∧ Keeps (fun j => j = g) w w' := by
  subst ho
  have hq0 : 0 < 2 ^ n := Nat.pow_pos (by decide)
  have hq1 : 2 ^ n ≤ 2 ^ 15 := Nat.pow_le_pow_right (by decide) hn
  have hW : wrap64 ((2 : Int) ^ n) = ((2 ^ n : Nat) : Int) := by
    have e1 : (2 : Int) ^ n = ((2 ^ n : Nat) : Int) := by simp
    rw [e1]; unfold wrap64; generalize 2 ^ n = q at *; omega
  obtain ⟨q, hq⟩ : ∃ q, 2 ^ n = q := ⟨_, rfl⟩
  rw [hq] at hq0 hq1 hW hT
  have HQ := Lib.hid hq
  obtain ⟨E1, E2, E3, E4⟩ := E
  have HST := Lib.hid (fun i hi hlt => segTo_step tab b N T q i ((E1, E2, E3, E4) : Ent) hq0 hi hlt hb)
  have HS0 := Lib.hid (segTo_start tab b N T q ((E1, E2, E3, E4) : Ent) hT)
  have HFL := Lib.hid (fun i => segTo_len tab b N T q i ((E1, E2, E3, E4) : Ent))
  have HSE := Lib.hid (fun i => segTo_end tab b N T q i ((E1, E2, E3, E4) : Ent))
  have HLT := Lib.hid hb
  have HT0 := Lib.hid h
  clear hq h hb
  go_enter Try.func33, Try.ntmps33
  go_wp2_with fail
  obtain ⟨W, hWW⟩ : ∃ W, w.alloc (.cells #[.int .i32 E1, .int .i16 E2, .bool E3, .int .i32 E4] 56) = W := ⟨_, rfl⟩
  obtain ⟨gb, hgb⟩ : ∃ gb, w.heap.size = gb := ⟨_, rfl⟩
  have hbox : W.heap[gb]? = some (.cells #[.int .i32 E1, .int .i16 E2, .bool E3, .int .i32 E4] 56 (0, 0)) := by rw [← hWW, ← hgb]; exact heap_alloc_new _ _
  have HT1 := Lib.hid (show OwnT B W (.slice (some ⟨g, 0, none⟩) L C) tab by rw [← hWW]; exact HT0.out.alloc _)
  have HK1 := Lib.hid (show Keeps (fun j => j = g) w W by rw [← hWW]; exact (Keeps.refl _ w).alloc _)
  have hge : g < gb := by rw [← hgb]; exact (World.ownsRow.lt HT0.out g rfl).2
  rw [hWW, hgb]
  clear hWW hgb HT0
  have HBX := Lib.hid hbox
  clear hbox
  go_loopw [8] (fun iv wr => ∃ i : Nat, iv = .int .i64 i ∧ i % q = T ∧ i ≤ N + q ∧ Hid (OwnT B wr (.slice (some ⟨g, 0, none⟩) L C) (segTo tab b N T q i (E1, E2, E3, E4))) ∧ Hid (wr.heap[gb]? = some (.cells #[.int .i32 E1, .int .i16 E2, .bool E3, .int .i32 E4] 56 (0, 0))) ∧ Hid (Keeps (fun j => j = g) w wr)) (fun iv _ => (N + q + 1 - (intOf iv).toNat))
  case atStart => exact ⟨T, rfl, Nat.mod_eq_of_lt hT, by omega, Lib.hid (by rw [HS0.out]; exact HT1.out), HBX, HK1⟩
  case round =>
    obtain ⟨i, rfl, him, hiN, ht, hbx, hk⟩ := hrel
    by_cases hlt : i < N
    · have b0 : wr.cell? ⟨gb, 0, none⟩ = some (.int .i32 E1) := cell_lit hbx.out 0 _ rfl
      have b1 : wr.cell? ⟨gb, 1, none⟩ = some (.int .i16 E2) := cell_lit hbx.out 1 _ rfl
      have b2 : wr.cell? ⟨gb, 2, none⟩ = some (.bool E3) := cell_lit hbx.out 2 _ rfl
      have b3 : wr.cell? ⟨gb, 3, none⟩ = some (.int .i32 E4) := cell_lit hbx.out 3 _ rfl
      have hi0 : (0 : Int) ≤ (i : Int) := by omega
      have hi1 : (i : Int) < (N : Int) := by omega
      have hbl : b + i < tab.length := by have := HLT.out; omega
      obtain ⟨P, hP⟩ : ∃ P : Ent, (segTo tab b N T q i (E1, E2, E3, E4))[b + i]? = some P := ⟨_, List.getElem?_eq_getElem (by rw [HFL.out]; exact hbl)⟩
      have hoi : (b + i) * 4 = b * 4 + i * 4 := Nat.add_mul b i 4
      have c0 := OwnS.cell flatT ht.out (b + i) 0 P hP (by decide)
      have c1 := OwnS.cell flatT ht.out (b + i) 1 P hP (by decide)
      have c2 := OwnS.cell flatT ht.out (b + i) 2 P hP (by decide)
      have c3 := OwnS.cell flatT ht.out (b + i) 3 P hP (by decide)
      simp only [fT, List.getElem?_cons_zero, List.getElem?_cons_succ, Nat.add_zero, hoi] at c0 c1 c2 c3
      have f0 := ht.out.free (b * 4 + i * 4)
      have f1 := ht.out.free (b * 4 + i * 4 + 1)
      have f2 := ht.out.free (b * 4 + i * 4 + 2)
      have f3 := ht.out.free (b * 4 + i * 4 + 3)
      have hne2 : gb ≠ g := by omega
      have HT2 := Lib.hid (show OwnT B ((((wr.setCell ⟨g, b * 4 + i * 4, none⟩ (.int .i32 E1)).setCell ⟨g, b * 4 + i * 4 + 1, none⟩ (.int .i16 E2)).setCell ⟨g, b * 4 + i * 4 + 2, none⟩ (.bool E3)).setCell ⟨g, b * 4 + i * 4 + 3, none⟩ (.int .i32 E4)) (.slice (some ⟨g, 0, none⟩) L C) (segTo tab b N T q (i + q) (E1, E2, E3, E4)) by
        rw [← HST.out i him hlt, ← hoi]
        exact OwnS.set4 flatT (show OwnT B wr _ _ from ht.out) (b + i) (E1, E2, E3, E4) _ _ _ _ rfl (by rw [HFL.out]; exact hbl))
      have HB2 := Lib.hid (show ((((wr.setCell ⟨g, b * 4 + i * 4, none⟩ (.int .i32 E1)).setCell ⟨g, b * 4 + i * 4 + 1, none⟩ (.int .i16 E2)).setCell ⟨g, b * 4 + i * 4 + 2, none⟩ (.bool E3)).setCell ⟨g, b * 4 + i * 4 + 3, none⟩ (.int .i32 E4)).heap[gb]? = _ from ((((Below.heap_setCell _ _ _ _ hne2).trans (Below.heap_setCell _ _ _ _ hne2)).trans (Below.heap_setCell _ _ _ _ hne2)).trans (Below.heap_setCell _ _ _ _ hne2)).trans hbx.out)
      have HK2 := Lib.hid ((((hk.out.setCell (p := ⟨g, b * 4 + i * 4, none⟩) (.inr rfl) (.int .i32 E1)).setCell (p := ⟨g, b * 4 + i * 4 + 1, none⟩) (.inr rfl) (.int .i16 E2)).setCell (p := ⟨g, b * 4 + i * 4 + 2, none⟩) (.inr rfl) (.bool E3)).setCell (p := ⟨g, b * 4 + i * 4 + 3, none⟩) (.inr rfl) (.int .i32 E4))
      have HOI := Lib.hid hoi
      have HBL := Lib.hid hbl
      clear hoi hbl hP
      go_wp2_with fail
      clear c0 c1 c2 c3 f0 f1 f2 f3 b0 b1 b2 b3
      go_roundw
      case rel => exact ⟨i + q, by go_num, by rw [Nat.add_mod_right]; exact him, by omega, HT2, HB2, HK2⟩
      case measure => simp [intOf]; omega
    · have hNi : N ≤ i := by omega
      go_wp2_with fail
      go_end0
      exact ⟨rfl, by rw [HQ.out, ← HSE.out i hNi]; exact ht.out, hk.out⟩
end Go.Proofs.Ytbdhfmoididkgaa
