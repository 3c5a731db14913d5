/- Layer 45, the document's: Bit. -/
import Derived.Test.YtkdkedgpchcfpaaG8
namespace Go.Proofs.Ytkdkedgpchcfpaa
open Go.ChangeShapes Go.WideShapes Go.ChangeAt Go.RowKit Go.Deep
set_option linter.unusedVariables false
set_option maxRecDepth 100000
open Range

/-- The end of a function that answers a reader out of its result's box. -/
theorem dBitOut (d : Dec) (p : Int) (w : World) (h : okB p = false) : Calls Try.prog 23 #[.agg #[.int .u64 d.a, .int .u64 d.b, .int .u64 d.x, .string (sB d.s)], .int .i64 p] w fun e w' =>
    e = .returned (.tuple #[rV d, .bool false, .int .i64 2]) ∧ Below w.heap.size w w' := by
  have C := Lib.hid (fun w => gFits p w)
  rw [h] at C
  clear h
  go_enter Try.func23, Try.ntmps23
  go_wp2_with fail
  refine (C.out _).mono ?_; rintro e w1 ⟨rfl, rfl⟩
  go_wp2_with fail
  exact bodyPost_ret (v := .tuple #[rV d, .bool false, .int .i64 2]) (by simp [results, Try.results23, go_sem]) rfl ⟨rfl, by go_grown⟩
set_option maxHeartbeats 3200000 in
theorem dBit (d : Dec) (P : Nat) (hf : Fine d) (hp : okB P = true) (hl : d.s.length ≤ 1000000) (w : World) : Calls Try.prog 23 #[.agg #[.int .u64 d.a, .int .u64 d.b, .int .u64 d.x, .string (sB d.s)], .int .i64 P] w fun e w' =>
    e = .returned (.tuple #[rV (behind d P), .bool (bitOf d P), .int .i64 0]) ∧ Below w.heap.size w w' := by
  have hpp : 1 ≤ P ∧ P ≤ 2047 := by have := okB_yes hp; omega
  have C := Lib.hid (fun w => gFits P w)
  rw [hp] at C
  have CP := Lib.hid (fun w => dPart d P (bitOf d P) hf.1 hpp w)
  have HF := Lib.hid (show behind d P = ⟨(Range.part d.a d.b P (bitOf d P)).2.1, (Range.part d.a d.b P (bitOf d P)).2.2, (moves (Range.part d.a d.b P (bitOf d P)).1.length d.x d.s).1, (moves (Range.part d.a d.b P (bitOf d P)).1.length d.x d.s).2⟩ from rfl)
  have hm := mid_le d.a d.b P hf.1.1 (by omega)
  have HMI := Lib.hid (mid_u64 d.a d.b P hf.1.1 hf.1.2.1 hpp.2)
  have HBT := Lib.hid (show decide ((mid d.a d.b P : Int) < d.x) = bitOf d P by unfold bitOf; rw [Bool.eq_iff_iff, decide_eq_true_iff, decide_eq_true_iff]; omega)
  have hb32 := hf.1.2.1
  have hab := hf.1.1
  have hx := hf.2
  have hpl := part_len d.a d.b P (bitOf d P)
  have hmv : ∀ k, (moves k d.x d.s).2.length ≤ 1000000 := by
    intro k
    induction k with
    | zero => exact hl
    | succ k ih => rw [moves_succ]; unfold moveB; simp; omega
  have HMV := Lib.hid hmv
  have HMS := Lib.hid (fun k => moves_succ k d.x d.s)
  have HML := Lib.hid (fun k => moves_lt k d.x d.s hx)
  obtain ⟨⟨TL, TA, TB⟩, hT⟩ : ∃ r, Range.part d.a d.b P (bitOf d P) = r := ⟨_, rfl⟩
  rw [hT] at CP HF hpl
  simp only at CP HF hpl
  obtain ⟨BT, hBT⟩ : ∃ b, bitOf d P = b := ⟨_, rfl⟩
  rw [hBT] at CP HBT ⊢
  rw [HF.out]
  obtain ⟨A, B, X, S⟩ := d
  simp only at *
  have hpr := hm.2.2.2
  have e1 : ((B : Int) - A) / 2048 = (((B - A) / 2048 : Nat) : Int) := by omega
  have hpr2 : (((B : Int) - A) / 2048) * P ≤ 4294967296 := by rw [e1, ← Int.natCast_mul]; omega
  have hpr3 : 0 ≤ (((B : Int) - A) / 2048) * P := by rw [e1, ← Int.natCast_mul]; omega
  obtain ⟨M, hM⟩ : ∃ M, mid A B P = M := ⟨_, rfl⟩
  rw [hM] at HMI HBT hm
  have hM1 := hm.2.1
  have HSZ := Lib.hid (sB_size TL)
  have hsz4 : (sB TL).size ≤ 4 := by rw [HSZ.out]; exact hpl
  have HB2 : Hid (decide (((A : Int) + (↑B - ↑A) / 2048 * ↑P) < (X : Int)) = BT) := by show _ = _; rw [HMI.out]; exact HBT.out
  clear hm hT hBT hM hpr e1 hf hp HBT hpl hl hmv
  have hb2 := HB2.out
  go_enter Try.func23, Try.ntmps23
  go_wp2_with fail
  refine (C.out _).mono ?_; rintro e w1 ⟨rfl, rfl⟩
  go_wp2_with fail
  refine (CP.out _).mono ?_; rintro e w2 ⟨rfl, hb2⟩
  rw [HMI.out] at *
  have hz2 := hb2.size
  simp at hz2
  have ha2 : AnyR w2 (w.heap.size + 1) := ⟨_, _, _, _, (hb2.block _ (by simp)).trans (heap_two_last _ _ _)⟩
  have hbw : Below w.heap.size w w2 := (((Below.refl _ _).alloc (Nat.le_refl _) _).alloc (by simp) _).trans (hb2.mono (by simp; omega))
  have HA2 := Lib.hid ha2; have HBW := Lib.hid hbw
  clear hb2 ha2 hbw CP C
  go_wp2_with fail
  obtain ⟨g, hg⟩ : ∃ g, w2.heap.size = g := ⟨_, rfl⟩
  obtain ⟨W, hW⟩ : ∃ W, w2.alloc (.cells #[.int .u64 TA, .int .u64 TB, .int .u64 X, .string (sB S)] 40) = W := ⟨_, rfl⟩
  have HR := Lib.hid (show IsR W g ⟨TA, TB, (moves 0 X S).1, (moves 0 X S).2⟩ by rw [← hW, ← hg]; exact heap_alloc_new _ _)
  have HA := Lib.hid (show AnyR W (w.heap.size + 1) by rw [← hW]; exact HA2.out.kept ((Below.refl _ _).alloc (Nat.le_refl _) _))
  have HB := Lib.hid (show Below w.heap.size w W by rw [← hW]; exact HBW.out.alloc (by omega) _)
  rw [hg, hW]
  have hgw : w.heap.size + 1 < g := by omega
  clear hW hg HA2 HBW hz2
  go_loopw [10] (fun i wr => ∃ k : Nat, k ≤ (sB TL).size ∧ i = .int .i64 k ∧ IsR wr g ⟨TA, TB, (moves k X S).1, (moves k X S).2⟩ ∧ AnyR wr (w.heap.size + 1) ∧ Below w.heap.size w wr) (fun i _ => (sB TL).size - (intOf i).toNat)
  case atStart => exact ⟨0, Nat.zero_le _, rfl, HR.out, HA.out, HB.out⟩
  case round =>
    obtain ⟨k, hk, rfl, hr, ha, hb⟩ := hrel
    obtain ⟨lg, c0, c1, c2, c3, f0, f1, f2, f3⟩ := hr.cells
    simp only at c0 c1 c2 c3
    have HR := Lib.hid hr; have HA := Lib.hid ha; have HB := Lib.hid hb
    by_cases hk4 : k < (sB TL).size
    · have C := Lib.hid (fun W => dNext ⟨TA, TB, (moves k X S).1, (moves k X S).2⟩ (by have := HMV.out k; simp only; omega) (HML.out k) W)
      clear hr ha hb
      go_wp2_with fail
      refine (C.out _).mono ?_; rintro e w3 ⟨rfl, hb3⟩
      have hr2 := HR.out.kept hb3
      have ha2 := HA.out.kept hb3
      have hb4 := HB.out.trans (hb3.mono HB.out.size)
      have HR3 := Lib.hid (hr2.any.set ⟨TA, TB, (moveB (moves k X S).1 (moves k X S).2).1, (moveB (moves k X S).1 (moves k X S).2).2⟩)
      have HA3 := Lib.hid (ha2.other (g := g) (by omega) ⟨TA, TB, (moveB (moves k X S).1 (moves k X S).2).1, (moveB (moves k X S).1 (moves k X S).2).2⟩)
      have HB3 := Lib.hid (below_setR (g := g) hb4 (by omega) ⟨TA, TB, (moveB (moves k X S).1 (moves k X S).2).1, (moveB (moves k X S).1 (moves k X S).2).2⟩)
      obtain ⟨lg2, d0, d1, d2, d3, e0, e1, e2, e3⟩ := hr2.cells
      simp only at d0 d1 d2 d3
      clear hb3 hr2 ha2 hb4 c0 c1 c2 c3 f0 f1 f2 f3
      have HMk := Lib.hid (HMS.out k)
      rw [← HMk.out] at HR3 HA3 HB3 ⊢
      go_wp2_with fail
      go_roundw
      case rel => exact ⟨k + 1, by omega, by go_num, HR3.out, HA3.out, HB3.out⟩
      case measure => simp [intOf]; omega
    · obtain rfl : k = (sB TL).size := by omega
      obtain ⟨lga, ⟨a0, a1, a2, a3, b0, b1, b2, b3⟩, h0, h1, h2, h3⟩ := ha.free
      clear hr ha hb
      go_wp2_with fail
      rw [HSZ.out]
      obtain ⟨-, z0, z1, z2, z3, -⟩ := (HA.out.set ⟨TA, TB, (moves TL.length X S).1, (moves TL.length X S).2⟩).cells
      have hbe := below_setR (g := w.heap.size + 1) HB.out (by omega) ⟨TA, TB, (moves TL.length X S).1, (moves TL.length X S).2⟩
      change bodyPost _ _ _ _ _ (setR wr (w.heap.size + 1) ⟨TA, TB, (moves TL.length X S).1, (moves TL.length X S).2⟩)
      revert z0 z1 z2 z3 hbe
      generalize setR wr (w.heap.size + 1) ⟨TA, TB, (moves TL.length X S).1, (moves TL.length X S).2⟩ = Y
      intro z0 z1 z2 z3 hbe
      simp only at z0 z1 z2 z3
      exact bodyPost_ret (v := .tuple #[rV ⟨TA, TB, (moves TL.length X S).1, (moves TL.length X S).2⟩, .bool BT, .int .i64 0]) (by simp [results, Try.results23, go_sem, z0, z1, z2, z3]) rfl ⟨rfl, hbe⟩
end Go.Proofs.Ytkdkedgpchcfpaa
