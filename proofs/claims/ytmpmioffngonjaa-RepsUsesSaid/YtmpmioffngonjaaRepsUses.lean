/- It is proved that the law 'RepsUses' of the program returns true for every input, with no condition, and leaves what was handed in as it was. The frame was written by a program; the walk is by hand. -/
import Derived.Test.YtmpmioffngonjaaRows
import Derived.WalkKit
import Derived.ProofKit
import Derived.OpenShut
import Derived.ShutString
import Derived.ChangeOld
import Derived.Below
import Derived.Test.YtmpmioffngonjaaBase
import Derived.Test.YtmpmioffngonjaaRs
import Derived.Deep.RegionHeld3
namespace Go.Proofs.Ytmpmioffngonjaa.repsUses
open Go.ChangeShapes Go.WideShapes Go.ChangeAt Go.RowKit Go.Deep
open Go.ChangeMaps (open_string shut_string)
set_option linter.unusedVariables false
set_option maxRecDepth 100000

theorem own : ownKnob Try.prog.godebug = none := by kernel_rfl
theorem laidOut : laidOutB Try.prog = true := by kernel_rfl

theorem keepS {w1 w2 : World} {b0_0 b0_1 b0_2 b0_3 x0 x1 x2 x3 : Int} {w wx wy : World} (h : (fun w' => w'.cell? ⟨w.heap.size, 0, none⟩ = some (.int .i64 b0_0) ∧ w'.cell? ⟨w.heap.size, 1, none⟩ = some (.int .i64 b0_1) ∧ w'.cell? ⟨w.heap.size, 2, none⟩ = some (.int .i64 b0_2) ∧ w'.cell? ⟨w.heap.size, 3, none⟩ = some (.int .i64 b0_3) ∧ w'.cell? ⟨w1.heap.size, 0, none⟩ = some (.int .i64 x0) ∧ w'.cell? ⟨w1.heap.size, 1, none⟩ = some (.int .i64 x1) ∧ w'.cell? ⟨w1.heap.size, 2, none⟩ = some (.int .i64 x2) ∧ w'.cell? ⟨w1.heap.size, 3, none⟩ = some (.int .i64 x3) ∧ w'.cell? ⟨w2.heap.size, 0, none⟩ = some (.int .i64 x0) ∧ w'.cell? ⟨w2.heap.size, 1, none⟩ = some (.int .i64 x1) ∧ w'.cell? ⟨w2.heap.size, 2, none⟩ = some (.int .i64 x2) ∧ w'.cell? ⟨w2.heap.size, 3, none⟩ = some (.int .i64 x3) ∧ w.heap.size < w'.heap.size ∧ w1.heap.size < w'.heap.size ∧ w2.heap.size < w'.heap.size ∧ w.heap.size ≤ w'.heap.size ∧ Below w.heap.size w w') wx) (hb : Below wx.heap.size wx wy) : (fun w' => w'.cell? ⟨w.heap.size, 0, none⟩ = some (.int .i64 b0_0) ∧ w'.cell? ⟨w.heap.size, 1, none⟩ = some (.int .i64 b0_1) ∧ w'.cell? ⟨w.heap.size, 2, none⟩ = some (.int .i64 b0_2) ∧ w'.cell? ⟨w.heap.size, 3, none⟩ = some (.int .i64 b0_3) ∧ w'.cell? ⟨w1.heap.size, 0, none⟩ = some (.int .i64 x0) ∧ w'.cell? ⟨w1.heap.size, 1, none⟩ = some (.int .i64 x1) ∧ w'.cell? ⟨w1.heap.size, 2, none⟩ = some (.int .i64 x2) ∧ w'.cell? ⟨w1.heap.size, 3, none⟩ = some (.int .i64 x3) ∧ w'.cell? ⟨w2.heap.size, 0, none⟩ = some (.int .i64 x0) ∧ w'.cell? ⟨w2.heap.size, 1, none⟩ = some (.int .i64 x1) ∧ w'.cell? ⟨w2.heap.size, 2, none⟩ = some (.int .i64 x2) ∧ w'.cell? ⟨w2.heap.size, 3, none⟩ = some (.int .i64 x3) ∧ w.heap.size < w'.heap.size ∧ w1.heap.size < w'.heap.size ∧ w2.heap.size < w'.heap.size ∧ w.heap.size ≤ w'.heap.size ∧ Below w.heap.size w w') wy := by
  obtain ⟨g0, g1, g2, g3, g4, g5, g6, g7, g8, g9, g10, g11, g12, g13, g14, g15, g16⟩ := h
  exact ⟨(hb.cell (by first | assumption | omega)).trans g0, (hb.cell (by first | assumption | omega)).trans g1, (hb.cell (by first | assumption | omega)).trans g2, (hb.cell (by first | assumption | omega)).trans g3, (hb.cell (by first | assumption | omega)).trans g4, (hb.cell (by first | assumption | omega)).trans g5, (hb.cell (by first | assumption | omega)).trans g6, (hb.cell (by first | assumption | omega)).trans g7, (hb.cell (by first | assumption | omega)).trans g8, (hb.cell (by first | assumption | omega)).trans g9, (hb.cell (by first | assumption | omega)).trans g10, (hb.cell (by first | assumption | omega)).trans g11, by have := hb.size; omega, by have := hb.size; omega, by have := hb.size; omega, by have := hb.size; omega, g16.trans (hb.mono g15)⟩

set_option maxHeartbeats 3200000 in
theorem walk (b0_0 : Int) (b0_1 : Int) (b0_2 : Int) (b0_3 : Int) (b1_0 : Int) (b1_1 : Int) (b1_2 : Int) (b1_3 : Int) (b1_4 : Int) (a2 : Int) (w : World) (w0_0 : (Lit.int .i64 b0_0).wf = true) (w0_1 : (Lit.int .i64 b0_1).wf = true) (w0_2 : (Lit.int .i64 b0_2).wf = true) (w0_3 : (Lit.int .i64 b0_3).wf = true) (w1_0 : (Lit.int .i64 b1_0).wf = true) (w1_1 : (Lit.int .i64 b1_1).wf = true) (w1_2 : (Lit.int .i64 b1_2).wf = true) (w1_3 : (Lit.int .i64 b1_3).wf = true) (w1_4 : (Lit.int .i64 b1_4).wf = true) (w2 : (Lit.int .i64 a2).wf = true) :
    Calls Try.prog 7 #[.agg #[.int .i64 b0_0, .int .i64 b0_1, .int .i64 b0_2, .int .i64 b0_3], .agg #[.int .i64 b1_0, .int .i64 b1_1, .int .i64 b1_2, .int .i64 b1_3, .int .i64 b1_4], .int .i64 a2] w fun e w' => e = .returned (.bool true) ∧ Below w.heap.size w w' := by
  obtain ⟨x0, x1, x2, x3, y, z, u1, u2⟩ := use_both b0_0 b0_1 b0_2 b0_3 b1_0 b1_1 b1_2 b1_3 b1_4
  have U1 := Lib.hid u1; have U2 := Lib.hid u2; clear u1 u2
  obtain ⟨F, hF⟩ : ∃ F, find b0_0 b0_1 b0_2 b0_3 a2 = F := ⟨_, rfl⟩
  have F1 := Lib.hid (fun w => find_any b0_0 b0_1 b0_2 b0_3 a2 w); have F2 := Lib.hid (fun w => refFind_any b0_0 b0_1 b0_2 b0_3 a2 w)
  rw [hF] at F1 F2; clear hF
  go_enter Try.func7, Try.ntmps7
  go_wp2_with fail
  refine (U1.out _).mono ?_; rintro e w1 ⟨rfl, hb1⟩
  have z1 := hb1.size
  simp at z1
  have l1 : w.heap.size < w1.heap.size := by omega
  have l2 : w.heap.size + 1 < w1.heap.size := by omega
  have hc1 : Below w.heap.size w w1 := Below.trans (by go_grown) (hb1.mono (by simp; omega))
  have pr0 : w1.cell? ⟨w.heap.size, 0, none⟩ = some (.int .i64 b0_0) := by rw [hb1.cell (by first | (simp; done) | (simp; omega) | omega)]; first | assumption | (simp; done) | (simp [go_sem]; done) | (simp [go_sem, *]; done)
  have pr1 : w1.cell? ⟨w.heap.size, 1, none⟩ = some (.int .i64 b0_1) := by rw [hb1.cell (by first | (simp; done) | (simp; omega) | omega)]; first | assumption | (simp; done) | (simp [go_sem]; done) | (simp [go_sem, *]; done)
  have pr2 : w1.cell? ⟨w.heap.size, 2, none⟩ = some (.int .i64 b0_2) := by rw [hb1.cell (by first | (simp; done) | (simp; omega) | omega)]; first | assumption | (simp; done) | (simp [go_sem]; done) | (simp [go_sem, *]; done)
  have pr3 : w1.cell? ⟨w.heap.size, 3, none⟩ = some (.int .i64 b0_3) := by rw [hb1.cell (by first | (simp; done) | (simp; omega) | omega)]; first | assumption | (simp; done) | (simp [go_sem]; done) | (simp [go_sem, *]; done)
  have pt0 : w1.cell? ⟨w.heap.size + 1, 0, none⟩ = some (.int .i64 b1_0) := by rw [hb1.cell (by first | (simp; done) | (simp; omega) | omega)]; first | assumption | (simp; done) | (simp [go_sem]; done) | (simp [go_sem, *]; done)
  have pt1 : w1.cell? ⟨w.heap.size + 1, 1, none⟩ = some (.int .i64 b1_1) := by rw [hb1.cell (by first | (simp; done) | (simp; omega) | omega)]; first | assumption | (simp; done) | (simp [go_sem]; done) | (simp [go_sem, *]; done)
  have pt2 : w1.cell? ⟨w.heap.size + 1, 2, none⟩ = some (.int .i64 b1_2) := by rw [hb1.cell (by first | (simp; done) | (simp; omega) | omega)]; first | assumption | (simp; done) | (simp [go_sem]; done) | (simp [go_sem, *]; done)
  have pt3 : w1.cell? ⟨w.heap.size + 1, 3, none⟩ = some (.int .i64 b1_3) := by rw [hb1.cell (by first | (simp; done) | (simp; omega) | omega)]; first | assumption | (simp; done) | (simp [go_sem]; done) | (simp [go_sem, *]; done)
  have pt4 : w1.cell? ⟨w.heap.size + 1, 4, none⟩ = some (.int .i64 b1_4) := by rw [hb1.cell (by first | (simp; done) | (simp; omega) | omega)]; first | assumption | (simp; done) | (simp [go_sem]; done) | (simp [go_sem, *]; done)
  clear hb1
  go_wp2_with fail
  refine (U2.out _).mono ?_; rintro e w2 ⟨rfl, hb2⟩
  have z2 := hb2.size
  simp at z2
  have l3 : w.heap.size < w2.heap.size := by omega
  have l4 : w1.heap.size < w2.heap.size := by omega
  have hc2 : Below w.heap.size w w2 := Below.trans (by go_grown) (hb2.mono (by simp; omega))
  have qr0 : w2.cell? ⟨w.heap.size, 0, none⟩ = some (.int .i64 b0_0) := by rw [hb2.cell (by first | (simp; done) | (simp; omega) | omega)]; first | assumption | (simp; done) | (simp [go_sem]; done) | (simp [go_sem, *]; done)
  have qr1 : w2.cell? ⟨w.heap.size, 1, none⟩ = some (.int .i64 b0_1) := by rw [hb2.cell (by first | (simp; done) | (simp; omega) | omega)]; first | assumption | (simp; done) | (simp [go_sem]; done) | (simp [go_sem, *]; done)
  have qr2 : w2.cell? ⟨w.heap.size, 2, none⟩ = some (.int .i64 b0_2) := by rw [hb2.cell (by first | (simp; done) | (simp; omega) | omega)]; first | assumption | (simp; done) | (simp [go_sem]; done) | (simp [go_sem, *]; done)
  have qr3 : w2.cell? ⟨w.heap.size, 3, none⟩ = some (.int .i64 b0_3) := by rw [hb2.cell (by first | (simp; done) | (simp; omega) | omega)]; first | assumption | (simp; done) | (simp [go_sem]; done) | (simp [go_sem, *]; done)
  have qa0 : w2.cell? ⟨w1.heap.size, 0, none⟩ = some (.int .i64 x0) := by rw [hb2.cell (by first | (simp; done) | (simp; omega) | omega)]; first | assumption | (simp; done) | (simp [go_sem]; done) | (simp [go_sem, *]; done)
  have qa1 : w2.cell? ⟨w1.heap.size, 1, none⟩ = some (.int .i64 x1) := by rw [hb2.cell (by first | (simp; done) | (simp; omega) | omega)]; first | assumption | (simp; done) | (simp [go_sem]; done) | (simp [go_sem, *]; done)
  have qa2 : w2.cell? ⟨w1.heap.size, 2, none⟩ = some (.int .i64 x2) := by rw [hb2.cell (by first | (simp; done) | (simp; omega) | omega)]; first | assumption | (simp; done) | (simp [go_sem]; done) | (simp [go_sem, *]; done)
  have qa3 : w2.cell? ⟨w1.heap.size, 3, none⟩ = some (.int .i64 x3) := by rw [hb2.cell (by first | (simp; done) | (simp; omega) | omega)]; first | assumption | (simp; done) | (simp [go_sem]; done) | (simp [go_sem, *]; done)
  clear hb2
  go_wp2_with fail
  have he : ∀ w, (binOp .eql 47 (.agg #[.int .i64 x0, .int .i64 x1, .int .i64 x2, .int .i64 x3]) (.agg #[.int .i64 x0, .int .i64 x1, .int .i64 x2, .int .i64 x3])).run Try.prog w = .ok (.bool true) w := fun w => by
    rw [run_eql_ints4 47 3 _ x0 x1 x2 x3 x0 x1 x2 x3 w (by kernel_rfl) (by kernel_rfl) rfl (by kernel_rfl)]; simp
  have he2 : ∀ w, (binOp .eql 47 (.agg #[.int .i64 1, .int .i64 2, .int .i64 3, .int .i64 4]) (.agg #[.int .i64 1, .int .i64 2, .int .i64 3, .int .i64 4])).run Try.prog w = .ok (.bool true) w := fun _ => by kernel_rfl
  have z3 : w2.heap.size < (w2.alloc (.cells #[.int .i64 x0, .int .i64 x1, .int .i64 x2, .int .i64 x3] 47)).heap.size := by simp
  have S0 : (fun w' => w'.cell? ⟨w.heap.size, 0, none⟩ = some (.int .i64 b0_0) ∧ w'.cell? ⟨w.heap.size, 1, none⟩ = some (.int .i64 b0_1) ∧ w'.cell? ⟨w.heap.size, 2, none⟩ = some (.int .i64 b0_2) ∧ w'.cell? ⟨w.heap.size, 3, none⟩ = some (.int .i64 b0_3) ∧ w'.cell? ⟨w1.heap.size, 0, none⟩ = some (.int .i64 x0) ∧ w'.cell? ⟨w1.heap.size, 1, none⟩ = some (.int .i64 x1) ∧ w'.cell? ⟨w1.heap.size, 2, none⟩ = some (.int .i64 x2) ∧ w'.cell? ⟨w1.heap.size, 3, none⟩ = some (.int .i64 x3) ∧ w'.cell? ⟨w2.heap.size, 0, none⟩ = some (.int .i64 x0) ∧ w'.cell? ⟨w2.heap.size, 1, none⟩ = some (.int .i64 x1) ∧ w'.cell? ⟨w2.heap.size, 2, none⟩ = some (.int .i64 x2) ∧ w'.cell? ⟨w2.heap.size, 3, none⟩ = some (.int .i64 x3) ∧ w.heap.size < w'.heap.size ∧ w1.heap.size < w'.heap.size ∧ w2.heap.size < w'.heap.size ∧ w.heap.size ≤ w'.heap.size ∧ Below w.heap.size w w') (w2.alloc (.cells #[.int .i64 x0, .int .i64 x1, .int .i64 x2, .int .i64 x3] 47)) := by
    refine ⟨?_, ?_, ?_, ?_, ?_, ?_, ?_, ?_, by simp, by simp, by simp, by simp, by simp; omega, by simp; omega, by simp, by simp; omega, by go_grown⟩
    all_goals (first | (simp; done) | (simp [go_sem, *]; done))
  go_region_held3 (fun w' => w'.cell? ⟨w.heap.size, 0, none⟩ = some (.int .i64 b0_0) ∧ w'.cell? ⟨w.heap.size, 1, none⟩ = some (.int .i64 b0_1) ∧ w'.cell? ⟨w.heap.size, 2, none⟩ = some (.int .i64 b0_2) ∧ w'.cell? ⟨w.heap.size, 3, none⟩ = some (.int .i64 b0_3) ∧ w'.cell? ⟨w1.heap.size, 0, none⟩ = some (.int .i64 x0) ∧ w'.cell? ⟨w1.heap.size, 1, none⟩ = some (.int .i64 x1) ∧ w'.cell? ⟨w1.heap.size, 2, none⟩ = some (.int .i64 x2) ∧ w'.cell? ⟨w1.heap.size, 3, none⟩ = some (.int .i64 x3) ∧ w'.cell? ⟨w2.heap.size, 0, none⟩ = some (.int .i64 x0) ∧ w'.cell? ⟨w2.heap.size, 1, none⟩ = some (.int .i64 x1) ∧ w'.cell? ⟨w2.heap.size, 2, none⟩ = some (.int .i64 x2) ∧ w'.cell? ⟨w2.heap.size, 3, none⟩ = some (.int .i64 x3) ∧ w.heap.size < w'.heap.size ∧ w1.heap.size < w'.heap.size ∧ w2.heap.size < w'.heap.size ∧ w.heap.size ≤ w'.heap.size ∧ Below w.heap.size w w') (first | exact keepS (by assumption) (by assumption) | exact S0 | exact ⟨S0.1, S0.2.1, S0.2.2.1, S0.2.2.2.1, S0.2.2.2.2.1, S0.2.2.2.2.2.1, S0.2.2.2.2.2.2.1, S0.2.2.2.2.2.2.2.1, S0.2.2.2.2.2.2.2.2.1, S0.2.2.2.2.2.2.2.2.2.1, S0.2.2.2.2.2.2.2.2.2.2.1, S0.2.2.2.2.2.2.2.2.2.2.2.1, S0.2.2.2.2.2.2.2.2.2.2.2.2.1, S0.2.2.2.2.2.2.2.2.2.2.2.2.2.1, S0.2.2.2.2.2.2.2.2.2.2.2.2.2.2.1, S0.2.2.2.2.2.2.2.2.2.2.2.2.2.2.2.1, S0.2.2.2.2.2.2.2.2.2.2.2.2.2.2.2.2.drew⟩ | go_keep) (first | (go_at_call 36; refine (F1.out _).mono ?_; rintro e wx ⟨rfl, hbx⟩) | (go_at_call 37; refine (F2.out _).mono ?_; rintro e wx ⟨rfl, hbx⟩) | (go_at_call 38; refine (start_any _).mono ?_; rintro e wx ⟨rfl, hbx⟩) | (go_at_call 39; refine (refStart_any _).mono ?_; rintro e wx ⟨rfl, hbx⟩) | (go_at_call 40; refine (awake17 _).mono ?_; rintro e wx ⟨rfl, hbx⟩))
  rename_i K hK v1 g1 v2 g2 v3 g3 v4 g4 hH
  simp only [Exit.then]
  refine hK _ _ ?_
  go_wp2_with fail
  go_ret
  exact ⟨rfl, hH.2.2.2.2.2.2.2.2.2.2.2.2.2.2.2.2⟩

theorem lifted (os : Os) (started : os.Started) (H : Type) (enc : TypeId × Value → H) :
    ReturnsInHanded {} Try.checked os 7 .any (Rows.repsUsesSpec.pre6 enc Try.prog Try.f7 Rows.repsUsesRow.domain false) (Rows.repsUsesSpec.post enc Try.prog Try.f7 false true false false) := by
  refine returnsInHanded_of_change (C := Try.checked) own started (by kernel_rfl) Try.func7
    (ChangeSpec.witness6 (enc := enc) (C := Try.checked) false ⟨#[], #[.agg #[.int .i64 0, .int .i64 0, .int .i64 0, .int .i64 0], .agg #[.int .i64 0, .int .i64 0, .int .i64 0, .int .i64 0, .int .i64 0], .int .i64 0], []⟩ 8 (by kernel_rfl) (by kernel_rfl) (by kernel_rfl) (by kernel_rfl)) ?_
  intro W base args ds gs before hval0 hW hcnd _
  have hval : ∀ (j : Nat) t v, Try.f7.params[j]? = some t → args[j]? = some v → Value.okWide Try.prog W .any base t v := hval0
  have hW' := hW
  obtain ⟨p, q, hA0, hV, rfl, hfz, hnd⟩ := hW
  have hA : DataW.TrodAll enc Try.prog W 0 (fun _ => true) true Try.f7.params.toList args.toList ds p := hA0
  rw [Try.params7] at hA hval
  obtain ⟨v0, vs0, d0, ds0, p0, q0, hargs, rfl, rfl, h0, r0⟩ := trodAll_cons hA
  obtain ⟨v1, vs1, d1, ds1, p1, q1, rfl, rfl, rfl, h1, r1⟩ := trodAll_cons r0
  obtain ⟨v2, vs2, d2, ds2, p2, q2, rfl, rfl, rfl, h2, r2⟩ := trodAll_cons r1
  obtain ⟨rfl, rfl, rfl⟩ := trodAll_nil r2
  obtain rfl : args = #[v0, v1, v2] := by cases args; simp_all
  obtain ⟨rfl, rfl⟩ := trodVars_none hV
  have k0 := h0
  have lt0 : ∀ x ∈ p0, x.block < W.heap.size := by obtain ⟨m, hm⟩ := k0; exact DataW.trod_lt m _ _ _ hm
  obtain ⟨l, rfl, hl, hcs⟩ := agg_array Try.underlying47 (by kernel_rfl) (by kernel_rfl) (hval 0 47 v0 rfl rfl) h0
  obtain ⟨x0, x1, x2, x3, rfl⟩ := len4 l hl
  obtain ⟨n0, c, y, hc, hy⟩ := hcs 0 (by decide)
  simp only [List.getElem?_cons_zero, Option.some.injEq] at hc
  subst hc
  obtain ⟨b0_0, hc, -, w0_0⟩ := DataW.trod_int Try.underlying3 hy
  simp only [List.cons.injEq, and_true] at hc
  subst hc
  clear hy
  obtain ⟨n1, c, y, hc, hy⟩ := hcs 1 (by decide)
  simp only [List.getElem?_cons_zero, List.getElem?_cons_succ, Option.some.injEq] at hc
  subst hc
  obtain ⟨b0_1, hc, -, w0_1⟩ := DataW.trod_int Try.underlying3 hy
  simp only [List.cons.injEq, and_true] at hc
  subst hc
  clear hy
  obtain ⟨n2, c, y, hc, hy⟩ := hcs 2 (by decide)
  simp only [List.getElem?_cons_zero, List.getElem?_cons_succ, Option.some.injEq] at hc
  subst hc
  obtain ⟨b0_2, hc, -, w0_2⟩ := DataW.trod_int Try.underlying3 hy
  simp only [List.cons.injEq, and_true] at hc
  subst hc
  clear hy
  obtain ⟨n3, c, y, hc, hy⟩ := hcs 3 (by decide)
  simp only [List.getElem?_cons_zero, List.getElem?_cons_succ, Option.some.injEq] at hc
  subst hc
  obtain ⟨b0_3, hc, -, w0_3⟩ := DataW.trod_int Try.underlying3 hy
  simp only [List.cons.injEq, and_true] at hc
  subst hc
  clear hy
  clear hl hcs
  have k1 := h1
  have lt1 : ∀ x ∈ p1, x.block < W.heap.size := by obtain ⟨m, hm⟩ := k1; exact DataW.trod_lt m _ _ _ hm
  obtain ⟨l, rfl, hl, hcs⟩ := agg_struct Try.underlying31 (by kernel_rfl) (by kernel_rfl) (hval 1 31 v1 rfl rfl) h1
  obtain ⟨x0, x1, x2, x3, x4, rfl⟩ := len5 l hl
  obtain ⟨n0, c, y, hc, hy⟩ := hcs 0 _ rfl
  simp only [List.getElem?_cons_zero, Option.some.injEq] at hc
  subst hc
  obtain ⟨b1_0, hc, -, w1_0⟩ := DataW.trod_int Try.underlying3 hy
  simp only [List.cons.injEq, and_true] at hc
  subst hc
  clear hy
  obtain ⟨n1, c, y, hc, hy⟩ := hcs 1 _ rfl
  simp only [List.getElem?_cons_zero, List.getElem?_cons_succ, Option.some.injEq] at hc
  subst hc
  obtain ⟨b1_1, hc, -, w1_1⟩ := DataW.trod_int Try.underlying3 hy
  simp only [List.cons.injEq, and_true] at hc
  subst hc
  clear hy
  obtain ⟨n2, c, y, hc, hy⟩ := hcs 2 _ rfl
  simp only [List.getElem?_cons_zero, List.getElem?_cons_succ, Option.some.injEq] at hc
  subst hc
  obtain ⟨b1_2, hc, -, w1_2⟩ := DataW.trod_int Try.underlying3 hy
  simp only [List.cons.injEq, and_true] at hc
  subst hc
  clear hy
  obtain ⟨n3, c, y, hc, hy⟩ := hcs 3 _ rfl
  simp only [List.getElem?_cons_zero, List.getElem?_cons_succ, Option.some.injEq] at hc
  subst hc
  obtain ⟨b1_3, hc, -, w1_3⟩ := DataW.trod_int Try.underlying3 hy
  simp only [List.cons.injEq, and_true] at hc
  subst hc
  clear hy
  obtain ⟨n4, c, y, hc, hy⟩ := hcs 4 _ rfl
  simp only [List.getElem?_cons_zero, List.getElem?_cons_succ, Option.some.injEq] at hc
  subst hc
  obtain ⟨b1_4, hc, -, w1_4⟩ := DataW.trod_int Try.underlying3 hy
  simp only [List.cons.injEq, and_true] at hc
  subst hc
  clear hy
  clear hl hcs
  have k2 := h2
  have lt2 : ∀ x ∈ p2, x.block < W.heap.size := by obtain ⟨m, hm⟩ := k2; exact DataW.trod_lt m _ _ _ hm
  obtain ⟨a2, rfl, rfl, rfl, w2⟩ := open_int Try.underlying3 (hval 2 3 v2 rfl rfl) h2
  clear hA0 hval0
  refine (walk b0_0 b0_1 b0_2 b0_3 b1_0 b1_1 b1_2 b1_3 b1_4 a2 W w0_0 w0_1 w0_2 w0_3 w1_0 w1_1 w1_2 w1_3 w1_4 w2).mono fun e W' ⟨he, bel⟩ => ?_
  subst he
  exact ⟨_, rfl, _, _, _, [], _, [], hW', trodAll_mk1 (shut_bool Try.underlying4 _), (trodAll_cons_mk (Below.trod laidOut (by kernel_rfl) (of_decide_eq_true (by kernel_rfl)) k0 bel lt0) (trodAll_cons_mk (Below.trod laidOut (by kernel_rfl) (of_decide_eq_true (by kernel_rfl)) k1 bel lt1) (trodAll_cons_mk (Below.trod laidOut (by kernel_rfl) (of_decide_eq_true (by kernel_rfl)) k2 bel lt2) trodAll_mk0))), rfl, bel.frame _, fun h => by cases h⟩

theorem over : Rows.repsUsesRow.holds Try.pinned (OpenSpec.ofChange Rows.repsUsesSpec) :=
  OpenClaim.holds_of_wide 7 Try.f7 rfl rfl rfl rfl rfl rfl rfl ⟨rfl, rfl, rfl, rfl, rfl⟩ rfl rfl rfl rfl rfl (by kernel_rfl) Try.func7 (by kernel_rfl)
    (of_decide_eq_true (by kernel_rfl)) (by unfold Func.isWrapper; first | (rw [if_pos (by decide +kernel)]; kernel_rfl) | (rw [if_neg (by decide +kernel)]; exact ⟨rfl, rfl⟩))
    (fun os started H enc _ => lifted os started H enc)

theorem proved : Rows.RepsUsesSaid := over
#print axioms proved
end Go.Proofs.Ytmpmioffngonjaa.repsUses
