/- It is proved that the law 'WeightWholes' of the program returns true for every input, with no condition, and leaves what was handed in as it was. The frame was written by a program; the walk is by hand. -/
import Derived.Test.YtflggmbgfdglcaaRows
import Derived.WalkKit
import Derived.ProofKit
import Derived.OpenShut
import Derived.ShutString
import Derived.ChangeOld
import Derived.Below
import Derived.Test.YtflggmbgfdglcaaBase
import Derived.Test.YtflggmbgfdglcaaB4
import Derived.Test.YtflggmbgfdglcaaAO11
namespace Go.Proofs.Ytflggmbgfdglcaa.weightWholes
open Go.ChangeShapes Go.WideShapes Go.ChangeAt Go.RowKit Go.Deep
open Go.ChangeMaps (open_string shut_string)
set_option linter.unusedVariables false
set_option maxRecDepth 100000

theorem own : ownKnob Try.prog.godebug = none := by kernel_rfl
theorem laidOut : laidOutB Try.prog = true := by kernel_rfl

open Ieee
set_option maxHeartbeats 3200000 in
theorem wholes_walk (a : Option Addr) (c : Nat) (l : List Nat) (x y : Int) (w : World) (h : IsFl w a l) (hl : l.length ≤ 300) (hb : ∀ b ∈ l, b < 18446744073709551616) :
    Calls Try.prog 3 #[.slice a l.length c, .int .i64 x, .int .i64 y] w fun e w' => e = .returned (.bool true) ∧ Below w.heap.size w w' := by
  obtain ⟨out, E, hR⟩ := frR_any l
  have CF := Lib.hid (fun W (h : IsFl W a l) => cFreqs a c l W h hl hb out E hR)
  have DF := Lib.hid (fun W (h : IsFl W a l) => dFreqsF a c l W h hl hb out E hR)
  have HI := Lib.hid h
  have HBD := Lib.hid hb
  clear h hb hR
  go_enter Try.func3, Try.ntmps3
  go_wp2_with fail
  go_loopw [7] (fun iv wr => ∃ k : Nat, k ≤ l.length ∧ iv = .int .i64 k ∧ Hid (Below w.heap.size w wr)) (fun iv _ => l.length - (intOf iv).toNat)
  case atStart => exact ⟨0, Nat.zero_le _, rfl, Lib.hid (Below.refl _ _)⟩
  case round =>
    obtain ⟨k, hk, rfl, hb⟩ := hrel
    by_cases hlt : k < l.length
    · obtain ⟨q, rfl, hxb, cx⟩ := (HI.out.kept hb.out).at k hlt
      have cs := cx k hlt
      have hmem : l.getD k 0 ∈ l := by rw [List.getD_eq_getElem?_getD, List.getElem?_eq_getElem hlt]; exact List.getElem_mem hlt
      have hxl := HBD.out _ hmem
      obtain ⟨X, hX⟩ : ∃ X, l.getD k 0 = X := ⟨_, rfl⟩
      rw [hX] at cs hxl
      obtain ⟨⟨N, F⟩, hV⟩ : ∃ r, wholeV X = r := ⟨_, rfl⟩
      have CW := Lib.hid (fun W => cWhole X hxl N F hV W)
      have DW := Lib.hid (fun W => dWhole X hxl N F hV W)
      have hki : (k : Int) < (l.length : Int) := by omega
      have hk0 : (0 : Int) ≤ (k : Int) := by omega
      clear cx hX hV hmem hxl
      go_wp2_with fail
      refine (CW.out _).mono ?_; rintro e w2 ⟨rfl, hb2⟩
      have cs2 := (hb2.cell (p := q.add k) (by rw [add_block]; exact hxb)).trans cs
      have HB2 := Lib.hid (hb.out.trans (hb2.mono hb.out.size))
      clear hb2 cs
      go_wp2_with fail
      refine (DW.out _).mono ?_; rintro e w3 ⟨rfl, hb3⟩
      have HB3 := Lib.hid (HB2.out.trans (hb3.mono HB2.out.size))
      clear hb3 cs2
      go_wp2_with fail
      go_roundw
      case rel => exact ⟨k + 1, by omega, by go_num, HB3⟩
      case measure => simp [intOf]; omega
    · obtain rfl : k = l.length := by omega
      have hki : ¬ (l.length : Int) < (l.length : Int) := by omega
      go_wp2_with fail
      refine (CF.out _ (HI.out.kept hb.out)).mono ?_; rintro e w2 ⟨v2, rfl, hv2, hb2⟩
      have HB2 := Lib.hid (hb.out.trans (hb2.mono hb.out.size))
      have HV2 := Lib.hid hv2
      clear hb2 hv2 hb
      go_wp2_with fail
      refine (DF.out _ (HI.out.kept HB2.out)).mono ?_; rintro e w3 ⟨v3, rfl, hv3, hb3⟩
      have HB3 := Lib.hid (HB2.out.trans (hb3.mono HB2.out.size))
      have HV2 := Lib.hid (HV2.out.kept hb3)
      have HV3 := Lib.hid hv3
      clear hb3 hv3
      go_wp2_with fail
      refine (intsL HV2.out HV3.out true (by simp)).mono ?_; rintro e w4 ⟨rfl, n4, rfl⟩
      have HB4 := Lib.hid (below_dn HB3.out n4)
      obtain ⟨w4, hw4⟩ : ∃ w4, w3.drewN n4 = w4 := ⟨_, rfl⟩
      rw [hw4] at HB4 ⊢
      clear hw4
      rcases hq : double.div (nf x) (nf y) with _ | r
      · have C1 := Lib.hid (fun W => cRatioN x y hq W)
        have C2 := Lib.hid (fun W => dRatioN x y hq W)
        clear hq
        go_wp2_with fail
        refine (C1.out _).mono ?_; rintro e w5 ⟨r1, rfl, hr1, rfl⟩
        have HR1 := Lib.hid hr1
        clear hr1
        go_wp2_with fail
        refine (C2.out _).mono ?_; rintro e w5 ⟨r2, rfl, hr2, rfl⟩
        have C3 := Lib.hid (fun W => dAlikeN r1 r2 HR1.out hr2 W)
        clear hr2
        go_wp2_with fail
        refine (C3.out _).mono ?_; rintro e w5 ⟨rfl, hw5⟩
        have HB5 := Lib.hid (show Below w.heap.size w w5 by rw [hw5]; exact HB4.out.drew.drew)
        clear hw5
        go_wp2_with fail
        refine (awake14 _).mono ?_; rintro e w6 ⟨rfl, hb6⟩
        go_wp2_with fail
        go_ret
        exact ⟨rfl, HB5.out.trans (hb6.mono HB5.out.size)⟩
      · have C1 := Lib.hid (fun W => cRatioS x y r hq W)
        have C2 := Lib.hid (fun W => dRatioS x y r hq W)
        have C3 := Lib.hid (fun W => dAlikeS r (quo_notN hq) W)
        clear hq
        go_wp2_with fail
        refine (C1.out _).mono ?_; rintro e w5 ⟨rfl, rfl⟩
        go_wp2_with fail
        refine (C2.out _).mono ?_; rintro e w5 ⟨rfl, rfl⟩
        go_wp2_with fail
        refine (C3.out _).mono ?_; rintro e w5 ⟨rfl, rfl⟩
        go_wp2_with fail
        refine (awake14 _).mono ?_; rintro e w6 ⟨rfl, hb6⟩
        go_wp2_with fail
        go_ret
        exact ⟨rfl, HB4.out.trans (hb6.mono HB4.out.size)⟩

set_option maxHeartbeats 3200000 in
theorem walk (a0 : Option Addr) (len0 cap0 : Nat) (z0 : List Nat) (a1 : Int) (a2 : Int) (w : World) (w0 : IsFlts w a0 len0 z0) (w1 : (Lit.int .i64 a1).wf = true) (w2 : (Lit.int .i64 a2).wf = true) :
    Calls Try.prog 3 #[.slice a0 len0 cap0, .int .i64 a1, .int .i64 a2] w fun e w' => e = .returned (.bool true) ∧ Below w.heap.size w w' := by
  obtain ⟨hl, hmax, hbd, h0⟩ := w0
  subst hl
  unfold maxLen at hmax
  by_cases hlong : 300 < z0.length
  · go_enter Try.func3, Try.ntmps3
    go_wp2_with fail
    refine (awake14 _).mono ?_; rintro e w1 ⟨rfl, hb⟩
    go_wp2_with fail
    go_ret
    exact ⟨rfl, hb⟩
  · exact wholes_walk a0 cap0 z0 a1 a2 w h0 (by omega) hbd

theorem lifted (os : Os) (started : os.Started) (H : Type) (enc : TypeId × Value → H) :
    ReturnsInHanded {} Try.checked os 3 .any (Rows.weightWholesSpec.pre6 enc Try.prog Try.f3 Rows.weightWholesRow.domain false) (Rows.weightWholesSpec.post enc Try.prog Try.f3 false true false false) := by
  refine returnsInHanded_of_change (C := Try.checked) own started (by kernel_rfl) Try.func3
    (ChangeSpec.witness6 (enc := enc) (C := Try.checked) false ⟨#[], #[.slice none 0 0, .int .i64 0, .int .i64 0], []⟩ 8 (by kernel_rfl) (by kernel_rfl) (by kernel_rfl) (by kernel_rfl)) ?_
  intro W base args ds gs before hval0 hW hcnd _
  have hval : ∀ (j : Nat) t v, Try.f3.params[j]? = some t → args[j]? = some v → Value.okWide Try.prog W .any base t v := hval0
  have hW' := hW
  obtain ⟨p, q, hA0, hV, rfl, hfz, hnd⟩ := hW
  have hA : DataW.TrodAll enc Try.prog W 0 (fun _ => true) true Try.f3.params.toList args.toList ds p := hA0
  rw [Try.params3] at hA hval
  obtain ⟨v0, vs0, d0, ds0, p0, q0, hargs, rfl, rfl, h0, r0⟩ := trodAll_cons hA
  obtain ⟨v1, vs1, d1, ds1, p1, q1, rfl, rfl, rfl, h1, r1⟩ := trodAll_cons r0
  obtain ⟨v2, vs2, d2, ds2, p2, q2, rfl, rfl, rfl, h2, r2⟩ := trodAll_cons r1
  obtain ⟨rfl, rfl, rfl⟩ := trodAll_nil r2
  obtain rfl : args = #[v0, v1, v2] := by cases args; simp_all
  obtain ⟨rfl, rfl⟩ := trodVars_none hV
  obtain ⟨a0, len0, cap0, rfl⟩ := okWide_slice Try.underlying22 (hval 0 22 v0 rfl rfl)
  have k0 := h0
  have lt0 : ∀ x ∈ p0, x.block < W.heap.size := by obtain ⟨m, hm⟩ := k0; exact DataW.trod_lt m _ _ _ hm
  obtain ⟨z0, w0⟩ : ∃ zs, IsFlts W a0 len0 zs := by
    obtain ⟨fuel, hf⟩ := h0
    rcases open_flts Try.underlying22 Try.underlying27 (by kernel_rfl) hf with hcs | ⟨x, l, c, B, hcs, hl, hm, hcell⟩
    · simp [Value.cells] at hcs
      obtain ⟨rfl, rfl, rfl⟩ := hcs
      exact ⟨[], rfl, Nat.zero_le _, by simp, .inl rfl⟩
    · simp [Value.cells] at hcs
      obtain ⟨rfl, rfl, rfl⟩ := hcs
      exact ⟨(List.range len0).map B, by simp, by omega, by
        intro b hb
        obtain ⟨i, hi, rfl⟩ := List.mem_map.1 hb
        have h2 := (hcell i (by have := List.mem_range.1 hi; omega)).2
        simp only [Lit.wf, decide_eq_true_eq] at h2
        exact h2, .inr ⟨_, rfl, fun i hi => by rw [(hcell i (by simp at hi; omega)).1]; simp at hi; simp [List.getD, hi]⟩⟩
  have k1 := h1
  have lt1 : ∀ x ∈ p1, x.block < W.heap.size := by obtain ⟨m, hm⟩ := k1; exact DataW.trod_lt m _ _ _ hm
  obtain ⟨a1, rfl, rfl, rfl, w1⟩ := open_int Try.underlying3 (hval 1 3 v1 rfl rfl) h1
  have k2 := h2
  have lt2 : ∀ x ∈ p2, x.block < W.heap.size := by obtain ⟨m, hm⟩ := k2; exact DataW.trod_lt m _ _ _ hm
  obtain ⟨a2, rfl, rfl, rfl, w2⟩ := open_int Try.underlying3 (hval 2 3 v2 rfl rfl) h2
  clear hA0 hval0
  refine (walk a0 len0 cap0 z0 a1 a2 W w0 w1 w2).mono fun e W' ⟨he, bel⟩ => ?_
  subst he
  exact ⟨_, rfl, _, _, _, [], _, [], hW', trodAll_mk1 (shut_bool Try.underlying4 _), (trodAll_cons_mk (Below.trod laidOut (by kernel_rfl) (of_decide_eq_true (by kernel_rfl)) k0 bel lt0) (trodAll_cons_mk (Below.trod laidOut (by kernel_rfl) (of_decide_eq_true (by kernel_rfl)) k1 bel lt1) (trodAll_cons_mk (Below.trod laidOut (by kernel_rfl) (of_decide_eq_true (by kernel_rfl)) k2 bel lt2) trodAll_mk0))), rfl, bel.frame _, fun h => by cases h⟩

theorem over : Rows.weightWholesRow.holds Try.pinned (OpenSpec.ofChange Rows.weightWholesSpec) :=
  OpenClaim.holds_of_wide 3 Try.f3 rfl rfl rfl rfl rfl rfl rfl ⟨rfl, rfl, rfl, rfl, rfl⟩ rfl rfl rfl rfl rfl (by kernel_rfl) Try.func3 (by kernel_rfl)
    (of_decide_eq_true (by kernel_rfl)) (by unfold Func.isWrapper; first | (rw [if_pos (by decide +kernel)]; kernel_rfl) | (rw [if_neg (by decide +kernel)]; exact ⟨rfl, rfl⟩))
    (fun os started H enc _ => lifted os started H enc)

theorem proved : Rows.WeightWholesSaid := over
#print axioms proved
end Go.Proofs.Ytflggmbgfdglcaa.weightWholes
