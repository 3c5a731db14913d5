/- It is proved that the law 'HeadsReads' of the program returns true for every input, with no condition, and leaves what was handed in as it was. The frame was written by a program; the walk is by hand. -/
import Derived.Test.YtekageibffhloaaRows
import Derived.WalkKit
import Derived.ProofKit
import Derived.OpenShut
import Derived.ShutString
import Derived.ChangeOld
import Derived.Below
import Derived.Test.YtekageibffhloaaBase
import Derived.Test.YtekageibffhloaaH11
namespace Go.Proofs.Ytekageibffhloaa.headsReads
open Go.ChangeShapes Go.WideShapes Go.ChangeAt Go.RowKit Go.Deep
open Go.ChangeMaps (open_string shut_string)
set_option linter.unusedVariables false
set_option maxRecDepth 100000

theorem own : ownKnob Try.prog.godebug = none := by kernel_rfl
theorem laidOut : laidOutB Try.prog = true := by kernel_rfl



set_option maxHeartbeats 6400000 in
theorem walk (a0 : ByteArray) (w : World) (w0 : a0.size ≤ maxLen) :
    Calls Try.prog 10 #[.string a0] w fun e w' => e = .returned (.bool true) ∧ Below w.heap.size w w' := by
  by_cases hlong : 1000 < a0.size
  · go_enter Try.func10, Try.ntmps10
    go_wp2_with fail
    refine (awake31 _).mono ?_; rintro e w1 ⟨rfl, hb⟩
    go_wp2_with fail
    go_ret
    exact ⟨rfl, hb⟩
  have hlen : a0.data.toList.length ≤ 1000 := by
    have : a0.data.toList.length = a0.size := rfl
    omega
  obtain ⟨⟨⟨L, D, I⟩, S, E⟩, hr⟩ : ∃ r, readS a0.data.toList = r := ⟨_, rfl⟩
  obtain ⟨⟨⟨K, R, C⟩, T, F⟩, hq⟩ : ∃ r, readBS a0.data.toList = r := ⟨_, rfl⟩
  have C1 := Lib.hid (fun W => hReadT a0.data.toList hlen L D I S E hr W)
  have C2 := Lib.hid (fun W => dReadT a0.data.toList hlen L D I S E hr W)
  have C3 := Lib.hid (fun W => hReadBT a0.data.toList hlen K R C T F hq W)
  have C4 := Lib.hid (fun W => dReadBT a0.data.toList hlen K R C T F hq W)
  rw [sB_of] at C1 C2 C3 C4
  have hnl : ¬ (1000 : Int) < (a0.size : Int) := by omega
  clear hr hq hlen hlong w0
  go_enter Try.func10, Try.ntmps10
  go_wp2_with fail
  refine (C1.out _).mono ?_; rintro e w1 ⟨rfl, hb⟩
  go_wp2_with fail
  refine (C2.out _).mono ?_; rintro e w2 ⟨rfl, hb2⟩
  have H1 := Lib.hid (newH hb2)
  have hb := stepB hb hb2
  clear hb2
  go_wp2_with fail
  refine (C3.out _).mono ?_; rintro e w3 ⟨rfl, hb2⟩
  have H1 := Lib.hid (oldH H1.out hb2)
  have H2 := Lib.hid (newH hb2)
  have hb := stepB hb hb2
  clear hb2
  go_wp2_with fail
  refine (C4.out _).mono ?_; rintro e w4 ⟨rfl, hb2⟩
  have H1 := Lib.hid (oldH H1.out hb2)
  have H2 := Lib.hid (oldH H2.out hb2)
  have H3 := Lib.hid (newH hb2)
  have hb := stepB hb hb2
  clear hb2 C1 C2 C3 C4
  have p0 := cell_lit H1.out 0 _ rfl
  have p1 := cell_lit H1.out 1 _ rfl
  have p2 := cell_lit H1.out 2 _ rfl
  have q0 := cell_lit H2.out 0 _ rfl
  have q1 := cell_lit H2.out 1 _ rfl
  have q2 := cell_lit H2.out 2 _ rfl
  have r0 := cell_lit H3.out 0 _ rfl
  have r1 := cell_lit H3.out 1 _ rfl
  have r2 := cell_lit H3.out 2 _ rfl
  have l1 := block_lt H1.out
  have l2 := block_lt H2.out
  have l3 := block_lt H3.out
  have HB := Lib.hid hb
  clear hb H1 H2 H3
  go_wp2_with fail
  refine (awake31 _).mono ?_; rintro e w5 ⟨rfl, hb2⟩
  go_wp2_with fail
  go_ret
  exact ⟨rfl, stepB HB.out hb2⟩

theorem lifted (os : Os) (started : os.Started) (H : Type) (enc : TypeId × Value → H) :
    ReturnsInHanded {} Try.checked os 10 .any (Rows.headsReadsSpec.pre6 enc Try.prog Try.f10 Rows.headsReadsRow.domain false) (Rows.headsReadsSpec.post enc Try.prog Try.f10 false true false false) := by
  refine returnsInHanded_of_change (C := Try.checked) own started (by kernel_rfl) Try.func10
    (ChangeSpec.witness6 (enc := enc) (C := Try.checked) false ⟨#[], #[.string ByteArray.empty], []⟩ 8 (by kernel_rfl) (by kernel_rfl) (by kernel_rfl) (by kernel_rfl)) ?_
  intro W base args ds gs before hval0 hW hcnd _
  have hval : ∀ (j : Nat) t v, Try.f10.params[j]? = some t → args[j]? = some v → Value.okWide Try.prog W .any base t v := hval0
  have hW' := hW
  obtain ⟨p, q, hA0, hV, rfl, hfz, hnd⟩ := hW
  have hA : DataW.TrodAll enc Try.prog W 0 (fun _ => true) true Try.f10.params.toList args.toList ds p := hA0
  rw [Try.params10] at hA hval
  obtain ⟨v0, vs0, d0, ds0, p0, q0, hargs, rfl, rfl, h0, r0⟩ := trodAll_cons hA
  obtain ⟨rfl, rfl, rfl⟩ := trodAll_nil r0
  obtain rfl : args = #[v0] := by cases args; simp_all
  obtain ⟨rfl, rfl⟩ := trodVars_none hV
  have k0 := h0
  have lt0 : ∀ x ∈ p0, x.block < W.heap.size := by obtain ⟨m, hm⟩ := k0; exact DataW.trod_lt m _ _ _ hm
  obtain ⟨a0, rfl, rfl, rfl, w0⟩ := open_string Try.underlying9 (hval 0 9 v0 rfl rfl) h0
  clear hA0 hval0
  refine (walk a0 W w0).mono fun e W' ⟨he, bel⟩ => ?_
  subst he
  exact ⟨_, rfl, _, _, _, [], _, [], hW', trodAll_mk1 (shut_bool Try.underlying4 _), (trodAll_cons_mk (Below.trod laidOut (by kernel_rfl) (of_decide_eq_true (by kernel_rfl)) k0 bel lt0) trodAll_mk0), rfl, bel.frame _, fun h => by cases h⟩

theorem over : Rows.headsReadsRow.holds Try.pinned (OpenSpec.ofChange Rows.headsReadsSpec) :=
  OpenClaim.holds_of_wide 10 Try.f10 rfl rfl rfl rfl rfl rfl rfl ⟨rfl, rfl, rfl, rfl, rfl⟩ rfl rfl rfl rfl rfl (by kernel_rfl) Try.func10 (by kernel_rfl)
    (of_decide_eq_true (by kernel_rfl)) (by unfold Func.isWrapper; first | (rw [if_pos (by decide +kernel)]; kernel_rfl) | (rw [if_neg (by decide +kernel)]; exact ⟨rfl, rfl⟩))
    (fun os started H enc _ => lifted os started H enc)

theorem proved : Rows.HeadsReadsSaid := over
#print axioms proved
end Go.Proofs.Ytekageibffhloaa.headsReads
