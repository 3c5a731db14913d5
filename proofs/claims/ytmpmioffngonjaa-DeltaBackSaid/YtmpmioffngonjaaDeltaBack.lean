/- It is proved that the law 'DeltaBack' of the program returns true for every input, with no condition, and leaves what was handed in as it was. The frame was written by a program; the walk is by hand. -/
import Derived.Test.YtmpmioffngonjaaRows
import Derived.WalkKit
import Derived.ProofKit
import Derived.OpenShut
import Derived.ShutString
import Derived.ChangeOld
import Derived.Below
import Derived.Test.YtmpmioffngonjaaBase
import Derived.Test.YtmpmioffngonjaaDq
namespace Go.Proofs.Ytmpmioffngonjaa.deltaBack
open Go.ChangeShapes Go.WideShapes Go.ChangeAt Go.RowKit Go.Deep
open Go.ChangeMaps (open_string shut_string)
set_option linter.unusedVariables false
set_option maxRecDepth 100000

theorem own : ownKnob Try.prog.godebug = none := by kernel_rfl
theorem laidOut : laidOutB Try.prog = true := by kernel_rfl

open DeltaMath
theorem size_mk (l : List UInt8) : (⟨l.toArray⟩ : ByteArray).size = l.length := by show l.toArray.size = _; simp

set_option maxHeartbeats 3200000 in
theorem walk (a0 : ByteArray) (a1 : Int) (w : World) (w0 : a0.size ≤ maxLen) (w1 : (Lit.int .u8 a1).wf = true) :
    Calls Try.prog 14 #[.string a0, .int .u8 a1] w fun e w' => e = .returned (.bool true) ∧ Below w.heap.size w w' := by
  obtain ⟨m0, m1⟩ := bounds_u8 w1
  by_cases hl : 3000 < a0.size
  · unfold maxLen at w0
    go_enter Try.func14, Try.ntmps14
    go_wp2_with fail
    refine (awake51 _).mono ?_; rintro e w7 ⟨rfl, hb⟩
    go_wp2_with fail
    go_ret
    exact ⟨rfl, hb⟩
  · have hs : a0.size ≤ 3000 := by omega
    obtain ⟨d, rfl⟩ : ∃ d : Nat, a1 = d := ⟨a1.toNat, by omega⟩
    have hd : d ≤ 255 := by omega
    have C1 := fun w => dApply a0 hs (d + 1) (by omega) (by omega) w
    have C3 := fun w => dBack a0 hs (d + 1) (by omega) (by omega) w
    have C2 : ∀ w, Calls Try.prog 57 #[.string ⟨(diffTo a0.data.toList (d + 1) a0.size).toArray⟩, .int .i64 ((d + 1 : Nat) : Int)] w fun e w' => e = .returned (.tuple #[.string a0, .int .i64 0]) ∧ Below w.heap.size w w' := fun w => by
      have h := dBack ⟨(diffTo a0.data.toList (d + 1) a0.size).toArray⟩ (by rw [size_mk (diffTo a0.data.toList (d + 1) a0.size), diffTo_length]; exact hs) (d + 1) (by omega) (by omega) w
      rw [size_mk (diffTo a0.data.toList (d + 1) a0.size), diffTo_length] at h
      have e := back_of_diff a0.data.toList (d + 1) (by omega)
      simp only [Array.length_toList] at e
      rw [show a0.data.size = a0.size from rfl] at e
      simp only [e] at h
      exact h
    have C4 : ∀ w, Calls Try.prog 55 #[.string ⟨(sumTo a0.data.toList (d + 1) a0.size).toArray⟩, .int .i64 ((d + 1 : Nat) : Int)] w fun e w' => e = .returned (.tuple #[.string a0, .int .i64 0]) ∧ Below w.heap.size w w' := fun w => by
      have h := dApply ⟨(sumTo a0.data.toList (d + 1) a0.size).toArray⟩ (by rw [size_mk (sumTo a0.data.toList (d + 1) a0.size), sumTo_length]; exact hs) (d + 1) (by omega) (by omega) w
      rw [size_mk (sumTo a0.data.toList (d + 1) a0.size), sumTo_length] at h
      have e := diff_of_back a0.data.toList (d + 1) (by omega)
      simp only [Array.length_toList] at e
      rw [show a0.data.size = a0.size from rfl] at e
      simp only [e] at h
      exact h
    obtain ⟨F, hF⟩ : ∃ F : ByteArray, ⟨(diffTo a0.data.toList (d + 1) a0.size).toArray⟩ = F := ⟨_, rfl⟩
    obtain ⟨G, hG⟩ : ∃ G : ByteArray, ⟨(sumTo a0.data.toList (d + 1) a0.size).toArray⟩ = G := ⟨_, rfl⟩
    rw [hF] at C2
    rw [hG] at C4
    simp only [hF] at C1
    simp only [hG] at C3
    have e1 : ((d + 1 : Nat) : Int) = (d : Int) + 1 := by omega
    rw [e1] at C1 C2 C3 C4
    have C1 := Lib.hid C1; have C2 := Lib.hid C2; have C3 := Lib.hid C3; have C4 := Lib.hid C4
    clear hF hG e1
    go_enter Try.func14, Try.ntmps14
    go_wp2_with fail
    refine (C1.out _).mono ?_; rintro e w1 ⟨rfl, hb1⟩
    go_wp2_with fail
    refine (C2.out _).mono ?_; rintro e w2 ⟨rfl, hb2⟩
    have hb := hb1.trans (hb2.mono hb1.size)
    clear hb1 hb2
    go_wp2_with fail
    refine (C3.out _).mono ?_; rintro e w3 ⟨rfl, hb2⟩
    have hb := hb.trans (hb2.mono hb.size)
    clear hb2
    go_wp2_with fail
    refine (C4.out _).mono ?_; rintro e w4 ⟨rfl, hb2⟩
    have hb := hb.trans (hb2.mono hb.size)
    clear hb2
    go_wp2_with fail
    refine (awake51 _).mono ?_; rintro e w7 ⟨rfl, hb2⟩
    have hb := hb.trans (hb2.mono hb.size)
    clear hb2
    go_wp2_with fail
    go_ret
    exact ⟨rfl, hb⟩

theorem lifted (os : Os) (started : os.Started) (H : Type) (enc : TypeId × Value → H) :
    ReturnsInHanded {} Try.checked os 14 .any (Rows.deltaBackSpec.pre6 enc Try.prog Try.f14 Rows.deltaBackRow.domain false) (Rows.deltaBackSpec.post enc Try.prog Try.f14 false true false false) := by
  refine returnsInHanded_of_change (C := Try.checked) own started (by kernel_rfl) Try.func14
    (ChangeSpec.witness6 (enc := enc) (C := Try.checked) false ⟨#[], #[.string ByteArray.empty, .int .u8 0], []⟩ 8 (by kernel_rfl) (by kernel_rfl) (by kernel_rfl) (by kernel_rfl)) ?_
  intro W base args ds gs before hval0 hW hcnd _
  have hval : ∀ (j : Nat) t v, Try.f14.params[j]? = some t → args[j]? = some v → Value.okWide Try.prog W .any base t v := hval0
  have hW' := hW
  obtain ⟨p, q, hA0, hV, rfl, hfz, hnd⟩ := hW
  have hA : DataW.TrodAll enc Try.prog W 0 (fun _ => true) true Try.f14.params.toList args.toList ds p := hA0
  rw [Try.params14] at hA hval
  obtain ⟨v0, vs0, d0, ds0, p0, q0, hargs, rfl, rfl, h0, r0⟩ := trodAll_cons hA
  obtain ⟨v1, vs1, d1, ds1, p1, q1, rfl, rfl, rfl, h1, r1⟩ := trodAll_cons r0
  obtain ⟨rfl, rfl, rfl⟩ := trodAll_nil r1
  obtain rfl : args = #[v0, v1] := by cases args; simp_all
  obtain ⟨rfl, rfl⟩ := trodVars_none hV
  have k0 := h0
  have lt0 : ∀ x ∈ p0, x.block < W.heap.size := by obtain ⟨m, hm⟩ := k0; exact DataW.trod_lt m _ _ _ hm
  obtain ⟨a0, rfl, rfl, rfl, w0⟩ := open_string Try.underlying9 (hval 0 9 v0 rfl rfl) h0
  have k1 := h1
  have lt1 : ∀ x ∈ p1, x.block < W.heap.size := by obtain ⟨m, hm⟩ := k1; exact DataW.trod_lt m _ _ _ hm
  obtain ⟨a1, rfl, rfl, rfl, w1⟩ := open_int Try.underlying5 (hval 1 5 v1 rfl rfl) h1
  clear hA0 hval0
  refine (walk a0 a1 W w0 w1).mono fun e W' ⟨he, bel⟩ => ?_
  subst he
  exact ⟨_, rfl, _, _, _, [], _, [], hW', trodAll_mk1 (shut_bool Try.underlying4 _), (trodAll_cons_mk (Below.trod laidOut (by kernel_rfl) (of_decide_eq_true (by kernel_rfl)) k0 bel lt0) (trodAll_cons_mk (Below.trod laidOut (by kernel_rfl) (of_decide_eq_true (by kernel_rfl)) k1 bel lt1) trodAll_mk0)), rfl, bel.frame _, fun h => by cases h⟩

theorem over : Rows.deltaBackRow.holds Try.pinned (OpenSpec.ofChange Rows.deltaBackSpec) :=
  OpenClaim.holds_of_wide 14 Try.f14 rfl rfl rfl rfl rfl rfl rfl ⟨rfl, rfl, rfl, rfl, rfl⟩ rfl rfl rfl rfl rfl (by kernel_rfl) Try.func14 (by kernel_rfl)
    (of_decide_eq_true (by kernel_rfl)) (by unfold Func.isWrapper; first | (rw [if_pos (by decide +kernel)]; kernel_rfl) | (rw [if_neg (by decide +kernel)]; exact ⟨rfl, rfl⟩))
    (fun os started H enc _ => lifted os started H enc)

theorem proved : Rows.DeltaBackSaid := over
#print axioms proved
end Go.Proofs.Ytmpmioffngonjaa.deltaBack
