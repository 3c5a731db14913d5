/- It is proved that the law 'MarkovCodes' of the program returns true for every input, with no condition, and leaves what was handed in as it was. The frame was written by a program; the walk is by hand. -/
import Derived.Test.YtkdkedgpchcfpaaRows
import Derived.WalkKit
import Derived.ProofKit
import Derived.OpenShut
import Derived.ShutString
import Derived.ChangeOld
import Derived.Below
import Derived.Test.YtkdkedgpchcfpaaBase
import Derived.Test.YtkdkedgpchcfpaaV11
namespace Go.Proofs.Ytkdkedgpchcfpaa.markovCodes
open Go.ChangeShapes Go.WideShapes Go.ChangeAt Go.RowKit Go.Deep
open Go.ChangeMaps (open_string shut_string)
set_option linter.unusedVariables false
set_option maxRecDepth 100000

theorem own : ownKnob Try.prog.godebug = none := by kernel_rfl
theorem laidOut : laidOutB Try.prog = true := by kernel_rfl

open Range
set_option maxHeartbeats 1600000 in
theorem codes_walk (s t : ByteArray) (p : Int) (w : World) (hs : s.size ≤ 150) (ht : t.size ≤ 200) (hp : p ≤ 300 ∨ 16777216 < p) :
    Calls Try.prog 12 #[.string s, .string t, .int .i64 p] w fun e w' => e = .returned (.bool true) ∧ Below w.heap.size w w' := by
  obtain ⟨N, hN⟩ : ∃ N, N = 65536 := ⟨_, rfl⟩
  obtain ⟨S, hS⟩ : ∃ S, encM N s.data.toList = S := ⟨_, rfl⟩
  obtain ⟨⟨L, F⟩, hd⟩ : ∃ r, decMT N t.data.toList p = r := ⟨_, rfl⟩
  have C1 := fun W => mEncode N hN s (by omega) W
  have C2 := fun W => bEncodeM N hN s (by omega) W
  have C3 := fun W => mDecodeT (w := W) N hN t (by omega) p L F hd
  have C4 := fun W => bDecodeMT (w := W) N hN t.data.toList (by simpa using (by omega : t.size ≤ 1000000)) p (by omega) L F hd
  have C5 := fun W => mSize N hN s (by omega) S hS W
  have e4 : sB t.data.toList = t := by simp [sB]
  rw [e4] at C4
  rw [hS] at C1 C2
  have C1_ := Lib.hid C1
  have C2_ := Lib.hid C2
  have C3_ := Lib.hid C3
  have C4_ := Lib.hid C4
  have C5_ := Lib.hid C5
  clear C1 C2 C3 C4 C5
  have hX : decide (300 < p) = false ∨ (decide (300 < p) = true ∧ decide (p ≤ 16777216) = false) := by
    rcases hp with h | h
    · left; simp; omega
    · right; constructor <;> simp <;> omega
  clear hN hS hd e4 hp
  go_enter Try.func12, Try.ntmps12
  rcases hX with hd1 | ⟨hd1, hd2⟩
  all_goals
    go_wp2_with fail
    refine (C1_.out _).mono ?_; rintro e w1 ⟨rfl, hb⟩
    go_wp2_with fail
    refine (C2_.out _).mono ?_; rintro e w2 ⟨rfl, hb2⟩
    have hb := hb.trans (hb2.mono hb.size)
    clear hb2
    go_wp2_with fail
    refine (C3_.out _).mono ?_; rintro e w3 ⟨rfl, hb2⟩
    have hb := hb.trans (hb2.mono hb.size)
    clear hb2
    go_wp2_with fail
    refine (C4_.out _).mono ?_; rintro e w4 ⟨rfl, hb2⟩
    have hb := hb.trans (hb2.mono hb.size)
    clear hb2
    go_wp2_with fail
    refine (C5_.out _).mono ?_; rintro e w5 ⟨rfl, hb2⟩
    have hb := hb.trans (hb2.mono hb.size)
    clear hb2
    go_wp2_with fail
    refine (awake61 _).mono ?_; rintro e w6 ⟨rfl, hb2⟩
    have hb := hb.trans (hb2.mono hb.size)
    clear hb2
    go_wp2_with fail
    go_ret
    exact ⟨rfl, hb⟩

set_option maxHeartbeats 1600000 in
theorem walk (a0 : ByteArray) (a1 : ByteArray) (a2 : Int) (w : World) (w0 : a0.size ≤ maxLen) (w1 : a1.size ≤ maxLen) (w2 : (Lit.int .i64 a2).wf = true) :
    Calls Try.prog 12 #[.string a0, .string a1, .int .i64 a2] w fun e w' => e = .returned (.bool true) ∧ Below w.heap.size w w' := by
  unfold maxLen at w0 w1
  by_cases hlong : 150 < a0.size
  · go_enter Try.func12, Try.ntmps12
    go_wp2_with fail
    refine (awake61 _).mono ?_; rintro e w1 ⟨rfl, hb⟩
    go_wp2_with fail
    go_ret
    exact ⟨rfl, hb⟩
  · by_cases hlong2 : 200 < a1.size
    · go_enter Try.func12, Try.ntmps12
      go_wp2_with fail
      refine (awake61 _).mono ?_; rintro e w1 ⟨rfl, hb⟩
      go_wp2_with fail
      go_ret
      exact ⟨rfl, hb⟩
    · by_cases hp : a2 ≤ 300 ∨ 16777216 < a2
      · exact codes_walk a0 a1 a2 w (by omega) (by omega) hp
      · have hd1 : decide (300 < a2) = true := by simp; omega
        have hd2 : decide (a2 ≤ 16777216) = true := by simp; omega
        clear hp
        go_enter Try.func12, Try.ntmps12
        go_wp2_with fail
        refine (awake61 _).mono ?_; rintro e w1 ⟨rfl, hb⟩
        go_wp2_with fail
        go_ret
        exact ⟨rfl, hb⟩

theorem lifted (os : Os) (started : os.Started) (H : Type) (enc : TypeId × Value → H) :
    ReturnsInHanded {} Try.checked os 12 .any (Rows.markovCodesSpec.pre6 enc Try.prog Try.f12 Rows.markovCodesRow.domain false) (Rows.markovCodesSpec.post enc Try.prog Try.f12 false true false false) := by
  refine returnsInHanded_of_change (C := Try.checked) own started (by kernel_rfl) Try.func12
    (ChangeSpec.witness6 (enc := enc) (C := Try.checked) false ⟨#[], #[.string ByteArray.empty, .string ByteArray.empty, .int .i64 0], []⟩ 8 (by kernel_rfl) (by kernel_rfl) (by kernel_rfl) (by kernel_rfl)) ?_
  intro W base args ds gs before hval0 hW hcnd _
  have hval : ∀ (j : Nat) t v, Try.f12.params[j]? = some t → args[j]? = some v → Value.okWide Try.prog W .any base t v := hval0
  have hW' := hW
  obtain ⟨p, q, hA0, hV, rfl, hfz, hnd⟩ := hW
  have hA : DataW.TrodAll enc Try.prog W 0 (fun _ => true) true Try.f12.params.toList args.toList ds p := hA0
  rw [Try.params12] at hA hval
  obtain ⟨v0, vs0, d0, ds0, p0, q0, hargs, rfl, rfl, h0, r0⟩ := trodAll_cons hA
  obtain ⟨v1, vs1, d1, ds1, p1, q1, rfl, rfl, rfl, h1, r1⟩ := trodAll_cons r0
  obtain ⟨v2, vs2, d2, ds2, p2, q2, rfl, rfl, rfl, h2, r2⟩ := trodAll_cons r1
  obtain ⟨rfl, rfl, rfl⟩ := trodAll_nil r2
  obtain rfl : args = #[v0, v1, v2] := by cases args; simp_all
  obtain ⟨rfl, rfl⟩ := trodVars_none hV
  have k0 := h0
  have lt0 : ∀ x ∈ p0, x.block < W.heap.size := by obtain ⟨m, hm⟩ := k0; exact DataW.trod_lt m _ _ _ hm
  obtain ⟨a0, rfl, rfl, rfl, w0⟩ := open_string Try.underlying9 (hval 0 9 v0 rfl rfl) h0
  have k1 := h1
  have lt1 : ∀ x ∈ p1, x.block < W.heap.size := by obtain ⟨m, hm⟩ := k1; exact DataW.trod_lt m _ _ _ hm
  obtain ⟨a1, rfl, rfl, rfl, w1⟩ := open_string Try.underlying9 (hval 1 9 v1 rfl rfl) h1
  have k2 := h2
  have lt2 : ∀ x ∈ p2, x.block < W.heap.size := by obtain ⟨m, hm⟩ := k2; exact DataW.trod_lt m _ _ _ hm
  obtain ⟨a2, rfl, rfl, rfl, w2⟩ := open_int Try.underlying3 (hval 2 3 v2 rfl rfl) h2
  clear hA0 hval0
  refine (walk a0 a1 a2 W w0 w1 w2).mono fun e W' ⟨he, bel⟩ => ?_
  subst he
  exact ⟨_, rfl, _, _, _, [], _, [], hW', trodAll_mk1 (shut_bool Try.underlying4 _), (trodAll_cons_mk (Below.trod laidOut (by kernel_rfl) (of_decide_eq_true (by kernel_rfl)) k0 bel lt0) (trodAll_cons_mk (Below.trod laidOut (by kernel_rfl) (of_decide_eq_true (by kernel_rfl)) k1 bel lt1) (trodAll_cons_mk (Below.trod laidOut (by kernel_rfl) (of_decide_eq_true (by kernel_rfl)) k2 bel lt2) trodAll_mk0))), rfl, bel.frame _, fun h => by cases h⟩

theorem over : Rows.markovCodesRow.holds Try.pinned (OpenSpec.ofChange Rows.markovCodesSpec) :=
  OpenClaim.holds_of_wide 12 Try.f12 rfl rfl rfl rfl rfl rfl rfl ⟨rfl, rfl, rfl, rfl, rfl⟩ rfl rfl rfl rfl rfl (by kernel_rfl) Try.func12 (by kernel_rfl)
    (of_decide_eq_true (by kernel_rfl)) (by unfold Func.isWrapper; first | (rw [if_pos (by decide +kernel)]; kernel_rfl) | (rw [if_neg (by decide +kernel)]; exact ⟨rfl, rfl⟩))
    (fun os started H enc _ => lifted os started H enc)

theorem proved : Rows.MarkovCodesSaid := over
#print axioms proved
end Go.Proofs.Ytkdkedgpchcfpaa.markovCodes
