/- It is proved that the law 'RollMoves' of the program returns true for every input, with no condition, and leaves what was handed in as it was. The frame was written by a program; the walk is by hand. -/
import Derived.Test.YtjpmfaodkldobaaRows
import Derived.WalkKit
import Derived.ProofKit
import Derived.OpenShut
import Derived.ShutString
import Derived.ChangeOld
import Derived.Below
import Derived.Test.YtjpmfaodkldobaaBase
import Derived.Test.YtjpmfaodkldobaaQ4
namespace Go.Proofs.Ytjpmfaodkldobaa.rollMoves
open Go.ChangeShapes Go.WideShapes Go.ChangeAt Go.RowKit Go.Deep
open Go.ChangeMaps (open_string shut_string)
set_option linter.unusedVariables false
set_option maxRecDepth 100000

theorem own : ownKnob Try.prog.godebug = none := by kernel_rfl
theorem laidOut : laidOutB Try.prog = true := by kernel_rfl

open RollMath
theorem drop_cons (s : ByteArray) (i : Nat) (h : i < s.size) : s.data.toList.drop i = s[i] :: s.data.toList.drop (i + 1) := by
  rw [List.drop_eq_getElem_cons (by simpa using h)]; rfl
/-- The sum of k bytes from i on. -/
def sumAt (s : ByteArray) (i k : Nat) : Nat := hashL ((s.data.toList.drop i).take k)
theorem sum_lt (s : ByteArray) (i k : Nat) : sumAt s i k < 2147483647 := hashL_lt _
theorem sum_cut (s : ByteArray) (i j k : Nat) (hj : j = i + k) : hashL (s.extract i j).data.toList = sumAt s i k := by
  unfold sumAt; rw [Lib.extract_data]; congr 1; congr 1; omega
theorem sum_next (s : ByteArray) (i k : Nat) (hk : 1 ≤ k) (h : i + k < s.size) : rollV (sumAt s i k) (s[i]'(by omega)).toNat (s[i + k]'h).toNat k = (sumAt s (i + 1) k : Nat) := by
  obtain ⟨m, rfl⟩ : ∃ m, k = m + 1 := ⟨k - 1, by omega⟩
  have e1 : (s.data.toList.drop i).take (m + 1) = s[i] :: (s.data.toList.drop (i + 1)).take m := by rw [drop_cons s i (by omega), List.take_succ_cons]
  have hl : ((s.data.toList.drop (i + 1)).take m).length = m := by rw [List.length_take, List.length_drop, L_len]; omega
  have e2 : (s.data.toList.drop (i + 1)).take (m + 1) = (s.data.toList.drop (i + 1)).take m ++ [s[i + (m + 1)]] := by
    rw [List.take_succ_eq_append_getElem (by rw [List.length_drop, L_len]; omega)]
    congr 2
    rw [List.getElem_drop]
    show _ = s.data[i + (m + 1)]
    rw [Array.getElem_toList]; congr 1; omega
  have := rollV_eq s[i] s[i + (m + 1)] ((s.data.toList.drop (i + 1)).take m)
  rw [← e1, ← e2, hl] at this
  exact this
set_option maxHeartbeats 3200000 in
theorem in_walk (s : ByteArray) (b : Int) (m : Nat) (hk : b % 40 = m) (hb0 : 0 ≤ b ∧ b < 256) (hs : s.size ≤ 500) (hks : m + 1 ≤ s.size) (w : World) :
    Calls Try.prog 10 #[.string s, .int .u8 b] w fun e w' => e = .returned (.bool true) ∧ Below w.heap.size w w' := by
  have hm39 : m < 40 := by omega
  have C1 := Lib.hid (fun W => hashT (s.extract 0 (m + 1)) (sumAt s 0 (m + 1) : Nat) (by rw [ByteArray.size_extract]; omega) (by rw [sum_cut s 0 (m + 1) (m + 1) (by omega)]) W)
  have hks1 : (m : Int) + 1 ≤ (s.size : Int) := by omega
  have hks2 : decide ((s.size : Int) < (m : Int) + 1) = false := by simp; omega
  go_enter Try.func10, Try.ntmps10
  go_wp2_with fail
  refine (C1.out _).mono ?_; rintro e w1 ⟨rfl, rfl⟩
  have HLT := Lib.hid (fun i => sum_lt s i (m + 1))
  have HNX := Lib.hid (fun i => sum_next s i (m + 1) (by omega))
  have HSC := Lib.hid (fun i => sum_cut s (i + 1) (i + 1 + (m + 1)) (m + 1) rfl)
  go_wp2_with fail
  go_loopw [6, 7] (fun h i wr => ∃ i0 : Nat, i0 + (m + 1) ≤ s.size ∧ i = .int .i64 i0 ∧ h = .int .i64 (sumAt s i0 (m + 1) : Nat) ∧ Below w1.heap.size w1 wr) (fun _ i _ => s.size - (intOf i).toNat)
  case atStart => exact ⟨0, by omega, rfl, rfl, Below.refl _ _⟩
  case round =>
    obtain ⟨i, hi, rfl, rfl, hb⟩ := hrel
    by_cases hlt : i + (m + 1) < s.size
    · have hd : decide ((i : Int) + ((m : Int) + 1) < (s.size : Int)) = true := by simp; omega
      have hbd : (i : Int) + ((m : Int) + 1) < (s.size : Int) := by omega
      have hbn : i < s.size := by omega
      have htn : ((i : Int) + ((m : Int) + 1)).toNat = i + (m + 1) := by omega
      have hi64 : IntKind.i64.wrap ((i : Int) + ((m : Int) + 1)) = (i : Int) + ((m : Int) + 1) := IntWalk.i64_in _ (by omega)
      have hix : ∀ W, (Instr.index 9 (.string s) (.int .i64 ((i : Int) + ((m : Int) + 1)))).run Try.prog W = .ok (.int .u8 (s[i + (m + 1)].toNat : Int)) W := by
        intro W
        rw [run_index_string (h := Try.underlying9), dif_pos ⟨by omega, hbd⟩]
        simp only [htn]
      have hl := HLT.out i
      have hn := HNX.out i hlt
      have hu1 := s[i].toNat_lt
      have hu2 := s[i + (m + 1)].toNat_lt
      have CR := fun W => rollT (sumAt s i (m + 1) : Nat) s[i].toNat s[i + (m + 1)].toNat ((m : Int) + 1) (sumAt s (i + 1) (m + 1) : Nat) (by rw [show ((m : Int) + 1).toNat = m + 1 by omega]; exact hn) (by omega) (by omega) (by omega) (by omega) W
      have CH := fun W => hashT (s.extract (i + 1) (i + 1 + (m + 1))) (sumAt s (i + 1) (m + 1) : Nat) (by rw [ByteArray.size_extract]; omega) (by rw [HSC.out i]) W
      obtain ⟨H, hH⟩ : ∃ H, sumAt s i (m + 1) = H := ⟨_, rfl⟩
      rw [hH] at CR hl
      rw [hH]
      have CR_ := Lib.hid CR
      have CH_ := Lib.hid CH
      clear CR CH
      clear hn hH hu1 hu2
      go_wp2
      go_quiet ((go_at_call 39; exact Calls.quiet_of_same (CR_.out _)))
      have hsl : ∀ W, (Instr.slice 9 (.string s) (some (.int .i64 ((i : Int) + 1))) (some (.int .i64 ((i : Int) + 1 + ((m : Int) + 1)))) none).run Try.prog W = .ok (.string (s.extract (i + 1) (i + 1 + (m + 1)))) W := by
        intro W
        have := run_slice_string (P := Try.prog) W 9 s .i64 .i64 ((i : Int) + 1) ((i : Int) + 1 + ((m : Int) + 1)) Try.underlying9 (by omega) (by omega) (by omega)
        rwa [show ((i : Int) + 1).toNat = i + 1 by omega, show ((i : Int) + 1 + ((m : Int) + 1)).toNat = i + 1 + (m + 1) by omega] at this
      clear hix hi64
      go_wp2_with fail
      refine (CH_.out _).mono ?_; rintro e w2 ⟨rfl, rfl⟩
      go_wp2_with fail
      go_roundw
      case rel => exact ⟨i + 1, by omega, by go_num, rfl, below_dn hb _⟩
      case measure => simp [intOf]; omega
    · have hd : decide ((i : Int) + ((m : Int) + 1) < (s.size : Int)) = false := by simp; omega
      go_wp2_with fail
      refine (awake42 _).mono ?_; rintro e w2 ⟨rfl, hb2⟩
      go_wp2_with fail
      go_ret
      exact ⟨rfl, hb.trans (hb2.mono hb.size)⟩

set_option maxHeartbeats 3200000 in
theorem walk (a0 : ByteArray) (a1 : Int) (w : World) (w0 : a0.size ≤ maxLen) (w1 : (Lit.int .u8 a1).wf = true) :
    Calls Try.prog 10 #[.string a0, .int .u8 a1] w fun e w' => e = .returned (.bool true) ∧ Below w.heap.size w w' := by
  obtain ⟨b0, b1⟩ := bounds_u8 w1
  unfold maxLen at w0
  clear w1
  by_cases h0 : 500 < a0.size
  · go_enter Try.func10, Try.ntmps10
    go_wp2_with fail
    refine (awake42 _).mono ?_; rintro e w1 ⟨rfl, hb⟩
    go_wp2_with fail
    go_ret
    exact ⟨rfl, hb⟩
  by_cases h1 : (a0.size : Int) < a1 % 40 + 1
  · go_enter Try.func10, Try.ntmps10
    go_wp2_with fail
    refine (awake42 _).mono ?_; rintro e w1 ⟨rfl, hb⟩
    go_wp2_with fail
    go_ret
    exact ⟨rfl, hb⟩
  exact in_walk a0 a1 (a1 % 40).toNat (by omega) ⟨b0, by omega⟩ (by omega) (by omega) w

theorem lifted (os : Os) (started : os.Started) (H : Type) (enc : TypeId × Value → H) :
    ReturnsInHanded {} Try.checked os 10 .any (Rows.rollMovesSpec.pre6 enc Try.prog Try.f10 Rows.rollMovesRow.domain false) (Rows.rollMovesSpec.post enc Try.prog Try.f10 false true false false) := by
  refine returnsInHanded_of_change (C := Try.checked) own started (by kernel_rfl) Try.func10
    (ChangeSpec.witness6 (enc := enc) (C := Try.checked) false ⟨#[], #[.string ByteArray.empty, .int .u8 0], []⟩ 8 (by kernel_rfl) (by kernel_rfl) (by kernel_rfl) (by kernel_rfl)) ?_
  intro W base args ds gs before hval0 hW hcnd _
  have hval : ∀ (j : Nat) t v, Try.f10.params[j]? = some t → args[j]? = some v → Value.okWide Try.prog W .any base t v := hval0
  have hW' := hW
  obtain ⟨p, q, hA0, hV, rfl, hfz, hnd⟩ := hW
  have hA : DataW.TrodAll enc Try.prog W 0 (fun _ => true) true Try.f10.params.toList args.toList ds p := hA0
  rw [Try.params10] at hA hval
  obtain ⟨v0, vs0, d0, ds0, p0, q0, hargs, rfl, rfl, h0, r0⟩ := trodAll_cons hA
  obtain ⟨v1, vs1, d1, ds1, p1, q1, rfl, rfl, rfl, h1, r1⟩ := trodAll_cons r0
  obtain ⟨rfl, rfl, rfl⟩ := trodAll_nil r1
  obtain rfl : args = #[v0, v1] := by cases args; simp_all
  obtain ⟨rfl, rfl⟩ := trodVars_none hV
  have k0 := h0
  have lt0 : ∀ x ∈ p0, x.block < W.heap.size := by obtain ⟨m, hm⟩ := k0; exact DataW.trod_lt m _ _ _ hm
  obtain ⟨a0, rfl, rfl, rfl, w0⟩ := open_string Try.underlying9 (hval 0 9 v0 rfl rfl) h0
  have k1 := h1
  have lt1 : ∀ x ∈ p1, x.block < W.heap.size := by obtain ⟨m, hm⟩ := k1; exact DataW.trod_lt m _ _ _ hm
  obtain ⟨a1, rfl, rfl, rfl, w1⟩ := open_int Try.underlying5 (hval 1 5 v1 rfl rfl) h1
  clear hA0 hval0
  refine (walk a0 a1 W w0 w1).mono fun e W' ⟨he, bel⟩ => ?_
  subst he
  exact ⟨_, rfl, _, _, _, [], _, [], hW', trodAll_mk1 (shut_bool Try.underlying4 _), (trodAll_cons_mk (Below.trod laidOut (by kernel_rfl) (of_decide_eq_true (by kernel_rfl)) k0 bel lt0) (trodAll_cons_mk (Below.trod laidOut (by kernel_rfl) (of_decide_eq_true (by kernel_rfl)) k1 bel lt1) trodAll_mk0)), rfl, bel.frame _, fun h => by cases h⟩

theorem over : Rows.rollMovesRow.holds Try.pinned (OpenSpec.ofChange Rows.rollMovesSpec) :=
  OpenClaim.holds_of_wide 10 Try.f10 rfl rfl rfl rfl rfl rfl rfl ⟨rfl, rfl, rfl, rfl, rfl⟩ rfl rfl rfl rfl rfl (by kernel_rfl) Try.func10 (by kernel_rfl)
    (of_decide_eq_true (by kernel_rfl)) (by unfold Func.isWrapper; first | (rw [if_pos (by decide +kernel)]; kernel_rfl) | (rw [if_neg (by decide +kernel)]; exact ⟨rfl, rfl⟩))
    (fun os started H enc _ => lifted os started H enc)

theorem proved : Rows.RollMovesSaid := over
#print axioms proved
end Go.Proofs.Ytjpmfaodkldobaa.rollMoves
