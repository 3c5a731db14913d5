/- Layer 42: places of a pattern, of the program and of the document. -/
import Derived.Test.YtdonecbcnkipbaaQ2
import Derived.Lib.Strings
namespace Go.Proofs.Ytdonecbcnkipbaa
open Go.ChangeShapes Go.WideShapes Go.ChangeAt Go.RowKit
set_option linter.unusedVariables false
set_option maxRecDepth 100000
open RollMath
def findV (s p : ByteArray) : List Int := findL s.data.toList p.data.toList
theorem L_len (p : ByteArray) : p.data.toList.length = p.size := by simp
theorem all_places (s : List UInt8) (k : Nat) : findTo s [] k = (List.range k).map (fun i : Nat => (i : Int)) := by
  induction k with
  | zero => rfl
  | succ k ih => rw [findTo_nil, ih, List.range_succ, List.map_append]; rfl
theorem ne_empty (p : ByteArray) (h : 0 < p.size) : p.toList.isEmpty = false := by
  rw [ByteArray.toList_eq, List.isEmpty_eq_false_iff]
  intro e
  have : p.size = 0 := by rw [← L_len, e]; rfl
  omega
theorem own_last {B : Nat} {w : World} {v : Value} {l : List Int} {X Y : Int} (h : OwnI B w v (l ++ [X])) (e : X = Y) : OwnI B w v (l ++ [Y]) := e ▸ h
theorem cut_at (s p : ByteArray) (i : Nat) : ((s.extract i (i + p.size)).toList == p.toList) = decide ((s.data.toList.drop i).take p.data.toList.length = p.data.toList) := by
  rw [Lib.extract_toList, ByteArray.toList_eq, show i + p.size - i = p.data.toList.length by rw [L_len]; omega]
  rw [Bool.eq_iff_iff, beq_iff_eq, decide_eq_true_iff]
set_option maxHeartbeats 3200000 in
theorem dFind (s p : ByteArray) (hs : s.size ≤ 1048576) (hp : p.size ≤ 1048576) (w : World) :
    Calls Try.prog 12 #[.string s, .string p] w fun e w' => ∃ v', e = .returned v' ∧ OwnI w.heap.size w' v' (findV s p) ∧ Below w.heap.size w w' := by
  have HC := Lib.hid (cut_at s p)
  have HF : Hid (findV s p = findTo s.data.toList p.data.toList (s.size + 1 - p.size)) := by
    show _ = _
    unfold findV findL
    rw [L_len, L_len]
    by_cases h : p.size ≤ s.size
    · rw [if_pos h]
    · rw [if_neg h, show s.size + 1 - p.size = 0 by omega]; rfl
  go_enter Try.func12, Try.ntmps12
  go_wp2
  go_loopw [5, 6] (fun u i wr => ∃ k : Nat, k ≤ s.size + 1 - p.size ∧ i = .int .i64 k ∧ OwnI w.heap.size wr u (findTo s.data.toList p.data.toList k) ∧ Below w.heap.size w wr) (fun _ i _ => s.size + 1 - (intOf i).toNat)
  case atStart => exact ⟨0, Nat.zero_le _, rfl, OwnS.nil, Below.refl _ _⟩
  case round =>
    obtain ⟨k, hk, rfl, hown, hb⟩ := hrel
    have hbs := hb.size
    by_cases hlt : k + p.size ≤ s.size
    · have hli : decide ((k : Int) + (p.size : Int) ≤ (s.size : Int)) = true := by simp; omega
      have hle : (k : Int) + (p.size : Int) ≤ (s.size : Int) := by omega
      have htn : ((k : Int) + (p.size : Int)).toNat = k + p.size := by omega
      have hsl : ∀ W, (Instr.slice 9 (.string s) (some (.int .i64 (k : Int))) (some (.int .i64 ((k : Int) + (p.size : Int)))) none).run Try.prog W = .ok (.string (s.extract k (k + p.size))) W := by
        intro W
        have := run_slice_string (P := Try.prog) W 9 s .i64 .i64 (k : Int) ((k : Int) + (p.size : Int)) Try.underlying9 (by omega) (by omega) hle
        rwa [htn, Int.toNat_natCast] at this
      have hc := HC.out k
      have hft : findTo s.data.toList p.data.toList (k + 1) = if (s.data.toList.drop k).take p.data.toList.length = p.data.toList then findTo s.data.toList p.data.toList k ++ [(k : Int)] else findTo s.data.toList p.data.toList k := rfl
      by_cases hm : (s.data.toList.drop k).take p.data.toList.length = p.data.toList
      · rw [decide_eq_true hm] at hc
        rw [if_pos hm] at hft
        have HL := Lib.hid (show (findTo s.data.toList p.data.toList k).length ≤ 1099511627776 by have := findTo_len s.data.toList p.data.toList k; omega)
        have HB := Lib.hid hbs
        have HE := Lib.hid hft
        clear hft hm
        go_wp2_with (at_builtin; refine app_int rfl (.tmp 25) (.tmp 27) rfl _ _ _ _ (k : Int) rfl hown wr.heap.size 1 rfl rfl HL.out HB.out ?_; intro v3 w3 hown3 hb3 _)
        rw [← HE.out] at hown3
        have hown3_ := Lib.hid hown3
        clear hown3
        go_wp2
        go_roundw
        case rel => exact ⟨k + 1, by omega, by go_num, hown3_.out, hb.trans hb3⟩
        case measure => simp [intOf]; omega
      · rw [decide_eq_false hm] at hc
        rw [if_neg hm] at hft
        have HE := Lib.hid hft
        have hown_ := Lib.hid hown
        clear hown
        clear hft hm
        go_wp2
        go_roundw
        case rel => exact ⟨k + 1, by omega, by go_num, by rw [HE.out]; exact hown_.out, hb⟩
        case measure => simp [intOf]; omega
    · have hkk : Hid (k = s.size + 1 - p.size ∨ (k = 0 ∧ s.size + 1 - p.size = 0)) := by show _ ∨ _; omega
      have hli : decide ((k : Int) + (p.size : Int) ≤ (s.size : Int)) = false := by simp; omega
      have hke : findTo s.data.toList p.data.toList k = findV s p := by rw [HF.out]; congr 1; omega
      rw [hke] at hown
      have HV := Lib.hid hown
      clear hown hke
      go_wp2
      go_ret
      exact ⟨_, rfl, HV.out, hb⟩
end Go.Proofs.Ytdonecbcnkipbaa
