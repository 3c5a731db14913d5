/- Layer 24: a row of one number, sorted by the library. -/
import Derived.Test.YtofmjcelmbkebaaAF10
namespace Go.Proofs.Ytofmjcelmbkebaa
open Go.ChangeShapes Go.WideShapes Go.ChangeAt Go.RowKit
set_option linter.unusedVariables false
set_option linter.unusedSimpArgs false
set_option maxRecDepth 100000
set_option maxHeartbeats 1600000 in
theorem sIns (p : Value) (f : Value) (w : World) : Calls Try.prog 59 #[p, .int .i64 0, .int .i64 1, f] w fun e w' => e = .returned (.tuple #[]) ∧ w' = w := by
  go_enter Try.func59, Try.ntmps59
  go_wp2_with fail
  refine wp_loop_rounds 1 ?_
  rw [rounds_succ]
  go_wp2_with fail
  go_end0
  exact ⟨rfl, rfl⟩
set_option maxHeartbeats 1600000 in
theorem sStable (p : Value) (f : Value) (w : World) : Calls Try.prog 51 #[p, .int .i64 1, f] w fun e w' => e = .returned (.tuple #[]) ∧ w' = w := by
  have C := Lib.hid (fun W => sIns p f W)
  go_enter Try.func51, Try.ntmps51
  go_wp2_with fail
  refine wp_loop_rounds 1 ?_
  rw [rounds_succ]
  go_wp2_with fail
  refine (C.out _).mono ?_; rintro e w2 ⟨rfl, rfl⟩
  go_wp2_with fail
  refine wp_loop_rounds 1 ?_
  rw [rounds_succ]
  go_wp2_with fail
  go_end0
  exact ⟨rfl, rfl⟩
set_option maxHeartbeats 1600000 in
theorem sSort (a : Option Addr) (c : Nat) (f : Value) (w : World) : Calls Try.prog 34 #[.slice a 1 c, f] w fun e w' => e = .returned (.tuple #[]) ∧ w' = w := by
  have C := Lib.hid (fun p W => sStable p f W)
  go_enter Try.func34, Try.ntmps34
  go_wp2_with fail
  refine (C.out _ _).mono ?_; rintro e w2 ⟨rfl, rfl⟩
  go_wp2_with fail
  go_end0
  exact ⟨rfl, rfl⟩
/-- A row in which one number alone is above 0. -/
def OneAt (l : List Int) (S : Nat) (v : Int) : Prop := S < l.length ∧ 0 < v ∧ ∀ i, l.getD i 0 = if i = S then v else 0
def sy (S i : Nat) : List Int := if i ≤ S then [] else [(S : Int)]
theorem sy_same (S i : Nat) (h : i ≠ S) : sy S (i + 1) = sy S i := by
  unfold sy
  by_cases h1 : i + 1 ≤ S
  · rw [if_pos h1, if_pos (by omega)]
  · rw [if_neg h1, if_neg (by omega)]
theorem sy_hit (S : Nat) : sy S (S + 1) = sy S S ++ [(S : Int)] := by
  unfold sy
  rw [if_neg (by omega), if_pos (Nat.le_refl _)]; rfl
theorem sy_end (S n : Nat) (h : S < n) : sy S n = [(S : Int)] := by
  unfold sy
  rw [if_neg (by omega)]
theorem sy_len (S i : Nat) : (sy S i).length ≤ 1099511627776 := by
  unfold sy
  split <;> simp
set_option maxHeartbeats 1600000 in
theorem pByFreq (a : Option Addr) (c n S : Nat) (v : Int) (l : List Int) (w : World) (hl : l.length = n) (h : IsInts w a l) (hn : n ≤ 1000) (ho : OneAt l S v) :
    Calls Try.prog 21 #[.slice a n c] w fun e w' => ∃ u, e = .returned u ∧ OwnI w.heap.size w' u [(S : Int)] ∧ Below w.heap.size w w' := by
  have HI := Lib.hid h
  have HL := Lib.hid hl
  have HO := Lib.hid ho
  have hS : S < n := by have := ho.1; omega
  have CS := Lib.hid (fun a c f W => sSort a c f W)
  clear h hl ho
  go_enter Try.func21, Try.ntmps21
  have HB0 := Lib.hid ((Below.refl w.heap.size w).alloc (Nat.le_refl _) (.cells #[.slice a n c] 22))
  go_wp2_with fail
  go_loopw [3, 8] (fun sv iv wr => ∃ i : Nat, i ≤ n ∧ iv = .int .i64 i ∧ Hid (OwnI w.heap.size wr sv (sy S i)) ∧ Hid (Below w.heap.size w wr)) (fun _ iv _ => n - (intOf iv).toNat)
  case atStart => exact ⟨0, Nat.zero_le _, rfl, Lib.hid (by unfold sy; rw [if_pos (Nat.zero_le _)]; exact OwnS.nil), HB0⟩
  case round =>
    obtain ⟨i, hi, rfl, HS, HB⟩ := hrel
    by_cases hlt : i < n
    · have hii : (i : Int) < n := by omega
      obtain ⟨x, rfl, hxb, hc⟩ := (HI.out.kept HB.out).at i (by rw [HL.out]; exact hlt)
      have cx := hc i (by rw [HL.out]; exact hlt)
      rw [HO.out.2.2 i] at cx
      by_cases hiS : i = S
      · subst hiS
        rw [if_pos rfl] at cx
        have hv := HO.out.2.1
        have HLn := Lib.hid (sy_len i i)
        have HBs := Lib.hid HB.out.size
        clear hc
        go_wp2_with (at_builtin; refine app_int rfl (.tmp 15) (.tmp 17) rfl w.heap.size _ _ _ (i : Int) rfl HS.out wr.heap.size 1 rfl rfl HLn.out HBs.out ?_; intro v' w' ho hb hg)
        have HS2 := Lib.hid (show OwnI w.heap.size w' v' (sy i (i + 1)) by rw [sy_hit]; exact ho)
        have HB2 := Lib.hid (HB.out.trans hb)
        clear ho hb hg HS HB
        go_wp2_with fail
        go_roundw
        case rel => exact ⟨i + 1, by omega, by go_num, HS2, HB2⟩
        case measure => simp [intOf] <;> omega
      · rw [if_neg hiS] at cx
        have HS2 := Lib.hid (show OwnI w.heap.size wr _ (sy S (i + 1)) by rw [sy_same S i hiS]; exact HS.out)
        clear hc
        go_wp2_with fail
        go_roundw
        case rel => exact ⟨i + 1, by omega, by go_num, HS2, HB⟩
        case measure => simp [intOf] <;> omega
    · obtain rfl : i = n := by omega
      have HS2 := HS.out
      rw [sy_end S i hS] at HS2
      obtain ⟨g, cap, rfl, -, -⟩ := HS2.form (by simp) (by decide)
      have HS3 := Lib.hid HS2
      have hcells : ([(S : Int)] : List Int).length = 1 := rfl
      clear HS2 HS
      simp only [List.length_singleton] at *
      go_wp2_with fail
      refine (CS.out _ _ _ _).mono ?_; rintro e w2 ⟨rfl, rfl⟩
      go_wp2_with fail
      go_ret
      exact ⟨_, rfl, HS3.out, HB.out⟩
end Go.Proofs.Ytofmjcelmbkebaa
