/- Layer 49: contracts of what Pack calls. -/
import Derived.Test.YtekageibffhloaaLi
import Derived.Test.YtekageibffhloaaZm
namespace Go.Proofs.Ytekageibffhloaa
open Go.ChangeShapes Go.WideShapes Go.ChangeAt Go.RowKit
set_option linter.unusedVariables false
set_option maxRecDepth 100000
open ZerosMath

def inB (l : List Int) (M : Int) : Bool := l.all fun x => decide (0 ≤ x) && decide (x ≤ M)
theorem inB_cons (x : Int) (l : List Int) (M : Int) : inB (x :: l) M = ((decide (0 ≤ x) && decide (x ≤ M)) && inB l M) := by simp [inB]
theorem inB_iff (l : List Int) (M : Int) : inB l M = true ↔ ∀ x ∈ l, 0 ≤ x ∧ x ≤ M := by simp [inB]
set_option maxHeartbeats 800000 in
theorem zWithin (a : Option Addr) (c : Nat) (l : List Int) (M : Int) (w : World) (h : IsInts w a l) (B : Bool) (hB : inB l M = B) :
    Calls Try.prog 73 #[.slice a l.length c, .int .i64 M] w fun e w' => e = .returned (.bool B) ∧ w' = w := by
  have hl := h.1
  have HH := Lib.hid h; clear h
  go_enter Try.func73, Try.ntmps73
  go_wp2
  go_loop [9] (fun i => ∃ k : Nat, k ≤ l.length ∧ i = .int .i64 k ∧ Hid (inB (l.drop k) M = B)) (fun i => l.length - (intOf i).toNat)
  case atStart => exact ⟨0, Nat.zero_le _, rfl, Lib.hid hB⟩
  case round =>
    obtain ⟨k, hk, rfl, ht⟩ := hrel
    clear hB
    by_cases hlt : k < l.length
    · obtain ⟨x, rfl, -, hx⟩ := HH.out.at k hlt
      have cx := hx k hlt
      clear hx
      have hs := ht.out
      rw [drop_getD l k hlt, inB_cons] at hs
      obtain ⟨X, hX⟩ : ∃ X, l.getD k 0 = X := ⟨_, rfl⟩
      rw [hX] at cx hs
      clear hX ht
      by_cases h0 : X < 0
      · have HF := Lib.hid (show false = B by rw [← hs]; simp; omega)
        clear hs
        go_wp2
        go_ret
        exact ⟨ret_b HF.out, rfl⟩
      · by_cases h1 : M < X
        · have HF := Lib.hid (show false = B by rw [← hs]; simp; omega)
          clear hs
          go_wp2
          go_ret
          exact ⟨ret_b HF.out, rfl⟩
        · have HF := Lib.hid (show inB (l.drop (k + 1)) M = B by
            have e : (decide (0 ≤ X) && decide (X ≤ M)) = true := by simp; omega
            rwa [e, Bool.true_and] at hs)
          clear hs
          go_wp2
          go_round
          case rel => exact ⟨k + 1, by omega, by go_num, HF⟩
          case measure => simp [intOf]; omega
    · have HF := Lib.hid (show true = B by have h := ht.out; rw [List.drop_of_length_le (by omega)] at h; exact h)
      go_wp2
      go_ret
      exact ⟨ret_b HF.out, rfl⟩
set_option maxHeartbeats 1600000 in
theorem zSigns (base : Nat) (v : Value) (n r : Nat) (xs : List Int) (w : World) (hown : w.ownsRow base 3 1 v n (intCells xs)) (hb0 : base ≤ w.heap.size) (hx : xs.length ≤ 4000000) (hr : r ≤ 4000000) :
    Calls Try.prog 74 #[v, .int .i64 r] w fun e w' => ∃ v', e = .returned v' ∧ w'.ownsRow base 3 1 v' (xs ++ signs r).length (intCells (xs ++ signs r)) ∧ Below base w w' := by
  obtain ⟨i0, hi, hz0, hz1, hz2⟩ := info_get info_int
  have hn := own_len hown
  subst hn
  have hs := signs_length r
  go_enter Try.func74, Try.ntmps74
  go_wp2
  go_loopw [0, 1] (fun u i wr => ∃ (m : Nat) (ys : List Int), m ≤ r ∧ i = .int .i64 m ∧ wr.ownsRow base 3 1 u (xs ++ ys).length (intCells (xs ++ ys)) ∧ Below base w wr ∧ Hid (ys ++ signs m = signs r)) (fun _ i _ => (intOf i).toNat)
  case atStart => exact ⟨r, [], Nat.le_refl _, rfl, by simpa using hown, Below.refl _ _, Lib.hid rfl⟩
  case round =>
    obtain ⟨m, ys, hm, rfl, hown, hb, hy⟩ := hrel
    have hyl : ys.length ≤ r := by have := congrArg List.length hy.out; simp at this; omega
    have hbs := hb.size
    by_cases hlt : 0 < m
    · have HY := Lib.hid (show (ys ++ [((m : Int) - 1) % 2]) ++ signs ((m - 1) / 2) = signs r by
        rw [← hy.out, signs_step m hlt, List.append_assoc, List.singleton_append]
        congr 2; omega)
      clear hy
      have hxy : (xs ++ ys).length ≤ 8000000 := by simp; omega
      go_wp2_with (at_builtin; refine wpList_append_own _ rfl _ _ 22 rfl base 3 i0 (.int .i64 0) 1 8 Try.underlying22 hi hz0 hz1 hz2 rfl (by decide) _ _ _ rfl (hown.alloc _) ⟨wr.heap.size, 0, none⟩ 1 1 [Value.int .i64 (((m : Int) - 1) % 2)] rfl rfl ?d1 ?d2 ?d3 ?d4 ?d5 ?_)
      case d1 => exact int_new1 _ _ _ _ rfl
      case d2 => exact int_one _
      case d3 => unfold maxLen; omega
      case d4 => omega
      case d5 => simp; omega
      intro v1 w1 hown1 hgrow1 _
      have hb1 : Below base w w1 := (hb.alloc (by omega) _).grown hgrow1 (by simp; omega) (fun k hk => (hown.lt k hk).1)
      clear hgrow1 hown hb
      rw [intCells_snoc, List.append_assoc] at hown1
      go_wp2
      go_roundw
      case rel => exact ⟨(m - 1) / 2, ys ++ [((m : Int) - 1) % 2], by omega, by congr 1; omega, by
        have e := own_len hown1
        rw [← e]; exact hown1, hb1, HY⟩
      case measure => simp [intOf]; omega
    · have h0 : m = 0 := by omega
      have HE := Lib.hid (show ys = signs r by rw [← hy.out, h0, signs_zero, List.append_nil])
      clear hy h0
      have hm0 : ¬ (0 < (m : Int)) := by omega
      go_wp2
      go_ret
      exact ⟨_, rfl, by rw [← HE.out]; have e := hown; rw [List.length_append] at e; exact e, hb⟩
set_option maxHeartbeats 1600000 in
theorem rRun (r : Nat) (w : World) (hr : r ≤ 4000000) :
    Calls Try.prog 75 #[.int .i64 r] w fun e w' => ∃ v', e = .returned v' ∧ w'.ownsRow w.heap.size 3 1 v' (signs r).length (intCells (signs r)) ∧ Below w.heap.size w w' := by
  obtain ⟨i0, hi, hz0, hz1, hz2⟩ := info_get info_int
  have hs := signs_length r
  go_enter Try.func75, Try.ntmps75
  go_wp2
  go_loopw [0, 3] (fun i u wr => ∃ (m : Nat) (ys : List Int), m ≤ r ∧ i = .int .i64 m ∧ wr.ownsRow w.heap.size 3 1 u ys.length (intCells ys) ∧ Below w.heap.size w wr ∧ Hid (ys ++ signs m = signs r)) (fun i _ _ => (intOf i).toNat)
  case atStart => exact ⟨r, [], Nat.le_refl _, rfl, World.ownsRow_nil _ _ _ _, Below.refl _ _, Lib.hid rfl⟩
  case round =>
    obtain ⟨m, ys, hm, rfl, hown, hb, hy⟩ := hrel
    have hyl : ys.length ≤ r := by have := congrArg List.length hy.out; simp at this; omega
    have hbs := hb.size
    by_cases hlt : 0 < m
    · have HY := Lib.hid (show (ys ++ [((m : Int) - 1) % 2]) ++ signs ((m - 1) / 2) = signs r by
        rw [← hy.out, signs_step m hlt, List.append_assoc, List.singleton_append]
        congr 2; omega)
      clear hy
      go_wp2_with (at_builtin; refine wpList_append_own _ rfl _ _ 22 rfl w.heap.size 3 i0 (.int .i64 0) 1 8 Try.underlying22 hi hz0 hz1 hz2 rfl (by decide) _ _ _ rfl (hown.alloc _) ⟨wr.heap.size, 0, none⟩ 1 1 [Value.int .i64 (((m : Int) - 1) % 2)] rfl rfl ?d1 ?d2 ?d3 ?d4 ?d5 ?_)
      case d1 => exact int_new1 _ _ _ _ rfl
      case d2 => exact int_one _
      case d3 => unfold maxLen; omega
      case d4 => omega
      case d5 => simp; omega
      intro v1 w1 hown1 hgrow1 _
      have hb1 : Below w.heap.size w w1 := (hb.alloc (by omega) _).grown hgrow1 (by simp; omega) (fun k hk => (hown.lt k hk).1)
      clear hgrow1 hown hb
      rw [intCells_snoc] at hown1
      go_wp2
      go_roundw
      case rel => exact ⟨(m - 1) / 2, ys ++ [((m : Int) - 1) % 2], by omega, by congr 1; omega, by
        have e := own_len hown1
        rw [← e]; exact hown1, hb1, HY⟩
      case measure => simp [intOf]; omega
    · have h0 : m = 0 := by omega
      have HE := Lib.hid (show ys = signs r by rw [← hy.out, h0, signs_zero, List.append_nil])
      clear hy h0
      have hm0 : ¬ (0 < (m : Int)) := by omega
      go_wp2
      go_ret
      exact ⟨_, rfl, by rw [← HE.out]; exact hown, hb⟩
end Go.Proofs.Ytekageibffhloaa
