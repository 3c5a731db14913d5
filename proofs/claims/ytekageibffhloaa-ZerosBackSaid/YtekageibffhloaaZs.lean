/- Layer 49: contracts of Pack, of the program and of the document. -/
import Derived.Test.YtekageibffhloaaZr
namespace Go.Proofs.Ytekageibffhloaa
open Go.ChangeShapes Go.WideShapes Go.ChangeAt Go.RowKit
set_option linter.unusedVariables false
set_option maxRecDepth 100000
open ZerosMath

theorem inB_at {l : List Int} {M : Int} (h : inB l M = true) (k : Nat) (hk : k < l.length) : 0 ≤ l.getD k 0 ∧ l.getD k 0 ≤ M := by
  refine (inB_iff l M).1 h _ ?_
  simp [List.getD_eq_getElem?_getD, hk]
theorem zPackBad (a : Option Addr) (c : Nat) (l : List Int) (w : World) (h : IsInts w a l) (hB : inB l 1048576 = false) :
    Calls Try.prog 45 #[.slice a l.length c] w fun e w' => e = .returned (.tuple #[.slice none 0 0, .int .i64 2]) ∧ w' = w := by
  have C := Lib.hid (zWithin a c l 1048576 w h false hB)
  clear hB h
  go_enter Try.func45, Try.ntmps45
  go_wp2_with fail
  refine C.out.mono ?_; rintro e w1 ⟨rfl, rfl⟩
  go_wp2_with fail
  go_ret2
  exact ⟨rfl, rfl⟩
set_option maxHeartbeats 1600000 in
theorem zPack (a : Option Addr) (c : Nat) (l : List Int) (w : World) (h : IsInts w a l) (hB : inB l 1048576 = true) (hl : l.length ≤ 1100000) :
    Calls Try.prog 45 #[.slice a l.length c] w fun e w' => ∃ v', e = .returned (.tuple #[v', .int .i64 0]) ∧ w'.ownsRow w.heap.size 3 1 v' (packL 0 l).length (intCells (packL 0 l)) ∧ Below w.heap.size w w' := by
  obtain ⟨i0, hi, hz0, hz1, hz2⟩ := info_get info_int
  have C := Lib.hid (zWithin a c l 1048576 w h true hB)
  have HB := Lib.hid hB
  have HI := Lib.hid h
  have hpl := packL_length 0 l
  clear hB h
  go_enter Try.func45, Try.ntmps45
  go_wp2_with fail
  refine C.out.mono ?_; rintro e w1 ⟨rfl, rfl⟩
  go_wp2_with fail
  go_loopw [4, 5, 13] (fun u r i wr => ∃ (k m : Nat) (xs : List Int), k ≤ l.length ∧ m ≤ k ∧ i = .int .i64 k ∧ r = .int .i64 m ∧ wr.ownsRow w1.heap.size 3 1 u xs.length (intCells xs) ∧ Below w1.heap.size w1 wr ∧ Hid (packL 0 l = xs ++ packL m (l.drop k))) (fun _ _ i _ => l.length - (intOf i).toNat)
  case atStart => exact ⟨0, 0, [], Nat.zero_le _, Nat.le_refl _, rfl, rfl, World.ownsRow_nil _ _ _ _, Below.refl _ _, Lib.hid rfl⟩
  case round =>
    obtain ⟨k, m, xs, hk, hm, rfl, rfl, hown, hb, hp⟩ := hrel
    have hxl : xs.length ≤ l.length := by have := congrArg List.length hp.out; simp at this; omega
    have hbs := hb.size
    by_cases hlt : k < l.length
    · obtain ⟨x, rfl, hxb, hx⟩ := HI.out.at k hlt
      have cx := hx k hlt
      have cx : wr.cell? (x.add k) = some (.int .i64 (l.getD k 0)) := by rw [hb.cell (by rw [add_block]; exact hxb)]; exact cx
      obtain ⟨b0, b1⟩ := inB_at HB.out k hlt
      have hp1 := hp.out
      rw [drop_getD l k hlt] at hp1
      clear hx hp
      obtain ⟨X, hX⟩ : ∃ X, l.getD k 0 = X := ⟨_, rfl⟩
      rw [hX] at cx b0 b1 hp1
      clear hX
      by_cases hx0 : X = 0
      · subst hx0
        have HP := Lib.hid (show packL 0 l = xs ++ packL (m + 1) (l.drop (k + 1)) by rw [hp1, packL, if_pos rfl])
        clear hp1
        go_wp2_with fail
        go_roundw
        case rel => exact ⟨k + 1, m + 1, xs, by omega, by omega, by go_num, by go_num, hown, hb, HP⟩
        case measure => simp [intOf]; omega
      · have e0 : (X == 0) = false := by rw [beq_eq_false_iff_ne]; exact hx0
        have HP := Lib.hid (show packL 0 l = (xs ++ signs m ++ [X + 1]) ++ packL 0 (l.drop (k + 1)) by rw [hp1, packL, if_neg hx0]; simp)
        clear hp1
        have hs := signs_length m
        have HO := Lib.hid hown
        go_wp2_with fail
        refine (zSigns w1.heap.size _ _ m xs _ HO.out hbs (by omega) (by omega)).mono ?_
        rintro e w2 ⟨v2, rfl, hown2, hb2⟩
        have hb3 := hb.trans hb2
        have hbs2 := hb3.size
        have hxy : (xs ++ signs m).length ≤ 2300000 := by simp; omega
        clear hown hb hb2
        go_wp2_with (at_builtin; refine wpList_append_own _ rfl _ _ 22 rfl w1.heap.size 3 i0 (.int .i64 0) 1 8 Try.underlying22 hi hz0 hz1 hz2 rfl (by decide) _ _ _ rfl (hown2.alloc _) ⟨w2.heap.size, 0, none⟩ 1 1 [Value.int .i64 (X + 1)] rfl rfl ?d1 ?d2 ?d3 ?d4 ?d5 ?_)
        case d1 => exact int_new1 _ _ _ _ rfl
        case d2 => exact int_one _
        case d3 => unfold maxLen; omega
        case d4 => omega
        case d5 => simp; omega
        intro v3 w3 hown3 hgrow3 _
        have hb4 : Below w1.heap.size w1 w3 := (hb3.alloc (by omega) _).grown hgrow3 (by simp; omega) (fun k hk => (hown2.lt k hk).1)
        clear hgrow3 hown2 hb3
        rw [intCells_snoc] at hown3
        go_wp2
        go_roundw
        case rel => exact ⟨k + 1, 0, _, by omega, by omega, by go_num, rfl, by have e := own_len hown3; rw [e] at hown3; exact hown3, hb4, HP⟩
        case measure => simp [intOf]; omega
    · have HE := Lib.hid (show packL 0 l = xs ++ signs m by have h := hp.out; rw [List.drop_of_length_le (by omega)] at h; exact h)
      have HO := Lib.hid hown
      clear hp
      go_wp2_with fail
      refine (zSigns w1.heap.size _ _ m xs _ HO.out hbs (by omega) (by omega)).mono ?_
      rintro e w2 ⟨v2, rfl, hown2, hb2⟩
      rw [← HE.out] at hown2
      have HO2 := Lib.hid hown2
      clear hown2 hown
      go_wp2_with fail
      go_ret2
      exact ⟨_, rfl, HO2.out, hb.trans hb2⟩
end Go.Proofs.Ytekageibffhloaa
