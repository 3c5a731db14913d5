/- Layer 49: contracts of the document's Pack. -/
import Derived.Test.YtekageibffhloaaZs
namespace Go.Proofs.Ytekageibffhloaa
open Go.ChangeShapes Go.WideShapes Go.ChangeAt Go.RowKit
set_option linter.unusedVariables false
set_option maxRecDepth 100000
open ZerosMath

set_option maxHeartbeats 1600000 in
theorem rPackBad (a : Option Addr) (c : Nat) (l : List Int) (w : World) (h : IsInts w a l) (hB : inB l 1048576 = false) :
    Calls Try.prog 46 #[.slice a l.length c] w fun e w' => e = .returned (.tuple #[.slice none 0 0, .int .i64 2]) ∧ w' = w := by
  have hl := h.1
  have HH := Lib.hid h; clear h
  go_enter Try.func46, Try.ntmps46
  go_wp2
  go_loop [4] (fun i => ∃ k : Nat, k ≤ l.length ∧ i = .int .i64 k ∧ Hid (inB (l.drop k) 1048576 = false)) (fun i => l.length - (intOf i).toNat)
  case atStart => exact ⟨0, Nat.zero_le _, rfl, Lib.hid hB⟩
  case round =>
    obtain ⟨k, hk, rfl, ht⟩ := hrel
    clear hB
    by_cases hlt : k < l.length
    · obtain ⟨x, rfl, -, hx⟩ := HH.out.at k hlt
      have cx := hx k hlt
      clear hx
      have hs := ht.out
      rw [drop_getD l k hlt, inB_cons] at hs
      obtain ⟨X, hX⟩ : ∃ X, l.getD k 0 = X := ⟨_, rfl⟩
      rw [hX] at cx hs
      clear hX ht
      by_cases h0 : X < 0
      · clear hs
        go_wp2
        go_ret2
        exact ⟨rfl, rfl⟩
      · by_cases h1 : 1048576 < X
        · clear hs
          go_wp2
          go_ret2
          exact ⟨rfl, rfl⟩
        · have HF := Lib.hid (show inB (l.drop (k + 1)) 1048576 = false by
            have e : (decide (0 ≤ X) && decide (X ≤ 1048576)) = true := by simp; omega
            rwa [e, Bool.true_and] at hs)
          clear hs
          go_wp2
          go_round
          case rel => exact ⟨k + 1, by omega, by go_num, HF⟩
          case measure => simp [intOf]; omega
    · exfalso
      have h := ht.out
      rw [List.drop_of_length_le (by omega)] at h
      simp [inB] at h
set_option maxHeartbeats 3200000 in
theorem rPack (a : Option Addr) (c : Nat) (l : List Int) (w : World) (h : IsInts w a l) (hB : inB l 1048576 = true) (hl : l.length ≤ 4000) :
    Calls Try.prog 46 #[.slice a l.length c] w fun e w' => ∃ v', e = .returned (.tuple #[v', .int .i64 0]) ∧ w'.ownsRow w.heap.size 3 1 v' (packL 0 l).length (intCells (packL 0 l)) ∧ Below w.heap.size w w' := by
  obtain ⟨i0, hi, hz0, hz1, hz2⟩ := info_get info_int
  have HB := Lib.hid hB
  have HI := Lib.hid h
  have hpl := packL_length 0 l
  clear hB h
  go_enter Try.func46, Try.ntmps46
  go_wp2
  go_loop [4] (fun i => ∃ k : Nat, k ≤ l.length ∧ i = .int .i64 k) (fun i => l.length - (intOf i).toNat)
  case atStart => exact ⟨0, Nat.zero_le _, rfl⟩
  case round =>
    obtain ⟨k0, hk0, rfl⟩ := hrel
    by_cases hlt0 : k0 < l.length
    · obtain ⟨x, rfl, -, hx⟩ := HI.out.at k0 hlt0
      have cx := hx k0 hlt0
      obtain ⟨b0, b1⟩ := inB_at HB.out k0 hlt0
      clear hx
      obtain ⟨X, hX⟩ : ∃ X, l.getD k0 0 = X := ⟨_, rfl⟩
      rw [hX] at cx b0 b1
      clear hX
      go_wp2
      go_round
      case rel => exact ⟨k0 + 1, by omega, by go_num⟩
      case measure => simp [intOf]; omega
    · go_wp2
      go_loopw [5, 6, 7] (fun u r i wr => ∃ (k m : Nat) (xs : List Int), k ≤ l.length ∧ m ≤ k ∧ i = .int .i64 k ∧ r = .int .i64 m ∧ wr.ownsRow w.heap.size 3 1 u xs.length (intCells xs) ∧ Below w.heap.size w wr ∧ Hid (packL 0 l = xs ++ packL m (l.drop k))) (fun _ _ i _ => l.length - (intOf i).toNat)
      case atStart => exact ⟨0, 0, [], Nat.zero_le _, Nat.le_refl _, rfl, rfl, World.ownsRow_nil _ _ _ _, Below.refl _ _, Lib.hid rfl⟩
      case round =>
        clear hlt0 hk0
        obtain ⟨k, m, xs, hk, hm, rfl, rfl, hown, hb, hp⟩ := hrel
        have hxl : xs.length ≤ l.length := by have := congrArg List.length hp.out; simp at this; omega
        have hbs := hb.size
        by_cases hlt : k < l.length
        · obtain ⟨x, rfl, hxb, hx⟩ := HI.out.at k hlt
          have cx0 := hx k hlt
          have cx : wr.cell? (x.add k) = some (.int .i64 (l.getD k 0)) := by rw [hb.cell (by rw [add_block]; exact hxb)]; exact cx0
          obtain ⟨b0, b1⟩ := inB_at HB.out k hlt
          have hp1 := hp.out
          rw [drop_getD l k hlt] at hp1
          clear hx hp
          obtain ⟨X, hX⟩ : ∃ X, l.getD k 0 = X := ⟨_, rfl⟩
          rw [hX] at cx cx0 b0 b1 hp1
          clear hX
          by_cases hx0 : X = 0
          · subst hx0
            have HP := Lib.hid (show packL 0 l = xs ++ packL (m + 1) (l.drop (k + 1)) by rw [hp1, packL, if_pos rfl])
            clear hp1 cx0
            go_wp2_with fail
            go_roundw
            case rel => exact ⟨k + 1, m + 1, xs, by omega, by omega, by go_num, by go_num, hown, hb, HP⟩
            case measure => simp [intOf]; omega
          · have e0 : (X == 0) = false := by rw [beq_eq_false_iff_ne]; exact hx0
            have HP := Lib.hid (show packL 0 l = (xs ++ signs m ++ [X + 1]) ++ packL 0 (l.drop (k + 1)) by rw [hp1, packL, if_neg hx0]; simp)
            clear hp1
            have hs := signs_length m
            have HX := Lib.hid cx0
            clear cx0
            go_wp2_with fail
            refine (rRun m _ (by omega)).mono ?_
            rintro e w2 ⟨v2, rfl, hown2, hb2⟩
            have hb3 := hb.trans (hb2.mono hbs)
            have hbs2 := hb3.size
            have hownA := Keeps.ownsRow (S := fun _ => False) (Keeps.of_below hb2) hown (fun _ _ h => h)
            have HL := Lib.hid (fun k hk => (hown.lt k hk).1)
            clear hown hb hb2 cx
            go_wp2_with (at_builtin; refine wpList_append_rows rfl _ _ 22 rfl w.heap.size wr.heap.size 3 i0 (.int .i64 0) 8 Try.underlying22 hi hz0 hz1 hz2 rfl _ _ _ _ _ _ rfl hownA rfl hown2 (intCells_one _) ?c3 ?c4 ?c5 ?_)
            case c3 => unfold maxLen; omega
            case c4 => omega
            case c5 => omega
            intro v3 w3 hown3 hgrow3
            have hb4 : Below w.heap.size w w3 := hb3.grown hgrow3 (by omega) HL.out
            rw [intCells_append] at hown3
            clear hgrow3 hown2 hb3 hownA
            have hbs3 := hb4.size
            have cx : w3.cell? (x.add k) = some (.int .i64 X) := by rw [hb4.cell (by rw [add_block]; exact hxb)]; exact HX.out
            go_wp2_with (at_builtin; refine wpList_append_own _ rfl _ _ 22 rfl w.heap.size 3 i0 (.int .i64 0) 1 8 Try.underlying22 hi hz0 hz1 hz2 rfl (by decide) _ _ _ rfl (hown3.alloc _) ⟨w3.heap.size, 0, none⟩ 1 1 [Value.int .i64 (X + 1)] rfl rfl ?d1 ?d2 ?d3 ?d4 ?d5 ?_)
            case d1 => exact int_new1 _ _ _ _ rfl
            case d2 => exact int_one _
            case d3 => unfold maxLen; omega
            case d4 => omega
            case d5 => simp; omega
            intro v4 w4 hown4 hgrow4 _
            have hb5 : Below w.heap.size w w4 := (hb4.alloc (by omega) _).grown hgrow4 (by simp; omega) (fun k hk => (hown3.lt k hk).1)
            clear hgrow4 hown3 hb4 cx
            rw [intCells_snoc] at hown4
            go_wp2
            go_roundw
            case rel => exact ⟨k + 1, 0, _, by omega, by omega, by go_num, rfl, by have e := own_len hown4; rw [e] at hown4; exact hown4, hb5, HP⟩
            case measure => simp [intOf]; omega
        · have HE := Lib.hid (show packL 0 l = xs ++ signs m by have h := hp.out; rw [List.drop_of_length_le (by omega)] at h; exact h)
          have hs := signs_length m
          clear hp
          go_wp2_with fail
          refine (rRun m _ (by omega)).mono ?_
          rintro e w2 ⟨v2, rfl, hown2, hb2⟩
          have hb3 := hb.trans (hb2.mono hbs)
          have hbs2 := hb3.size
          have hownA := Keeps.ownsRow (S := fun _ => False) (Keeps.of_below hb2) hown (fun _ _ h => h)
          have HL := Lib.hid (fun k hk => (hown.lt k hk).1)
          clear hown hb hb2
          go_wp2_with (at_builtin; refine wpList_append_rows rfl _ _ 22 rfl w.heap.size wr.heap.size 3 i0 (.int .i64 0) 8 Try.underlying22 hi hz0 hz1 hz2 rfl _ _ _ _ _ _ rfl hownA rfl hown2 (intCells_one _) ?f3 ?f4 ?f5 ?_)
          case f3 => unfold maxLen; omega
          case f4 => omega
          case f5 => omega
          intro v3 w3 hown3 hgrow3
          have hb4 : Below w.heap.size w w3 := hb3.grown hgrow3 (by omega) HL.out
          rw [intCells_append, ← HE.out] at hown3
          have e := own_len hown3
          rw [e] at hown3
          have HO := Lib.hid hown3
          clear hgrow3 hown2 hb3 hownA hown3 e
          go_wp2
          go_ret2
          exact ⟨_, rfl, HO.out, hb4⟩
end Go.Proofs.Ytekageibffhloaa
