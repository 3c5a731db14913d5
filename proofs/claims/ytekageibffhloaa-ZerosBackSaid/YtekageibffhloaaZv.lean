/- Layer 49: contracts of the document's Unpack. -/
import Derived.Test.YtekageibffhloaaZu
namespace Go.Proofs.Ytekageibffhloaa
open Go.ChangeShapes Go.WideShapes Go.ChangeAt Go.RowKit
set_option linter.unusedVariables false
set_option maxRecDepth 100000
open ZerosMath
set_option maxHeartbeats 1600000 in
theorem rUnBad (a : Option Addr) (c : Nat) (l : List Int) (w : World) (h : IsInts w a l) (hB : inB l 1048577 = false) :
    Calls Try.prog 48 #[.slice a l.length c] w fun e w' => e = .returned (.tuple #[.slice none 0 0, .int .i64 2]) ∧ w' = w := by
  have hl := h.1
  have HH := Lib.hid h; clear h
  go_enter Try.func48, Try.ntmps48
  go_wp2
  go_loop [4] (fun i => ∃ k : Nat, k ≤ l.length ∧ i = .int .i64 k ∧ Hid (inB (l.drop k) 1048577 = false)) (fun i => l.length - (intOf i).toNat)
  case atStart => exact ⟨0, Nat.zero_le _, rfl, Lib.hid hB⟩
  case round =>
    obtain ⟨k, hk, rfl, ht⟩ := hrel
    clear hB
    by_cases hlt : k < l.length
    · obtain ⟨x, rfl, -, hx⟩ := HH.out.at k hlt
      have cx := hx k hlt
      clear hx
      have hs := ht.out
      rw [drop_getD l k hlt, inB_cons] at hs
      obtain ⟨X, hX⟩ : ∃ X, l.getD k 0 = X := ⟨_, rfl⟩
      rw [hX] at cx hs
      clear hX ht
      by_cases h0 : X < 0
      · clear hs
        go_wp2
        go_ret2
        exact ⟨rfl, rfl⟩
      · by_cases h1 : 1048577 < X
        · clear hs
          go_wp2
          go_ret2
          exact ⟨rfl, rfl⟩
        · have HF := Lib.hid (show inB (l.drop (k + 1)) 1048577 = false by
            have e : (decide (0 ≤ X) && decide (X ≤ 1048577)) = true := by simp; omega
            rwa [e, Bool.true_and] at hs)
          clear hs
          go_wp2
          go_round
          case rel => exact ⟨k + 1, by omega, by go_num, HF⟩
          case measure => simp [intOf]; omega
    · exfalso
      have h := ht.out
      rw [List.drop_of_length_le (by omega)] at h
      simp [inB] at h
set_option maxHeartbeats 6400000 in
theorem rUn (a : Option Addr) (c : Nat) (l : List Int) (w : World) (h : IsInts w a l) (hB : inB l 1048577 = true) (hl : l.length ≤ 2000) (OV : Bool) (hOV : over 1 0 l = OV) :
    Calls Try.prog 48 #[.slice a l.length c] w (UPost OV l w) := by
  obtain ⟨i0, hi, hz0, hz1, hz2⟩ := info_get info_int
  have HB := Lib.hid hB
  have HI := Lib.hid h
  have HOV0 := Lib.hid hOV
  clear hB h hOV
  go_enter Try.func48, Try.ntmps48
  go_wp2
  go_loop [4] (fun i => ∃ k : Nat, k ≤ l.length ∧ i = .int .i64 k) (fun i => l.length - (intOf i).toNat)
  case atStart => exact ⟨0, Nat.zero_le _, rfl⟩
  case round =>
    obtain ⟨k0, hk0, rfl⟩ := hrel
    by_cases hlt0 : k0 < l.length
    · obtain ⟨x, rfl, -, hx⟩ := HI.out.at k0 hlt0
      have cx := hx k0 hlt0
      obtain ⟨b0, b1⟩ := inB_at HB.out k0 hlt0
      clear hx
      obtain ⟨X, hX⟩ : ∃ X, l.getD k0 0 = X := ⟨_, rfl⟩
      rw [hX] at cx b0 b1
      clear hX
      go_wp2
      go_round
      case rel => exact ⟨k0 + 1, by omega, by go_num⟩
      case measure => simp [intOf]; omega
    · go_wp2
      go_loopw [5, 6, 7] (fun u r i wr => ∃ (k p : Nat) (ys : List Int), k ≤ l.length ∧ i = .int .i64 k ∧ r = .int .i64 p ∧ 1 ≤ p ∧ p ≤ ys.length + 1 ∧ ys.length ≤ 1048576 ∧ wr.ownsRow w.heap.size 3 1 u ys.length (intCells ys) ∧ Below w.heap.size w wr ∧ Hid (over p ys.length (l.drop k) = OV) ∧ Hid (unpackL 1 l = ys ++ unpackL p (l.drop k))) (fun _ _ i _ => l.length - (intOf i).toNat)
      case atStart => exact ⟨0, 1, [], Nat.zero_le _, rfl, rfl, by omega, by simp, by simp, World.ownsRow_nil _ _ _ _, Below.refl _ _, HOV0, Lib.hid rfl⟩
      case round =>
        clear hlt0 hk0
        obtain ⟨k, p, ys, hk, rfl, rfl, hp1, hp2, hy, hown, hb, ho, hu⟩ := hrel
        obtain ⟨aa, cc, hv⟩ := own_slice hown
        subst hv
        have hbs := hb.size
        by_cases hlt : k < l.length
        · obtain ⟨x, rfl, hxb, hx⟩ := HI.out.at k hlt
          have cx := hx k hlt
          have cx : wr.cell? (x.add k) = some (.int .i64 (l.getD k 0)) := by rw [hb.cell (by rw [add_block]; exact hxb)]; exact cx
          obtain ⟨b0, b1⟩ := inB_at HB.out k hlt
          have ho := ho.out
          have hu := hu.out
          rw [drop_getD l k hlt] at ho hu
          clear hx
          obtain ⟨X, hX⟩ : ∃ X, l.getD k 0 = X := ⟨_, rfl⟩
          rw [hX] at cx b0 b1 ho hu
          clear hX
          rcases (show X = 0 ∨ X = 1 ∨ 2 ≤ X by omega) with hx | hx | hx
          · subst hx
            rw [over, if_pos (by omega)] at ho
            rw [unpackL, if_pos (by omega)] at hu
            have em : p * ((0 : Int).toNat + 1) = p := by simp
            rw [em] at ho hu
            clear em
            by_cases hm : 1048576 - ys.length < p
            · have HOV := Lib.hid (show OV = true by rw [← ho, if_pos hm])
              clear ho hu
              go_wp2_with fail
              go_ret2
              exact ⟨hb, .inl ⟨HOV.out, rfl⟩⟩
            · have HOV := Lib.hid (show over (p * 2) (ys ++ List.replicate (p) (0 : Int)).length (l.drop (k + 1)) = OV by rw [← ho, if_neg hm]; simp)
              have HU := Lib.hid (show unpackL 1 l = (ys ++ List.replicate (p) (0 : Int)) ++ unpackL (p * 2) (l.drop (k + 1)) by rw [hu]; simp)
              clear ho hu
              go_wp2_with fail
              obtain ⟨wo, rfl⟩ : ∃ wo : World, wo = wr := ⟨_, rfl⟩
              go_loopw [5, 10] (fun u j wi => ∃ (jn : Nat), jn ≤ (p) ∧ j = .int .i64 jn ∧ wi.ownsRow w.heap.size 3 1 u (ys ++ List.replicate jn (0)).length (intCells (ys ++ List.replicate jn (0))) ∧ Below w.heap.size w wi) (fun _ j _ => (p) - (intOf j).toNat)
              case atStart => exact ⟨0, Nat.zero_le _, rfl, by simpa using hown, hb⟩
              case round =>
                clear hown hb hbs
                obtain ⟨jn, hj, rfl, hown, hb⟩ := hrel
                have hbs := hb.size
                have hyl : (ys ++ List.replicate jn (0)).length ≤ 1048576 := by simp; omega
                by_cases hjl : jn < (p)
                · go_wp2_with (at_builtin; refine wpList_append_own _ rfl _ _ 22 rfl w.heap.size 3 i0 (.int .i64 0) 1 8 Try.underlying22 hi hz0 hz1 hz2 rfl (by decide) _ _ _ rfl (hown.alloc _) ⟨wr.heap.size, 0, none⟩ 1 1 [Value.int .i64 ((0))] rfl rfl ?d1 ?d2 ?d3 ?d4 ?d5 ?_)
                  case d1 => exact int_new1 _ _ _ _ rfl
                  case d2 => exact int_one _
                  case d3 => unfold maxLen; omega
                  case d4 => omega
                  case d5 => simp; omega
                  intro v4 w4 hown4 hgrow4 _
                  have hb5 : Below w.heap.size w w4 := (hb.alloc (by omega) _).grown hgrow4 (by simp; omega) (fun k hk => (hown.lt k hk).1)
                  clear hgrow4 hown hb
                  rw [intCells_snoc, rep_snoc] at hown4
                  go_wp2
                  go_roundw
                  case rel => exact ⟨jn + 1, by omega, by go_num, by have e := own_len hown4; rw [e] at hown4; exact hown4, hb5⟩
                  case measure => simp [intOf]; omega
                · have hjn : jn = (p) := by omega
                  rw [hjn] at hown hyl
                  clear hjn
                  go_wp2_with fail
                  go_roundw
                  case rel => exact ⟨k + 1, (p * 2), _, by omega, by go_num, by go_num, by omega, by first | (simp; done) | (simp; omega), hyl, hown, hb, HOV, HU⟩
                  case measure => simp [intOf]; omega
          · subst hx
            rw [over, if_pos (by omega)] at ho
            rw [unpackL, if_pos (by omega)] at hu
            have em : p * ((1 : Int).toNat + 1) = p * 2 := by simp
            rw [em] at ho hu
            clear em
            by_cases hm : 1048576 - ys.length < p * 2
            · have HOV := Lib.hid (show OV = true by rw [← ho, if_pos hm])
              clear ho hu
              go_wp2_with fail
              go_ret2
              exact ⟨hb, .inl ⟨HOV.out, rfl⟩⟩
            · have HOV := Lib.hid (show over (p * 2) (ys ++ List.replicate (p * 2) (0 : Int)).length (l.drop (k + 1)) = OV by rw [← ho, if_neg hm]; simp)
              have HU := Lib.hid (show unpackL 1 l = (ys ++ List.replicate (p * 2) (0 : Int)) ++ unpackL (p * 2) (l.drop (k + 1)) by rw [hu]; simp)
              clear ho hu
              go_wp2_with fail
              obtain ⟨wo, rfl⟩ : ∃ wo : World, wo = wr := ⟨_, rfl⟩
              go_loopw [5, 10] (fun u j wi => ∃ (jn : Nat), jn ≤ (p * 2) ∧ j = .int .i64 jn ∧ wi.ownsRow w.heap.size 3 1 u (ys ++ List.replicate jn (0)).length (intCells (ys ++ List.replicate jn (0))) ∧ Below w.heap.size w wi) (fun _ j _ => (p * 2) - (intOf j).toNat)
              case atStart => exact ⟨0, Nat.zero_le _, rfl, by simpa using hown, hb⟩
              case round =>
                clear hown hb hbs
                obtain ⟨jn, hj, rfl, hown, hb⟩ := hrel
                have hbs := hb.size
                have hyl : (ys ++ List.replicate jn (0)).length ≤ 1048576 := by simp; omega
                by_cases hjl : jn < (p * 2)
                · go_wp2_with (at_builtin; refine wpList_append_own _ rfl _ _ 22 rfl w.heap.size 3 i0 (.int .i64 0) 1 8 Try.underlying22 hi hz0 hz1 hz2 rfl (by decide) _ _ _ rfl (hown.alloc _) ⟨wr.heap.size, 0, none⟩ 1 1 [Value.int .i64 ((0))] rfl rfl ?d1 ?d2 ?d3 ?d4 ?d5 ?_)
                  case d1 => exact int_new1 _ _ _ _ rfl
                  case d2 => exact int_one _
                  case d3 => unfold maxLen; omega
                  case d4 => omega
                  case d5 => simp; omega
                  intro v4 w4 hown4 hgrow4 _
                  have hb5 : Below w.heap.size w w4 := (hb.alloc (by omega) _).grown hgrow4 (by simp; omega) (fun k hk => (hown.lt k hk).1)
                  clear hgrow4 hown hb
                  rw [intCells_snoc, rep_snoc] at hown4
                  go_wp2
                  go_roundw
                  case rel => exact ⟨jn + 1, by omega, by go_num, by have e := own_len hown4; rw [e] at hown4; exact hown4, hb5⟩
                  case measure => simp [intOf]; omega
                · have hjn : jn = (p * 2) := by omega
                  rw [hjn] at hown hyl
                  clear hjn
                  go_wp2_with fail
                  go_roundw
                  case rel => exact ⟨k + 1, (p * 2), _, by omega, by go_num, by go_num, by omega, by first | (simp; done) | (simp; omega), hyl, hown, hb, HOV, HU⟩
                  case measure => simp [intOf]; omega
          · have hx1 : ¬ X ≤ 1 := by omega
            rw [over, if_neg hx1] at ho
            rw [unpackL, if_neg hx1] at hu
            by_cases hm : 1048576 - ys.length < 1
            · have HOV := Lib.hid (show OV = true by rw [← ho, if_pos hm])
              clear ho hu
              go_wp2_with fail
              go_ret2
              exact ⟨hb, .inl ⟨HOV.out, rfl⟩⟩
            · have HOV := Lib.hid (show over (1) (ys ++ List.replicate (1) (X - 1 : Int)).length (l.drop (k + 1)) = OV by rw [← ho, if_neg hm]; simp)
              have HU := Lib.hid (show unpackL 1 l = (ys ++ List.replicate (1) (X - 1 : Int)) ++ unpackL (1) (l.drop (k + 1)) by rw [hu]; simp)
              clear ho hu
              go_wp2_with fail
              obtain ⟨wo, rfl⟩ : ∃ wo : World, wo = wr := ⟨_, rfl⟩
              go_loopw [5, 10] (fun u j wi => ∃ (jn : Nat), jn ≤ (1) ∧ j = .int .i64 jn ∧ wi.ownsRow w.heap.size 3 1 u (ys ++ List.replicate jn (X - 1)).length (intCells (ys ++ List.replicate jn (X - 1))) ∧ Below w.heap.size w wi) (fun _ j _ => (1) - (intOf j).toNat)
              case atStart => exact ⟨0, Nat.zero_le _, rfl, by simpa using hown, hb⟩
              case round =>
                clear hown hb hbs
                obtain ⟨jn, hj, rfl, hown, hb⟩ := hrel
                have hbs := hb.size
                have hyl : (ys ++ List.replicate jn (X - 1)).length ≤ 1048576 := by simp; omega
                by_cases hjl : jn < (1)
                · go_wp2_with (at_builtin; refine wpList_append_own _ rfl _ _ 22 rfl w.heap.size 3 i0 (.int .i64 0) 1 8 Try.underlying22 hi hz0 hz1 hz2 rfl (by decide) _ _ _ rfl (hown.alloc _) ⟨wr.heap.size, 0, none⟩ 1 1 [Value.int .i64 ((X - 1))] rfl rfl ?d1 ?d2 ?d3 ?d4 ?d5 ?_)
                  case d1 => exact int_new1 _ _ _ _ rfl
                  case d2 => exact int_one _
                  case d3 => unfold maxLen; omega
                  case d4 => omega
                  case d5 => simp; omega
                  intro v4 w4 hown4 hgrow4 _
                  have hb5 : Below w.heap.size w w4 := (hb.alloc (by omega) _).grown hgrow4 (by simp; omega) (fun k hk => (hown.lt k hk).1)
                  clear hgrow4 hown hb
                  rw [intCells_snoc, rep_snoc] at hown4
                  go_wp2
                  go_roundw
                  case rel => exact ⟨jn + 1, by omega, by go_num, by have e := own_len hown4; rw [e] at hown4; exact hown4, hb5⟩
                  case measure => simp [intOf]; omega
                · have hjn : jn = (1) := by omega
                  rw [hjn] at hown hyl
                  clear hjn
                  go_wp2_with fail
                  go_roundw
                  case rel => exact ⟨k + 1, (1), _, by omega, by go_num, by go_num, by omega, by first | (simp; done) | (simp; omega), hyl, hown, hb, HOV, HU⟩
                  case measure => simp [intOf]; omega
        · have HE := Lib.hid (show unpackL 1 l = ys by have h := hu.out; rw [List.drop_of_length_le (by omega)] at h; simpa [unpackL] using h)
          have HO := Lib.hid (show OV = false by have h := ho.out; rw [List.drop_of_length_le (by omega)] at h; simpa [over] using h.symm)
          have HW := Lib.hid hown
          clear ho hu hown
          go_wp2_with fail
          go_ret2
          exact ⟨hb, .inr ⟨HO.out, _, rfl, by rw [HE.out]; exact HW.out⟩⟩
end Go.Proofs.Ytekageibffhloaa
