import Derived.Test.YtedmnlfbmmlcbaaJ12
import Derived.Test.YtedmnlfbmmlcbaaJ01
import Derived.Deep.WholeRow
import Derived.Laws.IdiomStrings
import Derived.Lib.BytesEntry
import Derived.Lib.UnsafeStr
/- Layer 49, carried over: the document's Pack. -/
namespace Go.Proofs.Ytedmnlfbmmlcbaa.Zero

open Go.ChangeShapes Go.WideShapes Go.ChangeAt Go.RowKit
set_option linter.unusedVariables false
set_option maxRecDepth 100000
open ZerosMath

set_option maxHeartbeats 1600000 in
theorem rPackBad (a : Option Addr) (c : Nat) (l : List Int) (w : World) (h : IsInts w a l) (hB : inB l 1048576 = false) :
    Calls Try.prog 15 #[.slice a l.length c] w fun e w' => e = .returned (.tuple #[.slice none 0 0, .int .i64 2]) ∧ w' = w := by
  have hl := h.1
  have HH := Lib.hid h; clear h
  go_enter Try.func15, Try.ntmps15
  go_wp2
  go_loop [4] (fun i => ∃ k : Nat, k ≤ l.length ∧ i = .int .i64 k ∧ Hid (inB (l.drop k) 1048576 = false)) (fun i => l.length - (intOf i).toNat)
  case atStart => exact ⟨0, Nat.zero_le _, rfl, Lib.hid hB⟩
  case round =>
    obtain ⟨k, hk, rfl, ht⟩ := hrel
    clear hB
    by_cases hlt : k < l.length
    · obtain ⟨x, rfl, -, hx⟩ := HH.out.at k hlt
      have cx := hx k hlt
      clear hx
      have hs := ht.out
      rw [drop_getD l k hlt, inB_cons] at hs
      obtain ⟨X, hX⟩ : ∃ X, l.getD k 0 = X := ⟨_, rfl⟩
      rw [hX] at cx hs
      clear hX ht
      by_cases h0 : X < 0
      · clear hs
        go_wp2
        go_ret2
        exact ⟨rfl, rfl⟩
      · by_cases h1 : 1048576 < X
        · clear hs
          go_wp2
          go_ret2
          exact ⟨rfl, rfl⟩
        · have HF := Lib.hid (show inB (l.drop (k + 1)) 1048576 = false by
            have e : (decide (0 ≤ X) && decide (X ≤ 1048576)) = true := by simp; omega
            rwa [e, Bool.true_and] at hs)
          clear hs
          go_wp2
          go_round
          case rel => exact ⟨k + 1, by omega, by go_num, HF⟩
          case measure => simp [intOf]; omega
    · exfalso
      have h := ht.out
      rw [List.drop_of_length_le (by omega)] at h
      simp [inB] at h
set_option maxHeartbeats 3200000 in
theorem rPack (a : Option Addr) (c : Nat) (l : List Int) (w : World) (h : IsInts w a l) (hB : inB l 1048576 = true) (hl : l.length ≤ 4000) :
    Calls Try.prog 15 #[.slice a l.length c] w fun e w' => ∃ v', e = .returned (.tuple #[v', .int .i64 0]) ∧ w'.ownsRow w.heap.size 3 1 v' (packL 0 l).length (intCells (packL 0 l)) ∧ Below w.heap.size w w' := by
  obtain ⟨i0, hi, hz0, hz1, hz2⟩ := info_get info_int
  have HB := Lib.hid hB
  have HI := Lib.hid h
  have hpl := packL_length 0 l
  clear hB h
  go_enter Try.func15, Try.ntmps15
  go_wp2
  go_loop [4] (fun i => ∃ k : Nat, k ≤ l.length ∧ i = .int .i64 k) (fun i => l.length - (intOf i).toNat)
  case atStart => exact ⟨0, Nat.zero_le _, rfl⟩
  case round =>
    obtain ⟨k0, hk0, rfl⟩ := hrel
    by_cases hlt0 : k0 < l.length
    · obtain ⟨x, rfl, -, hx⟩ := HI.out.at k0 hlt0
      have cx := hx k0 hlt0
      obtain ⟨b0, b1⟩ := inB_at HB.out k0 hlt0
      clear hx
      obtain ⟨X, hX⟩ : ∃ X, l.getD k0 0 = X := ⟨_, rfl⟩
      rw [hX] at cx b0 b1
      clear hX
      go_wp2
      go_round
      case rel => exact ⟨k0 + 1, by omega, by go_num⟩
      case measure => simp [intOf]; omega
    · go_wp2
      go_loopw [5, 6, 7] (fun u r i wr => ∃ (k m : Nat) (xs : List Int), k ≤ l.length ∧ m ≤ k ∧ i = .int .i64 k ∧ r = .int .i64 m ∧ wr.ownsRow w.heap.size 3 1 u xs.length (intCells xs) ∧ Below w.heap.size w wr ∧ Hid (packL 0 l = xs ++ packL m (l.drop k))) (fun _ _ i _ => l.length - (intOf i).toNat)
      case atStart => exact ⟨0, 0, [], Nat.zero_le _, Nat.le_refl _, rfl, rfl, World.ownsRow_nil _ _ _ _, Below.refl _ _, Lib.hid rfl⟩
      case round =>
        clear hlt0 hk0
        obtain ⟨k, m, xs, hk, hm, rfl, rfl, hown, hb, hp⟩ := hrel
        have hxl : xs.length ≤ l.length := by have := congrArg List.length hp.out; simp at this; omega
        have hbs := hb.size
        by_cases hlt : k < l.length
        · obtain ⟨x, rfl, hxb, hx⟩ := HI.out.at k hlt
          have cx0 := hx k hlt
          have cx : wr.cell? (x.add k) = some (.int .i64 (l.getD k 0)) := by rw [hb.cell (by rw [add_block]; exact hxb)]; exact cx0
          obtain ⟨b0, b1⟩ := inB_at HB.out k hlt
          have hp1 := hp.out
          rw [drop_getD l k hlt] at hp1
          clear hx hp
          obtain ⟨X, hX⟩ : ∃ X, l.getD k 0 = X := ⟨_, rfl⟩
          rw [hX] at cx cx0 b0 b1 hp1
          clear hX
          by_cases hx0 : X = 0
          · subst hx0
            have HP := Lib.hid (show packL 0 l = xs ++ packL (m + 1) (l.drop (k + 1)) by rw [hp1, packL, if_pos rfl])
            clear hp1 cx0
            go_wp2_with fail
            go_roundw
            case rel => exact ⟨k + 1, m + 1, xs, by omega, by omega, by go_num, by go_num, hown, hb, HP⟩
            case measure => simp [intOf]; omega
          · have e0 : (X == 0) = false := by rw [beq_eq_false_iff_ne]; exact hx0
            have HP := Lib.hid (show packL 0 l = (xs ++ signs m ++ [X + 1]) ++ packL 0 (l.drop (k + 1)) by rw [hp1, packL, if_neg hx0]; simp)
            clear hp1
            have hs := signs_length m
            have HX := Lib.hid cx0
            clear cx0
            go_wp2_with fail
            refine (rRun m _ (by omega)).mono ?_
            rintro e w2 ⟨v2, rfl, hown2, hb2⟩
            have hb3 := hb.trans (hb2.mono hbs)
            have hbs2 := hb3.size
            have hownA := Keeps.ownsRow (S := fun _ => False) (Keeps.of_below hb2) hown (fun _ _ h => h)
            have HL := Lib.hid (fun k hk => (hown.lt k hk).1)
            clear hown hb hb2 cx
            go_wp2_with (at_builtin; refine wpList_append_rows rfl _ _ 29 rfl w.heap.size wr.heap.size 3 i0 (.int .i64 0) 8 Try.underlying29 hi hz0 hz1 hz2 rfl _ _ _ _ _ _ rfl hownA rfl hown2 (intCells_one _) ?c3 ?c4 ?c5 ?_)
            case c3 => unfold maxLen; omega
            case c4 => omega
            case c5 => omega
            intro v3 w3 hown3 hgrow3
            have hb4 : Below w.heap.size w w3 := hb3.grown hgrow3 (by omega) HL.out
            rw [intCells_append] at hown3
            clear hgrow3 hown2 hb3 hownA
            have hbs3 := hb4.size
            have cx : w3.cell? (x.add k) = some (.int .i64 X) := by rw [hb4.cell (by rw [add_block]; exact hxb)]; exact HX.out
            go_wp2_with (at_builtin; refine wpList_append_own _ rfl _ _ 29 rfl w.heap.size 3 i0 (.int .i64 0) 1 8 Try.underlying29 hi hz0 hz1 hz2 rfl (by decide) _ _ _ rfl (hown3.alloc _) ⟨w3.heap.size, 0, none⟩ 1 1 [Value.int .i64 (X + 1)] rfl rfl ?d1 ?d2 ?d3 ?d4 ?d5 ?_)
            case d1 => exact int_new1 _ _ _ _ rfl
            case d2 => exact int_one _
            case d3 => unfold maxLen; omega
            case d4 => omega
            case d5 => simp; omega
            intro v4 w4 hown4 hgrow4 _
            have hb5 : Below w.heap.size w w4 := (hb4.alloc (by omega) _).grown hgrow4 (by simp; omega) (fun k hk => (hown3.lt k hk).1)
            clear hgrow4 hown3 hb4 cx
            rw [intCells_snoc] at hown4
            go_wp2
            go_roundw
            case rel => exact ⟨k + 1, 0, _, by omega, by omega, by go_num, rfl, by have e := own_len hown4; rw [e] at hown4; exact hown4, hb5, HP⟩
            case measure => simp [intOf]; omega
        · have HE := Lib.hid (show packL 0 l = xs ++ signs m by have h := hp.out; rw [List.drop_of_length_le (by omega)] at h; exact h)
          have hs := signs_length m
          clear hp
          go_wp2_with fail
          refine (rRun m _ (by omega)).mono ?_
          rintro e w2 ⟨v2, rfl, hown2, hb2⟩
          have hb3 := hb.trans (hb2.mono hbs)
          have hbs2 := hb3.size
          have hownA := Keeps.ownsRow (S := fun _ => False) (Keeps.of_below hb2) hown (fun _ _ h => h)
          have HL := Lib.hid (fun k hk => (hown.lt k hk).1)
          clear hown hb hb2
          go_wp2_with (at_builtin; refine wpList_append_rows rfl _ _ 29 rfl w.heap.size wr.heap.size 3 i0 (.int .i64 0) 8 Try.underlying29 hi hz0 hz1 hz2 rfl _ _ _ _ _ _ rfl hownA rfl hown2 (intCells_one _) ?f3 ?f4 ?f5 ?_)
          case f3 => unfold maxLen; omega
          case f4 => omega
          case f5 => omega
          intro v3 w3 hown3 hgrow3
          have hb4 : Below w.heap.size w w3 := hb3.grown hgrow3 (by omega) HL.out
          rw [intCells_append, ← HE.out] at hown3
          have e := own_len hown3
          rw [e] at hown3
          have HO := Lib.hid hown3
          clear hgrow3 hown2 hb3 hownA hown3 e
          go_wp2
          go_ret2
          exact ⟨_, rfl, HO.out, hb4⟩

end Go.Proofs.Ytedmnlfbmmlcbaa.Zero

/- Layer 49, carried over: Unpack; by values. -/
namespace Go.Proofs.Ytedmnlfbmmlcbaa.Zero

open Go.ChangeShapes Go.WideShapes Go.ChangeAt Go.RowKit
set_option linter.unusedVariables false
set_option maxRecDepth 100000
open ZerosMath

/-- Are there too many, from c of them on, the next sign of a run being p? -/
def over : Nat → Nat → List Int → Bool
  | _, _, [] => false
  | p, c, x :: l => if x ≤ 1 then (if 1048576 - c < p * (x.toNat + 1) then true else over (p * 2) (c + p * (x.toNat + 1)) l) else (if 1048576 - c < 1 then true else over 1 (c + 1) l)
theorem over_long (l : List Int) : ∀ p c, c ≤ 1048576 → over p c l = true → 1048576 < c + (unpackL p l).length := by
  induction l with
  | nil => intro p c hc h; simp [over] at h
  | cons x l ih =>
    intro p c hc h
    simp only [over] at h
    simp only [unpackL]
    by_cases hx : x ≤ 1
    · rw [if_pos hx] at h ⊢
      by_cases hm : 1048576 - c < p * (x.toNat + 1)
      · simp; omega
      · rw [if_neg hm] at h
        have := ih _ _ (by omega) h
        simp; omega
    · rw [if_neg hx] at h ⊢
      by_cases hm : 1048576 - c < 1
      · simp; omega
      · rw [if_neg hm] at h
        have := ih _ _ (by omega) h
        simp; omega
def UPost (OV : Bool) (l : List Int) (w : World) (e : Ending) (w' : World) : Prop :=
  Below w.heap.size w w' ∧ ((OV = true ∧ e = .returned (.tuple #[.slice none 0 0, .int .i64 5])) ∨ (OV = false ∧ ∃ v', e = .returned (.tuple #[v', .int .i64 0]) ∧ w'.ownsRow w.heap.size 3 1 v' (unpackL 1 l).length (intCells (unpackL 1 l))))
theorem rep_snoc (ys : List Int) (j : Nat) (x : Int) : ys ++ List.replicate j x ++ [x] = ys ++ List.replicate (j + 1) x := by
  rw [List.append_assoc, ← List.replicate_succ']

theorem zUnBad (a : Option Addr) (c : Nat) (l : List Int) (w : World) (h : IsInts w a l) (hB : inB l 1048577 = false) :
    Calls Try.prog 42 #[.slice a l.length c] w fun e w' => e = .returned (.tuple #[.slice none 0 0, .int .i64 2]) ∧ w' = w := by
  have C := Lib.hid (zWithin a c l 1048577 w h false hB)
  clear hB h
  go_enter Try.func42, Try.ntmps42
  go_wp2_with fail
  refine C.out.mono ?_; rintro e w1 ⟨rfl, rfl⟩
  go_wp2_with fail
  go_ret2
  exact ⟨rfl, rfl⟩
set_option maxHeartbeats 6400000 in
theorem zUn (a : Option Addr) (c : Nat) (l : List Int) (w : World) (h : IsInts w a l) (hB : inB l 1048577 = true) (hl : l.length ≤ 2000) (OV : Bool) (hOV : over 1 0 l = OV) :
    Calls Try.prog 42 #[.slice a l.length c] w (UPost OV l w) := by
  obtain ⟨i0, hi, hz0, hz1, hz2⟩ := info_get info_int
  have C := Lib.hid (zWithin a c l 1048577 w h true hB)
  have HB := Lib.hid hB
  have HI := Lib.hid h
  have HOV0 := Lib.hid hOV
  clear hB h hOV
  go_enter Try.func42, Try.ntmps42
  go_wp2_with fail
  refine C.out.mono ?_; rintro e w1 ⟨rfl, rfl⟩
  go_wp2_with fail
  go_loopw [4, 5, 15] (fun u r i wr => ∃ (k p : Nat) (ys : List Int), k ≤ l.length ∧ i = .int .i64 k ∧ r = .int .i64 p ∧ 1 ≤ p ∧ p ≤ ys.length + 1 ∧ ys.length ≤ 1048576 ∧ wr.ownsRow w1.heap.size 3 1 u ys.length (intCells ys) ∧ Below w1.heap.size w1 wr ∧ Hid (over p ys.length (l.drop k) = OV) ∧ Hid (unpackL 1 l = ys ++ unpackL p (l.drop k))) (fun _ _ i _ => l.length - (intOf i).toNat)
  case atStart => exact ⟨0, 1, [], Nat.zero_le _, rfl, rfl, by omega, by simp, by simp, World.ownsRow_nil _ _ _ _, Below.refl _ _, HOV0, Lib.hid rfl⟩
  case round =>
    obtain ⟨k, p, ys, hk, rfl, rfl, hp1, hp2, hy, hown, hb, ho, hu⟩ := hrel
    obtain ⟨aa, cc, hv⟩ := own_slice hown
    subst hv
    have hbs := hb.size
    by_cases hlt : k < l.length
    · obtain ⟨x, rfl, hxb, hx⟩ := HI.out.at k hlt
      have cx := hx k hlt
      have cx : wr.cell? (x.add k) = some (.int .i64 (l.getD k 0)) := by rw [hb.cell (by rw [add_block]; exact hxb)]; exact cx
      obtain ⟨b0, b1⟩ := inB_at HB.out k hlt
      have ho := ho.out
      have hu := hu.out
      rw [drop_getD l k hlt] at ho hu
      clear hx
      obtain ⟨X, hX⟩ : ∃ X, l.getD k 0 = X := ⟨_, rfl⟩
      rw [hX] at cx b0 b1 ho hu
      clear hX
      rcases (show X = 0 ∨ X = 1 ∨ 2 ≤ X by omega) with hx | hx | hx
      · subst hx
        rw [over, if_pos (by omega)] at ho
        rw [unpackL, if_pos (by omega)] at hu
        have em : p * ((0 : Int).toNat + 1) = p := by simp
        rw [em] at ho hu
        clear em
        by_cases hm : 1048576 - ys.length < p
        · have HOV := Lib.hid (show OV = true by rw [← ho, if_pos hm])
          clear ho hu
          go_wp2_with fail
          go_ret2
          exact ⟨hb, .inl ⟨HOV.out, rfl⟩⟩
        · have HOV := Lib.hid (show over (p * 2) (ys ++ List.replicate (p) (0 : Int)).length (l.drop (k + 1)) = OV by rw [← ho, if_neg hm]; simp)
          have HU := Lib.hid (show unpackL 1 l = (ys ++ List.replicate (p) (0 : Int)) ++ unpackL (p * 2) (l.drop (k + 1)) by rw [hu]; simp)
          clear ho hu
          go_wp2_with fail
          obtain ⟨wo, rfl⟩ : ∃ wo : World, wo = wr := ⟨_, rfl⟩
          go_loopw [4, 35] (fun u j wi => ∃ (jn : Nat), jn ≤ (p) ∧ j = .int .i64 jn ∧ wi.ownsRow w1.heap.size 3 1 u (ys ++ List.replicate jn (0)).length (intCells (ys ++ List.replicate jn (0))) ∧ Below w1.heap.size w1 wi) (fun _ j _ => (p) - (intOf j).toNat)
          case atStart => exact ⟨0, Nat.zero_le _, rfl, by simpa using hown, hb⟩
          case round =>
            clear hown hb hbs
            obtain ⟨jn, hj, rfl, hown, hb⟩ := hrel
            have hbs := hb.size
            have hyl : (ys ++ List.replicate jn (0)).length ≤ 1048576 := by simp; omega
            by_cases hjl : jn < (p)
            · go_wp2_with (at_builtin; refine wpList_append_own _ rfl _ _ 29 rfl w1.heap.size 3 i0 (.int .i64 0) 1 8 Try.underlying29 hi hz0 hz1 hz2 rfl (by decide) _ _ _ rfl (hown.alloc _) ⟨wr.heap.size, 0, none⟩ 1 1 [Value.int .i64 ((0))] rfl rfl ?d1 ?d2 ?d3 ?d4 ?d5 ?_)
              case d1 => exact int_new1 _ _ _ _ rfl
              case d2 => exact int_one _
              case d3 => unfold maxLen; omega
              case d4 => omega
              case d5 => simp; omega
              intro v4 w4 hown4 hgrow4 _
              have hb5 : Below w1.heap.size w1 w4 := (hb.alloc (by omega) _).grown hgrow4 (by simp; omega) (fun k hk => (hown.lt k hk).1)
              clear hgrow4 hown hb
              rw [intCells_snoc, rep_snoc] at hown4
              go_wp2
              go_roundw
              case rel => exact ⟨jn + 1, by omega, by go_num, by have e := own_len hown4; rw [e] at hown4; exact hown4, hb5⟩
              case measure => simp [intOf]; omega
            · have hjn : jn = (p) := by omega
              rw [hjn] at hown hyl
              clear hjn
              go_wp2_with fail
              go_roundw
              case rel => exact ⟨k + 1, (p * 2), _, by omega, by go_num, by go_num, by omega, by first | (simp; done) | (simp; omega), hyl, hown, hb, HOV, HU⟩
              case measure => simp [intOf]; omega
      · subst hx
        rw [over, if_pos (by omega)] at ho
        rw [unpackL, if_pos (by omega)] at hu
        have em : p * ((1 : Int).toNat + 1) = p * 2 := by simp
        rw [em] at ho hu
        clear em
        by_cases hm : 1048576 - ys.length < p * 2
        · have HOV := Lib.hid (show OV = true by rw [← ho, if_pos hm])
          clear ho hu
          go_wp2_with fail
          go_ret2
          exact ⟨hb, .inl ⟨HOV.out, rfl⟩⟩
        · have HOV := Lib.hid (show over (p * 2) (ys ++ List.replicate (p * 2) (0 : Int)).length (l.drop (k + 1)) = OV by rw [← ho, if_neg hm]; simp)
          have HU := Lib.hid (show unpackL 1 l = (ys ++ List.replicate (p * 2) (0 : Int)) ++ unpackL (p * 2) (l.drop (k + 1)) by rw [hu]; simp)
          clear ho hu
          go_wp2_with fail
          obtain ⟨wo, rfl⟩ : ∃ wo : World, wo = wr := ⟨_, rfl⟩
          go_loopw [4, 35] (fun u j wi => ∃ (jn : Nat), jn ≤ (p * 2) ∧ j = .int .i64 jn ∧ wi.ownsRow w1.heap.size 3 1 u (ys ++ List.replicate jn (0)).length (intCells (ys ++ List.replicate jn (0))) ∧ Below w1.heap.size w1 wi) (fun _ j _ => (p * 2) - (intOf j).toNat)
          case atStart => exact ⟨0, Nat.zero_le _, rfl, by simpa using hown, hb⟩
          case round =>
            clear hown hb hbs
            obtain ⟨jn, hj, rfl, hown, hb⟩ := hrel
            have hbs := hb.size
            have hyl : (ys ++ List.replicate jn (0)).length ≤ 1048576 := by simp; omega
            by_cases hjl : jn < (p * 2)
            · go_wp2_with (at_builtin; refine wpList_append_own _ rfl _ _ 29 rfl w1.heap.size 3 i0 (.int .i64 0) 1 8 Try.underlying29 hi hz0 hz1 hz2 rfl (by decide) _ _ _ rfl (hown.alloc _) ⟨wr.heap.size, 0, none⟩ 1 1 [Value.int .i64 ((0))] rfl rfl ?d1 ?d2 ?d3 ?d4 ?d5 ?_)
              case d1 => exact int_new1 _ _ _ _ rfl
              case d2 => exact int_one _
              case d3 => unfold maxLen; omega
              case d4 => omega
              case d5 => simp; omega
              intro v4 w4 hown4 hgrow4 _
              have hb5 : Below w1.heap.size w1 w4 := (hb.alloc (by omega) _).grown hgrow4 (by simp; omega) (fun k hk => (hown.lt k hk).1)
              clear hgrow4 hown hb
              rw [intCells_snoc, rep_snoc] at hown4
              go_wp2
              go_roundw
              case rel => exact ⟨jn + 1, by omega, by go_num, by have e := own_len hown4; rw [e] at hown4; exact hown4, hb5⟩
              case measure => simp [intOf]; omega
            · have hjn : jn = (p * 2) := by omega
              rw [hjn] at hown hyl
              clear hjn
              go_wp2_with fail
              go_roundw
              case rel => exact ⟨k + 1, (p * 2), _, by omega, by go_num, by go_num, by omega, by first | (simp; done) | (simp; omega), hyl, hown, hb, HOV, HU⟩
              case measure => simp [intOf]; omega
      · have hx1 : ¬ X ≤ 1 := by omega
        rw [over, if_neg hx1] at ho
        rw [unpackL, if_neg hx1] at hu
        by_cases hm : 1048576 - ys.length < 1
        · have HOV := Lib.hid (show OV = true by rw [← ho, if_pos hm])
          clear ho hu
          go_wp2_with fail
          go_ret2
          exact ⟨hb, .inl ⟨HOV.out, rfl⟩⟩
        · have HOV := Lib.hid (show over (1) (ys ++ List.replicate (1) (X - 1 : Int)).length (l.drop (k + 1)) = OV by rw [← ho, if_neg hm]; simp)
          have HU := Lib.hid (show unpackL 1 l = (ys ++ List.replicate (1) (X - 1 : Int)) ++ unpackL (1) (l.drop (k + 1)) by rw [hu]; simp)
          clear ho hu
          go_wp2_with fail
          obtain ⟨wo, rfl⟩ : ∃ wo : World, wo = wr := ⟨_, rfl⟩
          go_loopw [4, 35] (fun u j wi => ∃ (jn : Nat), jn ≤ (1) ∧ j = .int .i64 jn ∧ wi.ownsRow w1.heap.size 3 1 u (ys ++ List.replicate jn (X - 1)).length (intCells (ys ++ List.replicate jn (X - 1))) ∧ Below w1.heap.size w1 wi) (fun _ j _ => (1) - (intOf j).toNat)
          case atStart => exact ⟨0, Nat.zero_le _, rfl, by simpa using hown, hb⟩
          case round =>
            clear hown hb hbs
            obtain ⟨jn, hj, rfl, hown, hb⟩ := hrel
            have hbs := hb.size
            have hyl : (ys ++ List.replicate jn (X - 1)).length ≤ 1048576 := by simp; omega
            by_cases hjl : jn < (1)
            · go_wp2_with (at_builtin; refine wpList_append_own _ rfl _ _ 29 rfl w1.heap.size 3 i0 (.int .i64 0) 1 8 Try.underlying29 hi hz0 hz1 hz2 rfl (by decide) _ _ _ rfl (hown.alloc _) ⟨wr.heap.size, 0, none⟩ 1 1 [Value.int .i64 ((X - 1))] rfl rfl ?d1 ?d2 ?d3 ?d4 ?d5 ?_)
              case d1 => exact int_new1 _ _ _ _ rfl
              case d2 => exact int_one _
              case d3 => unfold maxLen; omega
              case d4 => omega
              case d5 => simp; omega
              intro v4 w4 hown4 hgrow4 _
              have hb5 : Below w1.heap.size w1 w4 := (hb.alloc (by omega) _).grown hgrow4 (by simp; omega) (fun k hk => (hown.lt k hk).1)
              clear hgrow4 hown hb
              rw [intCells_snoc, rep_snoc] at hown4
              go_wp2
              go_roundw
              case rel => exact ⟨jn + 1, by omega, by go_num, by have e := own_len hown4; rw [e] at hown4; exact hown4, hb5⟩
              case measure => simp [intOf]; omega
            · have hjn : jn = (1) := by omega
              rw [hjn] at hown hyl
              clear hjn
              go_wp2_with fail
              go_roundw
              case rel => exact ⟨k + 1, (1), _, by omega, by go_num, by go_num, by omega, by first | (simp; done) | (simp; omega), hyl, hown, hb, HOV, HU⟩
              case measure => simp [intOf]; omega
    · have HE := Lib.hid (show unpackL 1 l = ys by have h := hu.out; rw [List.drop_of_length_le (by omega)] at h; simpa [unpackL] using h)
      have HO := Lib.hid (show OV = false by have h := ho.out; rw [List.drop_of_length_le (by omega)] at h; simpa [over] using h.symm)
      have HW := Lib.hid hown
      clear ho hu hown
      go_wp2_with fail
      go_ret2
      exact ⟨hb, .inr ⟨HO.out, _, rfl, by rw [HE.out]; exact HW.out⟩⟩

open Go.ChangeShapes Go.WideShapes Go.ChangeAt Go.RowKit
set_option linter.unusedVariables false
set_option maxRecDepth 100000
open ZerosMath

theorem over_short (l : List Int) : ∀ p c, c ≤ 1048576 → over p c l = false → c + (unpackL p l).length ≤ 1048576 := by
  induction l with
  | nil => intro p c hc h; simp [unpackL]; exact hc
  | cons x l ih =>
    intro p c hc h
    simp only [over] at h
    simp only [unpackL]
    by_cases hx : x ≤ 1
    · rw [if_pos hx] at h ⊢
      by_cases hm : 1048576 - c < p * (x.toNat + 1)
      · rw [if_pos hm] at h; cases h
      · rw [if_neg hm] at h
        have := ih _ _ (by omega) h
        simp; omega
    · rw [if_neg hx] at h ⊢
      by_cases hm : 1048576 - c < 1
      · rw [if_pos hm] at h; cases h
      · rw [if_neg hm] at h
        have := ih _ _ (by omega) h
        simp; omega
def packE (l : List Int) : Int := if inB l 1048576 then 0 else 2
def packR (l : List Int) : List Int := if inB l 1048576 then packL 0 l else []
def unE (l : List Int) : Int := if inB l 1048577 then (if over 1 0 l then 5 else 0) else 2
def unR (l : List Int) : List Int := if inB l 1048577 then (if over 1 0 l then [] else unpackL 1 l) else []
def Answers (r : List Int) (E : Int) (w : World) (e : Ending) (w' : World) : Prop := ∃ v', e = .returned (.tuple #[v', .int .i64 E]) ∧ IsL w' v' r ∧ Below w.heap.size w w'
theorem zPackA {v : Value} {l : List Int} {w : World} (h : IsL w v l) (hl : l.length ≤ 1100000) : Calls Try.prog 10 #[v] w (Answers (packR l) (packE l) w) := by
  obtain ⟨a, c, rfl, h⟩ := h
  unfold packR packE
  rcases hB : inB l 1048576 with _ | _
  · exact (zPackBad a c l w h hB).mono fun e w' ⟨he, hw⟩ => by subst hw; exact ⟨_, he, IsL.nil _, Below.refl _ _⟩
  · refine (zPack a c l w h hB hl).mono fun e w' ⟨v', he, ho, hb⟩ => ⟨v', he, own_isL ho ?_, hb⟩
    have := packL_length 0 l
    show (packL 0 l).length ≤ _
    omega
theorem rPackA {v : Value} {l : List Int} {w : World} (h : IsL w v l) (hl : l.length ≤ 4000) : Calls Try.prog 15 #[v] w (Answers (packR l) (packE l) w) := by
  obtain ⟨a, c, rfl, h⟩ := h
  unfold packR packE
  rcases hB : inB l 1048576 with _ | _
  · exact (rPackBad a c l w h hB).mono fun e w' ⟨he, hw⟩ => by subst hw; exact ⟨_, he, IsL.nil _, Below.refl _ _⟩
  · refine (rPack a c l w h hB hl).mono fun e w' ⟨v', he, ho, hb⟩ => ⟨v', he, own_isL ho ?_, hb⟩
    have := packL_length 0 l
    show (packL 0 l).length ≤ _
    omega
theorem un_post {l : List Int} {w : World} {e : Ending} {w' : World} (h : UPost (over 1 0 l) l w e w') : Answers (if over 1 0 l then [] else unpackL 1 l) (if over 1 0 l then 5 else 0) w e w' := by
  obtain ⟨hb, h⟩ := h
  rcases h with ⟨h, he⟩ | ⟨h, v', he, ho⟩
  · rw [h]; exact ⟨_, he, IsL.nil _, hb⟩
  · have := over_short l 1 0 (by omega) h
    rw [h]; exact ⟨v', he, own_isL ho (by show (unpackL 1 l).length ≤ _; omega), hb⟩
theorem zUnA {v : Value} {l : List Int} {w : World} (h : IsL w v l) (hl : l.length ≤ 2000) : Calls Try.prog 42 #[v] w (Answers (unR l) (unE l) w) := by
  obtain ⟨a, c, rfl, h⟩ := h
  unfold unR unE
  rcases hB : inB l 1048577 with _ | _
  · exact (zUnBad a c l w h hB).mono fun e w' ⟨he, hw⟩ => by subst hw; exact ⟨_, he, IsL.nil _, Below.refl _ _⟩
  · exact (zUn a c l w h hB hl _ rfl).mono fun e w' h => un_post h
theorem lit_isL (w : World) (l : List Int) (hl : l.length ≤ 70368744177664) : IsL (w.alloc (.cells (l.map (Value.int .i64 ·)).toArray 3)) (.slice (some ⟨w.heap.size, 0, none⟩) l.length l.length) l := ⟨_, _, rfl, IsInts.new w l 3 (0, 0) hl⟩
theorem below_new {w w' : World} {o : Obj} (hb : Below (w.alloc o).heap.size (w.alloc o) w') : Below w.heap.size w w' := ((Below.refl _ _).alloc (Nat.le_refl _) o).trans (hb.mono (by simp))

end Go.Proofs.Ytedmnlfbmmlcbaa.Zero

/- Layer 47, carried over: the row. -/
namespace Go.Proofs.Ytedmnlfbmmlcbaa.Mtf

namespace MtfMath
/-- The one at a place first. -/
def moved (r : List UInt8) (k : Nat) : List UInt8 := r.getD k 0 :: (r.take k ++ r.drop (k + 1))
def all : List UInt8 := (List.range 256).map UInt8.ofNat
structure Fine (r : List UInt8) : Prop where
  len : r.length = 256
  nodup : r.Nodup
  has : ∀ b, b ∈ r
theorem fine_all : Fine all := by
  refine ⟨by simp [all], ?_, ?_⟩
  · unfold all
    rw [List.nodup_iff_pairwise_ne, List.pairwise_map]
    refine List.Pairwise.imp_of_mem ?_ (List.nodup_iff_pairwise_ne.1 List.nodup_range)
    intro a b ha hb hne e
    simp at ha hb
    have := congrArg UInt8.toNat e
    simp at this
    omega
  · intro b
    unfold all
    rw [List.mem_map]
    exact ⟨b.toNat, by simp; exact b.toNat_lt, by simp⟩
theorem take_drop (r : List UInt8) (k : Nat) (h : k < r.length) : r = r.take k ++ r.getD k 0 :: r.drop (k + 1) := by
  have e : r.getD k 0 = r[k] := by simp [List.getD_eq_getElem?_getD, h]
  rw [e, ← List.drop_eq_getElem_cons h, List.take_append_drop]
theorem moved_perm (r : List UInt8) (k : Nat) (h : k < r.length) : (moved r k).Perm r := by
  conv => rhs; rw [take_drop r k h]
  exact List.perm_middle.symm
theorem moved_length (r : List UInt8) (k : Nat) (h : k < r.length) : (moved r k).length = r.length := (moved_perm r k h).length_eq
theorem fine_moved (r : List UInt8) (k : Nat) (h : k < 256) (hr : Fine r) : Fine (moved r k) := by
  have hp := moved_perm r k (by rw [hr.len]; exact h)
  exact ⟨by rw [hp.length_eq, hr.len], hp.nodup_iff.2 hr.nodup, fun b => hp.mem_iff.2 (hr.has b)⟩
def moveL : List UInt8 → List UInt8 → List Nat
  | _, [] => []
  | r, b :: s => r.idxOf b :: moveL (moved r (r.idxOf b)) s
def backL : List UInt8 → List Nat → List UInt8
  | _, [] => []
  | r, k :: l => r.getD k 0 :: backL (moved r k) l
theorem idx_lt (r : List UInt8) (b : UInt8) (hr : Fine r) : r.idxOf b < 256 := by rw [← hr.len]; exact List.idxOf_lt_length_of_mem (hr.has b)
theorem get_idx (r : List UInt8) (b : UInt8) (hr : Fine r) : r.getD (r.idxOf b) 0 = b := by
  have h := List.idxOf_lt_length_of_mem (hr.has b)
  simp [List.getD_eq_getElem?_getD, h]
theorem idx_get (r : List UInt8) (k : Nat) (h : k < 256) (hr : Fine r) : r.idxOf (r.getD k 0) = k := by
  have h' : k < r.length := by rw [hr.len]; exact h
  have e : r.getD k 0 = r[k] := by simp [List.getD_eq_getElem?_getD, h']
  rw [e]
  exact List.Nodup.idxOf_getElem hr.nodup k h'
theorem moveL_length (r s : List UInt8) : (moveL r s).length = s.length := by
  induction s generalizing r with
  | nil => rfl
  | cons b s ih => simp [moveL, ih]
theorem backL_length (r : List UInt8) (l : List Nat) : (backL r l).length = l.length := by
  induction l generalizing r with
  | nil => rfl
  | cons b s ih => simp [backL, ih]
theorem moveL_lt (r s : List UInt8) (hr : Fine r) : ∀ k ∈ moveL r s, k < 256 := by
  induction s generalizing r with
  | nil => simp [moveL]
  | cons b s ih =>
    intro k hk
    simp only [moveL, List.mem_cons] at hk
    rcases hk with rfl | hk
    · exact idx_lt r b hr
    · exact ih _ (fine_moved r _ (idx_lt r b hr) hr) k hk
theorem back_move (r s : List UInt8) (hr : Fine r) : backL r (moveL r s) = s := by
  induction s generalizing r with
  | nil => rfl
  | cons b s ih => simp only [moveL, backL]; rw [get_idx r b hr, ih _ (fine_moved r _ (idx_lt r b hr) hr)]
theorem move_back (r : List UInt8) (l : List Nat) (hr : Fine r) (hl : ∀ k ∈ l, k < 256) : moveL r (backL r l) = l := by
  induction l generalizing r with
  | nil => rfl
  | cons k l ih =>
    have hk := hl k (List.mem_cons_self ..)
    simp only [moveL, backL]
    rw [idx_get r k hk hr, ih _ (fine_moved r k hk hr) (fun x hx => hl x (List.mem_cons_of_mem _ hx))]
theorem idx_head (r : List UInt8) (b c : UInt8) (h : r.head? = some c) : r.idxOf b = 0 ↔ b = c := by
  cases r with
  | nil => simp at h
  | cons x r =>
    simp at h; subst h
    rw [List.idxOf_cons]
    constructor
    · intro e; by_cases hx : x = b
      · exact hx.symm
      · rw [show (x == b) = false from beq_eq_false_iff_ne.2 hx, cond_false] at e; omega
    · rintro rfl; rw [show (b == b) = true from beq_iff_eq.2 rfl, cond_true]
theorem move_zero (r s : List UInt8) (hr : Fine r) (i : Nat) (h1 : 1 ≤ i) (h2 : i < s.length) : (moveL r s).getD i 0 = 0 ↔ s.getD i 0 = s.getD (i - 1) 0 := by
  induction s generalizing r i with
  | nil => simp at h2
  | cons b s ih =>
    have hf := fine_moved r _ (idx_lt r b hr) hr
    obtain ⟨i, rfl⟩ : ∃ j, i = j + 1 := ⟨i - 1, by omega⟩
    simp only [moveL, List.getD_cons_succ, Nat.add_sub_cancel]
    cases i with
    | zero =>
      cases s with
      | nil => simp at h2
      | cons c s =>
        simp only [moveL, List.getD_cons_zero]
        rw [idx_head _ c b (by unfold moved; rw [get_idx r b hr]; rfl)]
    | succ i =>
      rw [ih _ hf (i + 1) (by omega) (by simp at h2; omega), Nat.add_sub_cancel, List.getD_cons_succ]
/-- The row behind so many bytes; the row behind so many places. -/
def rowS : List UInt8 → List UInt8 → List UInt8
  | r, [] => r
  | r, b :: s => rowS (moved r (r.idxOf b)) s
def rowL : List UInt8 → List Nat → List UInt8
  | r, [] => r
  | r, k :: l => rowL (moved r k) l
theorem rowS_snoc (r s : List UInt8) (b : UInt8) : rowS r (s ++ [b]) = moved (rowS r s) ((rowS r s).idxOf b) := by
  induction s generalizing r with
  | nil => rfl
  | cons c s ih => exact ih _
theorem rowL_snoc (r : List UInt8) (l : List Nat) (k : Nat) : rowL r (l ++ [k]) = moved (rowL r l) k := by
  induction l generalizing r with
  | nil => rfl
  | cons c s ih => exact ih _
theorem moveL_snoc (r s : List UInt8) (b : UInt8) : moveL r (s ++ [b]) = moveL r s ++ [(rowS r s).idxOf b] := by
  induction s generalizing r with
  | nil => rfl
  | cons c s ih => simp only [List.cons_append, moveL, rowS, ih]
theorem backL_snoc (r : List UInt8) (l : List Nat) (k : Nat) : backL r (l ++ [k]) = backL r l ++ [(rowL r l).getD k 0] := by
  induction l generalizing r with
  | nil => rfl
  | cons c s ih => simp only [List.cons_append, backL, rowL, ih]
theorem fine_rowS (r s : List UInt8) (hr : Fine r) : Fine (rowS r s) := by
  induction s generalizing r with
  | nil => exact hr
  | cons b s ih => exact ih _ (fine_moved r _ (idx_lt r b hr) hr)
theorem fine_rowL (r : List UInt8) (l : List Nat) (hr : Fine r) (hl : ∀ k ∈ l, k < 256) : Fine (rowL r l) := by
  induction l generalizing r with
  | nil => exact hr
  | cons k l ih => exact ih _ (fine_moved r k (hl k (List.mem_cons_self ..)) hr) (fun x hx => hl x (List.mem_cons_of_mem _ hx))

end MtfMath

open Go.ChangeShapes Go.WideShapes Go.ChangeAt Go.RowKit
set_option linter.unusedVariables false
set_option maxRecDepth 100000

def byteCells (l : List UInt8) : List Value := l.map fun b => .int .u8 (b.toNat : Int)
theorem byteCells_snoc (l : List UInt8) (b : UInt8) : byteCells (l ++ [b]) = byteCells l ++ [.int .u8 (b.toNat : Int)] := by simp [byteCells]
theorem byteCells_len (l : List UInt8) : (byteCells l).length = l.length := by simp [byteCells]
theorem conv_nil {P : Program} {w : World} {src dst e : TypeId} (hs : P.underlying src = some (.slice e)) (he : P.underlying e = some (.int .u8)) (hd : P.underlying dst = some .string) : (convert src dst (.slice none 0 0)).run P w = .ok (.string ⟨#[]⟩) w := by
  rw [run_convert_bytes_string w src dst e none 0 0 hs he hd]
  first | rfl | (simp [Conv.bytesToString, Sem.run_pure, go_sem]; rfl) | simp [Conv.bytesToString, Sem.run_pure, go_sem]
/-- 'string(b)' of a row of bytes that the call owns, nil too. -/
theorem conv_own {P : Program} {w : World} {base n : Nat} {src dst e : TypeId} {v : Value} {l : List UInt8} (hs : P.underlying src = some (.slice e)) (he : P.underlying e = some (.int .u8)) (hd : P.underlying dst = some .string)
    (h : w.ownsRow base e 1 v n (byteCells l)) : (convert src dst v).run P w = .ok (.string ⟨l.toArray⟩) w := by
  have hl := h.1
  rw [byteCells_len, Nat.mul_one] at hl
  rcases h.2 with ⟨rfl, h0⟩ | ⟨g, cap, cur, rfl, -, -, -, -, -, -⟩
  · have : l = [] := List.length_eq_zero_iff.1 (by omega)
    subst this
    exact conv_nil hs he hd
  · subst hl
    exact run_convert_bytes_back (P := P) w src dst e ⟨g, 0, none⟩ cap l hs he hd (fun j hj => h.cells (g := g) rfl j _ (by simp [byteCells, hj]))
theorem bytesRow_get (s : ByteArray) (cap j : Nat) (h : j < s.size) : (bytesRow s cap)[j]? = some (.int .u8 ((s.data.toList.getD j 0).toNat : Int)) := by
  have h' : j < s.data.size := h
  unfold bytesRow
  rw [Array.getElem?_append_left (by simpa using h'), Array.getElem?_map, Array.getElem?_eq_getElem h']
  simp only [Array.getElem?_toList, List.getD_eq_getElem?_getD, Array.getElem?_eq_getElem h', Option.map_some, Option.getD_some]
theorem bytesRow_size (s : ByteArray) (cap : Nat) : s.size ≤ (bytesRow s cap).size := by
  unfold bytesRow; simp
/-- A block whose first cells are the bytes of f, and whose mark lies behind them. -/
def Held (w : World) (g n : Nat) (f : Nat → UInt8) : Prop := ∃ C N, w.heap[g]? = some (.cells C 5 (N, N + 1)) ∧ n ≤ N ∧ n ≤ C.size ∧ ∀ j, j < n → C[j]? = some (.int .u8 ((f j).toNat : Int))
theorem Held.cell {w : World} {g n : Nat} {f : Nat → UInt8} (h : Held w g n f) {j : Nat} (hj : j < n) : w.cell? ⟨g, j, none⟩ = some (.int .u8 ((f j).toNat : Int)) := by
  obtain ⟨C, N, hg, -, -, hc⟩ := h
  exact cell_lit hg j _ (hc j hj)
theorem Held.free {w : World} {g n : Nat} {f : Nat → UInt8} (h : Held w g n f) {j : Nat} (hj : j < n) : w.frozen? ⟨g, j, none⟩ = false := by
  obtain ⟨C, N, hg, hN, -, hc⟩ := h
  simp [World.frozen?, hg]; omega
theorem Held.congr {w : World} {g n : Nat} {f f' : Nat → UInt8} (h : Held w g n f) (e : ∀ j, j < n → f j = f' j) : Held w g n f' := by
  obtain ⟨C, N, hg, hN, hn, hc⟩ := h
  exact ⟨C, N, hg, hN, hn, fun j hj => by rw [← e j hj]; exact hc j hj⟩
theorem Held.set {w : World} {g n K : Nat} {f f' : Nat → UInt8} (h : Held w g n f) (hK : K < n) (x : Int) (hx : x = ((f' K).toNat : Int)) (e : ∀ j, j < n → j ≠ K → f j = f' j) : Held (w.setCell ⟨g, K, none⟩ (.int .u8 x)) g n f' := by
  obtain ⟨C, N, hg, hN, hn, hc⟩ := h
  subst hx
  refine ⟨C.setIfInBounds K (.int .u8 ((f' K).toNat : Int)), N, ?_, hN, by simpa using hn, fun j hj => ?_⟩
  · rw [setCell_eq_setRow _ g K C 5 (N, N + 1) _ hg]
    exact setRow_heap _ _ _ _ _ _ hg
  · rw [Array.getElem?_setIfInBounds]
    by_cases hjK : K = j
    · subst hjK; rw [if_pos rfl, if_pos (by omega)]
    · rw [if_neg hjK, hc j hj, e j hj (fun e => hjK e.symm)]
theorem Held.drew {w : World} {g n : Nat} {f : Nat → UInt8} (h : Held w g n f) : Held w.drew g n f := h
theorem Held.new (w : World) (s : ByteArray) (cap : Nat) : Held (w.alloc (.cells (bytesRow s cap) 5 ((bytesRow s cap).size, (bytesRow s cap).size + 1))) w.heap.size s.size (fun j => s.data.toList.getD j 0) := by
  exact ⟨_, _, heap_alloc_new w _, bytesRow_size s cap, bytesRow_size s cap, fun j hj => bytesRow_get s cap j hj⟩
theorem Held.conv {P : Program} {w : World} {g n cap : Nat} {f : Nat → UInt8} {src dst : TypeId} {l : List UInt8} (h : Held w g n f) (hs : P.underlying src = some (.slice 5)) (he : P.underlying 5 = some (.int .u8)) (hd : P.underlying dst = some .string) (hl : l.length = n) (e : ∀ j, j < n → l.getD j 0 = f j) :
    (convert src dst (.slice (some ⟨g, 0, none⟩) n cap)).run P w = .ok (.string ⟨l.toArray⟩) w := by
  subst hl
  refine run_convert_bytes_back (P := P) w src dst 5 ⟨g, 0, none⟩ cap l hs he hd (fun j hj => ?_)
  have h1 := h.cell hj
  rw [← e j hj] at h1
  have e2 : (⟨g, 0, none⟩ : Addr).add j = ⟨g, j, none⟩ := by unfold Addr.add; split <;> simp_all
  rw [e2, h1]
  simp [List.getD_eq_getElem?_getD, hj]
theorem s_get (s : ByteArray) (k : Nat) (h : k < s.size) : s.data.toList.getD k 0 = s[k] := by
  have h' : k < s.data.size := h
  simp only [List.getD_eq_getElem?_getD, Array.getElem?_toList, Array.getElem?_eq_getElem h', Option.getD_some]
  rfl

open Go.ChangeShapes Go.WideShapes Go.ChangeAt Go.RowKit
set_option linter.unusedVariables false
set_option maxRecDepth 100000
open MtfMath

def RowAt (w : World) (g : Nat) (r : List UInt8) : Prop := w.heap[g]? = some (.cells (byteCells r).toArray 77 (0, 0))
theorem bc_get (r : List UInt8) (j : Nat) (h : j < r.length) : (byteCells r).toArray[j]? = some (.int .u8 ((r.getD j 0).toNat : Int)) := by
  simp [byteCells, List.getD_eq_getElem?_getD, h]
theorem RowAt.cell {w : World} {g : Nat} {r : List UInt8} (h : RowAt w g r) (j : Nat) (hj : j < r.length) : w.cell? ⟨g, j, none⟩ = some (.int .u8 ((r.getD j 0).toNat : Int)) := cell_lit h j _ (bc_get r j hj)
theorem RowAt.free {w : World} {g : Nat} {r : List UInt8} (h : RowAt w g r) (j : Nat) : w.frozen? ⟨g, j, none⟩ = false := free_in h j
theorem bc_set (r : List UInt8) (j : Nat) (b : UInt8) : (byteCells r).toArray.setIfInBounds j (.int .u8 (b.toNat : Int)) = (byteCells (r.set j b)).toArray := by
  simp [byteCells, List.map_set]
theorem RowAt.set {w : World} {g : Nat} {r : List UInt8} (h : RowAt w g r) (j : Nat) (b : UInt8) (x : Int) (hx : x = (b.toNat : Int)) : RowAt (w.setCell ⟨g, j, none⟩ (.int .u8 x)) g (r.set j b) := by
  subst hx
  have := block_set h j (.int .u8 (b.toNat : Int))
  rw [bc_set] at this
  exact this
def rowTo (k : Nat) : List UInt8 := (List.range 256).map fun j => if j < k then UInt8.ofNat j else 0
theorem rowTo_len (k : Nat) : (rowTo k).length = 256 := by simp [rowTo]
theorem rowTo_all : rowTo 256 = all := by
  unfold rowTo all
  refine List.map_congr_left fun j hj => ?_
  rw [if_pos (by simpa using hj)]
theorem rowTo_set (k : Nat) (hk : k < 256) : (rowTo k).set k (UInt8.ofNat k) = rowTo (k + 1) := by
  refine List.ext_getElem (by simp [rowTo]) fun i h1 h2 => ?_
  rw [List.getElem_set]
  by_cases e : k = i
  · subst e; simp [rowTo]
  · rw [if_neg e]
    simp only [rowTo, List.getElem_map, List.getElem_range]
    by_cases h : i < k
    · rw [if_pos h, if_pos (by omega)]
    · rw [if_neg h, if_neg (by omega)]
theorem zero_row : Array.replicate 256 (Value.int .u8 0) = (byteCells (rowTo 0)).toArray := by
  have e : rowTo 0 = List.replicate 256 0 := by decide
  rw [e]; unfold byteCells; rw [List.map_replicate, List.toArray_replicate]; rfl
set_option maxHeartbeats 800000 in
theorem mNew (w : World) : Calls Try.prog 26 #[] w fun e w' => e = .returned (.pointer (some ⟨w.heap.size, 0, none⟩)) ∧ RowAt w' w.heap.size all ∧ Below w.heap.size w w' ∧ w'.heap.size = w.heap.size + 1 := by
  obtain ⟨hz, hi⟩ := zero_of_info (P := Try.prog) (t := 77) (v := .agg (Array.replicate 256 (.int .u8 0))) (n := 256) (by kernel_rfl)
  rw [zero_row] at hz
  obtain ⟨Z, hZ⟩ : ∃ Z, (byteCells (rowTo 0)).toArray = Z := ⟨_, rfl⟩
  have HZ := Lib.hid hZ
  rw [hZ] at hz
  clear hZ
  go_enter Try.func26, Try.ntmps26
  go_wp2
  go_loopw [5] (fun i wr => ∃ k : Nat, k ≤ 256 ∧ i = .int .i64 k ∧ RowAt wr w.heap.size (rowTo k) ∧ Below w.heap.size w wr ∧ wr.heap.size = w.heap.size + 1) (fun i _ => 256 - (intOf i).toNat)
  case atStart => exact ⟨0, by omega, rfl, by unfold RowAt; rw [HZ.out]; exact heap_alloc_new w _, by go_grown, by simp⟩
  case round =>
    obtain ⟨k, hk, rfl, hr, hb, hs⟩ := hrel
    by_cases hlt : k < 256
    · have c1 := hr.cell k (by rw [rowTo_len]; exact hlt)
      have f1 := hr.free k
      have HR := Lib.hid hr
      have HS := Lib.hid hs
      clear hr hs
      go_wp2
      go_roundw
      case rel => exact ⟨k + 1, by omega, by go_num, by rw [← rowTo_set k hlt]; exact HR.out.set k _ _ (by simp; omega), hb.setCell (by simp) _, by simp [HS.out]⟩
      case measure => simp [intOf]; omega
    · obtain rfl : k = 256 := by omega
      rw [rowTo_all] at hr
      have HR := Lib.hid hr
      have HS := Lib.hid hs
      clear hr hs
      go_wp2
      go_ret
      exact ⟨rfl, HR.out, hb, HS.out⟩
theorem idx_lib (r : List UInt8) (b : UInt8) (h : b ∈ r) : Lib.indexByte r b = (r.idxOf b : Nat) := by
  induction r with
  | nil => simp at h
  | cons c r ih =>
    rw [List.idxOf_cons]
    simp only [Lib.indexByte]
    by_cases hc : c = b
    · subst hc; simp
    · have h' : b ∈ r := by
        rcases List.mem_cons.1 h with e | e
        · exact absurd e.symm hc
        · exact e
      have e : (c == b) = false := beq_eq_false_iff_ne.2 hc
      rw [ih h', e]
      simp only [cond_false, Bool.false_eq_true, if_false]
      have : (((r.idxOf b : Nat) : Int) == -1) = false := by rw [beq_eq_false_iff_ne]; omega
      rw [this]
      simp
set_option maxHeartbeats 800000 in
theorem mIndex (w : World) (g c : Nat) (r : List UInt8) (hr : RowAt w g r) (hl : r.length = 256) (b : UInt8) (hb : b ∈ r) : Calls Try.prog 27 #[.slice (some ⟨g, 0, none⟩) 256 c, .int .u8 (b.toNat : Int)] w fun e w' => e = .returned (.int .i64 ((r.idxOf b : Nat) : Int)) ∧ w' = w := by
  have hrun := Lib.run_indexByteSlice (P := Try.prog) (w := w) g 0 256 c (r.map fun b => (b.toNat : Int)) (by simp [hl]) (fun i hi => by
    have h := hr.cell i (by omega)
    rw [Nat.zero_add, h]
    simp [List.getD_eq_getElem?_getD, hl, hi]) (b.toNat : Int)
  have e1 : Lib.bytesOf (r.map fun b => (b.toNat : Int)) = r := by
    unfold Lib.bytesOf
    rw [List.map_map]
    conv => rhs; rw [← List.map_id r]
    refine List.map_congr_left fun x _ => ?_
    simp
  have e2 : ((b.toNat : Int)).toNat.toUInt8 = b := by simp
  rw [e1, e2, idx_lib r b hb] at hrun
  have HRUN := Lib.hid hrun
  clear hrun e1 e2
  go_enter Try.func27, Try.ntmps27
  go_wp2
  rw [run_callFunc_extern Try.func49 (by kernel_rfl) (by kernel_rfl) (by kernel_rfl) (e := Extern.BytealgIndexByte.indexByte) (by kernel_rfl), HRUN.out]
  simp only [Result.andThen]
  rw [Oper.upon_value]
  go_wp2
  go_ret
  exact ⟨rfl, rfl⟩

end Go.Proofs.Ytedmnlfbmmlcbaa.Mtf
