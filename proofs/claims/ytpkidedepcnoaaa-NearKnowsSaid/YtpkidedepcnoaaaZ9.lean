/- Layer 21: rising, walked. -/
import Derived.Test.YtpkidedepcnoaaaZ8
namespace Go.Proofs.Ytpkidedepcnoaaa
open Go.ChangeShapes Go.WideShapes Go.ChangeAt Go.RowKit Go.Maps
set_option linter.unusedVariables false
set_option linter.unusedSimpArgs false
set_option maxRecDepth 100000
set_option maxHeartbeats 3200000 in
theorem cRising (b c i : Nat) (M : Nat → Option Nat) (w : World) (hM : IsM w b c M) (hc : c ≤ 200000) (hi : i ≤ 1000000) (hs : ∀ n p, M n = some p → p < i) :
    Calls Try.prog 41 #[.int .i64 i, .map (some b)] w fun e w' => ∃ v out, e = .returned v ∧ OwnMt w.heap.size w' v out ∧ out.length ≤ 200000 ∧ RisesTo M i out ∧ Below w.heap.size w w' := by
  obtain ⟨D, hown, hD, hK⟩ := hM
  have hbw : b < w.heap.size := hown.lt
  have hsz := hown.size_le
  have HD := Lib.hid hD
  have HS := Lib.hid hs
  have HAcc := Lib.hid (show AccOk M i (Maps.has D) [] from ⟨fun kl hkl => by
    obtain ⟨k, rfl⟩ := hK kl hkl
    exact ⟨k, rfl, by rw [← (hD k).1]; exact hkl⟩, fun x hx => by simp at hx, fun n p hp => .inl (by rw [(hD n).1, hp]; rfl), List.Pairwise.nil⟩)
  clear hD hs hK
  go_enter Try.func41, Try.ntmps41
  go_wp2_with (first
    | (at_range; refine wpList_range_own _ rfl _ 61 rfl 3 3 lawI Try.underlying61 _ b c D rfl hown ?_; intro w0 hrg0 hg0 hs0)
    | go_in)
  go_frame
  obtain ⟨r0, hr0⟩ : ∃ r0, w.heap.size = r0 := ⟨_, rfl⟩
  have HR0 := Lib.hid hr0
  rw [hr0] at hrg0 hs0 hbw ⊢
  have HB0 := Lib.hid (show Below r0 w w0 from below_of_grown hg0 (by omega) (fun k hk => by cases hk))
  go_loopw [5] (fun v wr => ∃ (left : Lit → Bool) (cnt : Nat) (acc : List Mt), wr.ranges Try.prog 3 (plainElem Try.prog 3) b r0 c D left cnt ∧ acc.length + cnt ≤ c ∧ Hid (OwnMt (r0 + 1) wr v acc) ∧ Hid (AccOk M i left acc) ∧ Hid (Below r0 w wr) ∧ r0 + 1 ≤ wr.heap.size) (fun _ wr => wr.rangeLeft b r0)
  case atStart => exact ⟨_, _, [], hrg0, by simp; omega, Lib.hid OwnS.nil, HAcc, HB0, by omega⟩
  case round =>
    clear hrg0 hg0 hs0 HB0 HAcc hown
    obtain ⟨left, cnt, acc, hrg, hcnt, HO, HA, HB, hrs⟩ := hrel
    obtain ⟨va, vc, rfl⟩ := HO.out.slice
    go_wp2_with (first
      | (at_next; refine wpList_next_ranges_ii _ rfl _ rfl 3 3 .i64 .i64 lawI Try.underlying3 Try.underlying3 b r0 c _ _ _ rfl hrg ?_ ?_)
      | go_in)
    · intro hc0 hl0
      obtain rfl : cnt = 0 := hc0
      have HZ := Lib.hid hl0
      have HB1 := Lib.hid (show r0 + 1 ≤ wr.heap.size from hrs)
      clear hl0 hrg
      go_wp2_with fail
      refine (cSortM (r0 + 1) _ acc wr HO.out HB1.out (by omega)).mono ?_; rintro e w2 ⟨rfl, l, ho2, hp2, hs2, hb2⟩
      have hll : l.length = acc.length := hp2.length_eq
      have HRT := Lib.hid (rises_of HA.out HZ.out hp2 hs2)
      have HV := Lib.hid (ho2.isMv (by omega))
      have HB2 := Lib.hid (HB.out.trans (hb2.mono (by omega)))
      have hz2 : r0 ≤ w2.heap.size := by have := hb2.size; omega
      rw [← hll]
      clear ho2 hp2 hs2 hb2 HO HA HB HB1 hrs HZ
      obtain ⟨n, hn⟩ : ∃ n, l.length = n := ⟨_, rfl⟩
      have HN := Lib.hid hn
      have hln : n ≤ 200000 := by omega
      rw [hn]
      rw [← hll, hn] at HV
      have HMS := Lib.hid (show IsMs w2 va l by
        obtain ⟨a, cap, e, h⟩ := HV.out
        simp only [Value.slice.injEq] at e
        obtain ⟨rfl, -, -⟩ := e
        exact h)
      clear hn hll hcnt HV
      go_wp2_with fail
      go_loopw [8, 30] (fun ov jv wr => ∃ (j : Nat), j ≤ n ∧ jv = .int .i64 j ∧ Hid (OwnMt w2.heap.size wr ov (scanK (l.take j))) ∧ Hid (Below w2.heap.size w2 wr)) (fun _ jv _ => n - (intOf jv).toNat)
      case atStart => exact ⟨0, Nat.zero_le _, rfl, Lib.hid OwnS.nil, Lib.hid (Below.refl _ _)⟩
      case round =>
        obtain ⟨j, hj, rfl, HO, HQ⟩ := hrel
        obtain ⟨oa, oc, rfl⟩ := HO.out.slice
        by_cases hlt : j < n
        · have hji : (j : Int) < n := by omega
          obtain ⟨xv, rfl, hxv, hcv⟩ := (HMS.out.kept HQ.out).at j (by rw [HN.out]; exact hlt)
          obtain ⟨c1, c2⟩ := hcv j (by rw [HN.out]; exact hlt)
          have htk : scanK (l.take (j + 1)) = keepStep (scanK (l.take j)) (l.getD j (0, 0)) := by
            rw [List.take_succ_eq_append_getElem (by rw [HN.out]; exact hlt), scanK_snoc]
            simp [List.getD_eq_getElem?_getD, HN.out, hlt]
          obtain ⟨⟨X, Y⟩, hXY⟩ : ∃ m, l.getD j (0, 0) = m := ⟨_, rfl⟩
          have hol := scanK_len (l.take j)
          rw [List.length_take] at hol
          rw [hXY] at c1 c2 htk
          obtain ⟨o, ho⟩ : ∃ o, scanK (l.take j) = o := ⟨_, rfl⟩
          rw [ho] at HO hol htk
          rw [ho]
          have HTK := Lib.hid htk
          have hxb : (xv.add (j * 2)).block < wr.heap.size := by rw [add_block]; exact hxv
          have hob : o.length ≤ 200000 := by omega
          have hQz : w2.heap.size ≤ wr.heap.size := HQ.out.size
          have HOA := Lib.hid (fun T => HO.out.alloc (.cells #[.int .i64 X, .int .i64 Y] T))
          have HQA := Lib.hid (fun T => HQ.out.alloc hQz (.cells #[.int .i64 X, .int .i64 Y] T))
          simp only at c1 c2
          clear hcv htk hXY ho
          by_cases h0 : o.length = 0
          · have e0 : ((o.length : Int) == 0) = true := by rw [h0]; rfl
            have HK := Lib.hid (show keepStep o (X, Y) = o ++ [(X, Y)] from if_pos (.inl h0))
            go_wp2_with fail
            go_quiet (fail)
            have HON := Lib.hid ((HOA.out 43).drewN nq)
            have HQN := Lib.hid (below_dn (HQA.out 43) nq)
            have HCN := Lib.hid (show ((wr.alloc (.cells #[.int .i64 X, .int .i64 Y] 43)).drewN nq).heap[wr.heap.size]? = some (.cells #[.int .i64 X, .int .i64 Y] 43 (0, 0)) from heap_alloc_new wr _)
            clear HOA HQA c1 c2 hxb hxv
            generalize (wr.alloc (.cells #[.int .i64 X, .int .i64 Y] 43)).drewN nq = WN at *
            have m1 := cell_lit HCN.out 0 _ rfl
            have m2 := cell_lit HCN.out 1 _ rfl
            have m3 := block_lt HCN.out
            have HLn := Lib.hid (show o.length ≤ 1099511627776 by omega)
            go_wp2_with (first | (at_builtin; go_loud (refine app_mt rfl _ _ rfl w2.heap.size _ (.slice oa o.length oc) o (X, Y) rfl HON.out WN.heap.size 1 rfl rfl HLn.out HQN.out.size ?_); intro v7 w7 ho7 hb7 hg7) | fail)
            have HO7 := Lib.hid ho7
            have HQ7 := Lib.hid (HQN.out.trans hb7)
            clear ho7 hb7 hg7
            go_roundw
            case rel => exact ⟨j + 1, by omega, by go_num, by rw [HTK.out, HK.out]; exact HO7, HQ7⟩
            case measure => simp [intOf]; omega
          · obtain ⟨go, oc2, hoe, -, hgo⟩ := HO.out.form (by omega) (by decide)
            simp only [Value.slice.injEq, true_and] at hoe
            obtain ⟨rfl, rfl⟩ := hoe
            obtain ⟨q, hq⟩ : ∃ q, o.length - 1 = q := ⟨_, rfl⟩
            have hqo : q < o.length := by omega
            have hcq := (HOA.out 43).cell flatM q 1 o[q] (by simp [hqo]) (by decide)
            obtain ⟨Z, hZ⟩ : ∃ Z, (o.getLastD (0, 0)).2 = Z := ⟨_, rfl⟩
            have hlast : o[q] = o.getLastD (0, 0) := by
              rw [List.getLastD_eq_getLast?, List.getLast?_eq_getElem?, hq]; simp [hqo]
            rw [hlast] at hcq
            simp only [fM, hZ] at hcq
            have hcq : (wr.alloc (.cells #[.int .i64 X, .int .i64 Y] 43)).cell? ⟨go, q * 2 + 1, none⟩ = some (.int .i64 Z) := by simpa using hcq
            have e0 : ((o.length : Int) == 0) = false := by rw [beq_eq_false_iff_ne]; omega
            have hqi : (o.length : Int) - 1 = (q : Int) := by omega
            have hqw : IntKind.i64.wrap ((o.length : Int) - 1) = (q : Int) := by rw [hqi]; exact IntWalk.i64_in _ (by omega)
            have hqw2 : IntKind.i64.wrap (q : Int) = (q : Int) := IntWalk.i64_in _ (by omega)
            have hqi2 : (q : Int) < o.length := by omega
            have hgo2 : go < (wr.alloc (.cells #[.int .i64 X, .int .i64 Y] 43)).heap.size := by simp; omega
            have HKK := Lib.hid (show keepStep o (X, Y) = if Y < Z then o ++ [(X, Y)] else o by
              unfold keepStep
              rw [hZ]
              by_cases h : Y < Z
              · rw [if_pos (.inr h), if_pos h]
              · rw [if_neg (fun h2 => h2.elim h0 h), if_neg h])
            clear hq hlast hZ
            by_cases hYZ : Y < Z
            · have d1 : decide (Y < Z) = true := decide_eq_true hYZ
              have HK := Lib.hid (show keepStep o (X, Y) = o ++ [(X, Y)] by rw [HKK.out, if_pos hYZ])
              go_wp2_with fail
              go_quiet (fail)
              have HON := Lib.hid ((HOA.out 43).drewN nq)
              have HQN := Lib.hid (below_dn (HQA.out 43) nq)
              have HCN := Lib.hid (show ((wr.alloc (.cells #[.int .i64 X, .int .i64 Y] 43)).drewN nq).heap[wr.heap.size]? = some (.cells #[.int .i64 X, .int .i64 Y] 43 (0, 0)) from heap_alloc_new wr _)
              clear HOA HQA c1 c2 hxb hxv hcq hgo2 hqw hqw2 hqi
              generalize (wr.alloc (.cells #[.int .i64 X, .int .i64 Y] 43)).drewN nq = WN at *
              have m1 := cell_lit HCN.out 0 _ rfl
              have m2 := cell_lit HCN.out 1 _ rfl
              have m3 := block_lt HCN.out
              have HLn := Lib.hid (show o.length ≤ 1099511627776 by omega)
              go_wp2_with (first | (at_builtin; go_loud (refine app_mt rfl _ _ rfl w2.heap.size _ (.slice (some ⟨go, 0, none⟩) o.length oc) o (X, Y) rfl HON.out WN.heap.size 1 rfl rfl HLn.out HQN.out.size ?_); intro v7 w7 ho7 hb7 hg7) | fail)
              have HO7 := Lib.hid ho7
              have HQ7 := Lib.hid (HQN.out.trans hb7)
              clear ho7 hb7 hg7
              go_roundw
              case rel => exact ⟨j + 1, by omega, by go_num, by rw [HTK.out, HK.out]; exact HO7, HQ7⟩
              case measure => simp [intOf]; omega
            · have d1 : decide (Y < Z) = false := decide_eq_false hYZ
              have HK := Lib.hid (show keepStep o (X, Y) = o by rw [HKK.out, if_neg hYZ])
              go_wp2_with fail
              go_quiet (fail)
              have HON := Lib.hid ((HOA.out 43).drewN nq)
              have HQN := Lib.hid (below_dn (HQA.out 43) nq)
              have HCN := Lib.hid (show ((wr.alloc (.cells #[.int .i64 X, .int .i64 Y] 43)).drewN nq).heap[wr.heap.size]? = some (.cells #[.int .i64 X, .int .i64 Y] 43 (0, 0)) from heap_alloc_new wr _)
              clear HOA HQA c1 c2 hxb hxv hcq hgo2 hqw hqw2 hqi
              generalize (wr.alloc (.cells #[.int .i64 X, .int .i64 Y] 43)).drewN nq = WN at *
              have m1 := cell_lit HCN.out 0 _ rfl
              have m2 := cell_lit HCN.out 1 _ rfl
              have m3 := block_lt HCN.out
              have HLn := Lib.hid (show o.length ≤ 1099511627776 by omega)
              go_wp2_with fail
              go_roundw
              case rel => exact ⟨j + 1, by omega, by go_num, by rw [HTK.out, HK.out]; exact HON, HQN⟩
              case measure => simp [intOf]; omega
        · obtain rfl : j = n := by omega
          have HO9 := Lib.hid (show OwnMt w2.heap.size wr (.slice oa (scanK (l.take j)).length oc) (scanK l) by
            have := HO.out
            rwa [List.take_of_length_le (by rw [HN.out]; exact Nat.le_refl _)] at this ⊢)
          have hsl := scanK_len l
          rw [HN.out] at hsl
          go_wp2_with fail
          refine (cRevM w2.heap.size _ _ wr HO9.out HQ.out.size (by omega)).mono ?_; rintro e w6 ⟨rfl, ho6, hb6⟩
          have HO6 := Lib.hid (ho6.base hz2)
          have HB6 := Lib.hid (HB2.out.trans ((HQ.out.trans hb6).mono hz2))
          clear ho6 hb6
          go_wp2_with fail
          go_ret
          exact ⟨_, _, rfl, by rw [HR0.out]; exact HO6.out, by rw [List.length_reverse]; omega, HRT.out, by rw [HR0.out]; exact HB6.out⟩
    · intro x d w1 cnt1 hwx hwc hlx hat hrg1 hlt hg1 hs1 hen
      obtain ⟨k, hk, hMk⟩ := HA.out.1 _ hlx
      obtain rfl : x = (k : Int) := by simpa using hk
      obtain ⟨p, hp⟩ := Option.isSome_iff_exists.1 hMk
      have hat2 := (HD.out k).2 p hp (.lit (.int .i64 0))
      rw [hat] at hat2
      obtain rfl : d = (p : Int) := by injection hat2 with h; injection h
      have hpi := HS.out k p hp
      have HA2 := Lib.hid (HA.out.step k p hlx hp)
      have hne : ∀ q, (Value.slice va acc.length vc).ownBlock = some q → q ≠ r0 := fun q hq => by have := HO.out.lt q hq; omega
      have HO1 := Lib.hid (show OwnMt (r0 + 1) w1 (.slice va acc.length vc) acc from HO.out.grown hg1 (by
        cases hv : (Value.slice va acc.length vc).ownBlock with
        | none => exact .inl rfl
        | some q => exact .inr (fun e => hne q hv (by injection e))))
      have HB1 := Lib.hid (show Below r0 w w1 from HB.out.grown hg1 (by omega) (fun q hq => by injection hq with hq; omega))
      have HLn := Lib.hid (show acc.length ≤ 1099511627776 by omega)
      have HRG := Lib.hid hrg1
      have hz1 : r0 + 1 ≤ w1.heap.size := by omega
      clear hat hat2 hk hMk hp hwx hwc hne hs1
      go_wp2_with (first | (at_builtin; go_loud (refine app_mt rfl _ _ rfl (r0 + 1) _ (.slice va acc.length vc) acc ((k : Int), (i : Int) - (p : Int)) rfl HO1.out w1.heap.size 1 rfl rfl HLn.out (by omega) ?_); intro v5 w5 ho5 hb5 hg5) | go_in)
      have HO5 := Lib.hid ho5
      have HB5 := Lib.hid (HB1.out.trans (hb5.mono (by omega)))
      have hrg5 := HRG.out.kept hg5 (by
        cases hv : (Value.slice va acc.length vc).ownBlock with
        | none => simp
        | some q => intro e; injection e with e; have := HO1.out.lt q hv; omega) (by
        cases hv : (Value.slice va acc.length vc).ownBlock with
        | none => simp
        | some q => intro e; injection e with e; have := HO1.out.lt q hv; omega)
      have hz5 : r0 + 1 ≤ w5.heap.size := by have := hg5.size; omega
      clear ho5 hb5 hg5
      go_roundw
      case rel => exact ⟨_, cnt1, _, hrg5, by rw [List.length_append]; simp; omega, HO5, HA2, HB5, hz5⟩
      case measure => rw [hrg5.left_eq, hrg.left_eq]; omega
end Go.Proofs.Ytpkidedepcnoaaa
