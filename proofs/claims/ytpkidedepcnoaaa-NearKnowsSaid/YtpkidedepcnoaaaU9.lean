/- Layer 19: Ranks, and the document's; Is. -/
import Derived.Test.YtpkidedepcnoaaaU8
import Derived.Test.YtpkidedepcnoaaaM4
namespace Go.Proofs.Ytpkidedepcnoaaa
open Go.ChangeShapes Go.WideShapes Go.ChangeAt Go.RowKit
set_option linter.unusedVariables false
set_option linter.unusedSimpArgs false
set_option maxRecDepth 100000
theorem listI_ext (o m : List Int) (h : o.length = m.length) (hg : ∀ i, i < o.length → o.getD i 0 = m.getD i 0) : o = m := by
  apply List.ext_getElem h
  intro i h1 h2
  have := hg i h1
  rwa [List.getD_eq_getElem?_getD, List.getElem?_eq_getElem h1, List.getD_eq_getElem?_getD, List.getElem?_eq_getElem h2] at this
set_option maxHeartbeats 3200000 in
theorem cRanks (l : List Int) (aa : Option Addr) (n cap : Nat) (w : World) (h : IsInts w aa l) (hl : l.length = n) (hn : (n : Int) ≤ 1000000) :
    Calls Try.prog 16 #[.slice aa n cap] w fun e w' => ∃ g, e = .returned (.slice (some ⟨g, 0, none⟩) n n) ∧ OwnI w.heap.size w' (.slice (some ⟨g, 0, none⟩) n n) (ranksL l) ∧ Below w.heap.size w w' := by
  have HI := Lib.hid h
  have HL := Lib.hid hl
  clear h hl
  go_enter Try.func16, Try.ntmps16
  go_wp2_with (refine make_int rfl _ _ rfl .i64 .i64 (n : Int) (n : Int) n rfl rfl rfl rfl (by omega) ?_; intro w1 ho1 hb1 hs1)
  have HO1 := Lib.hid ho1
  have HB1 := Lib.hid hb1
  clear ho1 hb1 hs1
  obtain ⟨g, hg⟩ : ∃ g, w.heap.size = g := ⟨_, rfl⟩
  have HG := Lib.hid hg
  rw [hg] at HO1 HB1 ⊢
  clear hg
  go_loopw [12] (fun tv wr => ∃ (t : Nat) (o : List Int), t ≤ n ∧ tv = .int .i64 t ∧ Hid (o.length = n ∧ ∀ i, i < t → o.getD i 0 = -1) ∧ Hid (OwnI g wr (.slice (some ⟨g, 0, none⟩) n n) o) ∧ Hid (Below g w wr)) (fun tv _ => n - (intOf tv).toNat)
  case atStart => exact ⟨0, _, Nat.zero_le _, rfl, Lib.hid ⟨List.length_replicate, fun i h => by omega⟩, HO1, HB1⟩
  case round =>
    clear HO1 HB1
    obtain ⟨t, o, ht, rfl, HT, HO, HB⟩ := hrel
    by_cases hlt : t < n
    · have hti : (t : Int) < n := by omega
      have co := HO.out.int_cell t (by rw [HT.out.1]; exact hlt)
      have fo := HO.out.free t
      have lo := (HO.out.lt _ rfl).2
      have HO2 := Lib.hid (HO.out.set_int t (-1) (by rw [HT.out.1]; exact hlt))
      have HB2 := Lib.hid (HB.out.setCell (p := ⟨g, t, none⟩) (Nat.le_refl _) (.int .i64 (-1)))
      have HT2 := Lib.hid (show (o.set t (-1)).length = n ∧ ∀ i, i < t + 1 → (o.set t (-1)).getD i 0 = -1 from ⟨by rw [List.length_set]; exact HT.out.1, fun i hi => by
        rw [set_getD _ _ _ _ (by rw [HT.out.1]; exact hlt)]
        by_cases e : t = i
        · rw [if_pos e]
        · rw [if_neg e]; exact HT.out.2 i (by omega)⟩)
      go_wp2_with fail
      go_roundw
      case rel => exact ⟨t + 1, _, by omega, by go_num, HT2, HO2, HB2⟩
      case measure => simp [intOf] <;> omega
    · obtain rfl : t = n := by omega
      go_wp2_with fail
      go_loopw [21] (fun pv wr => ∃ (p : Nat) (o : List Int), p ≤ t ∧ pv = .int .i64 p ∧ Hid (o.length = t ∧ ∀ i : Nat, i < t → o.getD i 0 = fstF l i p) ∧ Hid (OwnI g wr (.slice (some ⟨g, 0, none⟩) t t) o) ∧ Hid (Below g w wr)) (fun pv _ => t - (intOf pv).toNat)
      case atStart => exact ⟨0, o, Nat.zero_le _, rfl, Lib.hid ⟨HT.out.1, fun i hi => HT.out.2 i hi⟩, HO, HB⟩
      case round =>
        clear HT HO HB
        obtain ⟨p, o, hp, rfl, HT, HO, HB⟩ := hrel
        by_cases hlt : p < t
        · have hpi : (p : Int) < t := by omega
          obtain ⟨x, rfl, hxb, hc⟩ := (HI.out.kept (HG.out.symm ▸ HB.out)).at p (by rw [HL.out]; exact hlt)
          have cp := hc p (by rw [HL.out]; exact hlt)
          obtain ⟨y, hy⟩ : ∃ y, l.getD p 0 = y := ⟨_, rfl⟩
          rw [hy] at cp
          have lo := (HO.out.lt _ rfl).2
          clear hc
          have hstep : ∀ i : Nat, fstF l i (p + 1) = if fstF l i p < 0 ∧ y = i then (p : Int) else fstF l i p := fun i => by rw [fstF, hy]
          have HST := Lib.hid hstep
          clear hstep hy
          by_cases h1 : 0 ≤ y
          · by_cases h2 : y < t
            · obtain ⟨i, rfl⟩ : ∃ i : Nat, y = (i : Int) := ⟨y.toNat, (Int.toNat_of_nonneg h1).symm⟩
              have hit : i < t := by omega
              have co := HO.out.int_cell i (by rw [HT.out.1]; exact hit)
              rw [HT.out.2 i hit] at co
              have fo := HO.out.free i
              obtain ⟨F, hF⟩ : ∃ F, fstF l i p = F := ⟨_, rfl⟩
              rw [hF] at co
              by_cases h3 : F < 0
              · have HO2 := Lib.hid (HO.out.set_int i (p : Int) (by rw [HT.out.1]; exact hit))
                have HB2 := Lib.hid (HB.out.setCell (p := ⟨g, i, none⟩) (Nat.le_refl _) (.int .i64 (p : Int)))
                have HT2 := Lib.hid (show (o.set i (p : Int)).length = t ∧ ∀ q : Nat, q < t → (o.set i (p : Int)).getD q 0 = fstF l q (p + 1) from ⟨by rw [List.length_set]; exact HT.out.1, fun q hq => by
                  rw [set_getD _ _ _ _ (by rw [HT.out.1]; exact hit), HST.out q]
                  by_cases e : i = q
                  · subst e; rw [if_pos rfl, if_pos ⟨by omega, rfl⟩]
                  · rw [if_neg e, if_neg (fun h => e (by omega)), HT.out.2 q hq]⟩)
                clear hF
                go_wp2_with fail
                go_roundw
                case rel => exact ⟨p + 1, _, by omega, by go_num, HT2, HO2, HB2⟩
                case measure => simp [intOf] <;> omega
              · have HT2 := Lib.hid (show o.length = t ∧ ∀ q : Nat, q < t → o.getD q 0 = fstF l q (p + 1) from ⟨HT.out.1, fun q hq => by
                  rw [HST.out q, if_neg (fun h => by have e : i = q := by omega
                                                     subst e; omega), HT.out.2 q hq]⟩)
                clear hF
                go_wp2_with fail
                go_roundw
                case rel => exact ⟨p + 1, _, by omega, by go_num, HT2, HO, HB⟩
                case measure => simp [intOf] <;> omega
            · have HT2 := Lib.hid (show o.length = t ∧ ∀ q : Nat, q < t → o.getD q 0 = fstF l q (p + 1) from ⟨HT.out.1, fun q hq => by
                rw [HST.out q, if_neg (fun h => by omega), HT.out.2 q hq]⟩)
              go_wp2_with fail
              go_roundw
              case rel => exact ⟨p + 1, _, by omega, by go_num, HT2, HO, HB⟩
              case measure => simp [intOf] <;> omega
          · have HT2 := Lib.hid (show o.length = t ∧ ∀ q : Nat, q < t → o.getD q 0 = fstF l q (p + 1) from ⟨HT.out.1, fun q hq => by
              rw [HST.out q, if_neg (fun h => by omega), HT.out.2 q hq]⟩)
            go_wp2_with fail
            go_roundw
            case rel => exact ⟨p + 1, _, by omega, by go_num, HT2, HO, HB⟩
            case measure => simp [intOf] <;> omega
        · obtain rfl : p = t := by omega
          have e : o = ranksL l := listI_ext _ _ (by rw [HT.out.1, ranksL_len, HL.out]) (fun i hi => by
            rw [HT.out.1] at hi
            rw [HT.out.2 i hi, ranksL_getD l i (by rw [HL.out]; exact hi), HL.out])
          have HO9 := Lib.hid (show OwnI g wr (.slice (some ⟨g, 0, none⟩) p p) (ranksL l) by rw [← e]; exact HO.out)
          clear e
          go_wp2_with fail
          go_ret
          exact ⟨g, rfl, by rw [HG.out]; exact HO9.out, by rw [HG.out]; exact HB.out⟩
set_option maxHeartbeats 3200000 in
theorem dRanks (l : List Int) (aa : Option Addr) (n cap : Nat) (w : World) (h : IsInts w aa l) (hl : l.length = n) (hn : (n : Int) ≤ 1000000) :
    Calls Try.prog 17 #[.slice aa n cap] w fun e w' => ∃ g, e = .returned (.slice (some ⟨g, 0, none⟩) n n) ∧ OwnI w.heap.size w' (.slice (some ⟨g, 0, none⟩) n n) (ranksL l) ∧ Below w.heap.size w w' := by
  have HI := Lib.hid h
  have HL := Lib.hid hl
  clear h hl
  go_enter Try.func17, Try.ntmps17
  go_wp2_with (refine make_int rfl _ _ rfl .i64 .i64 (n : Int) (n : Int) n rfl rfl rfl rfl (by omega) ?_; intro w1 ho1 hb1 hs1)
  have HO1 := Lib.hid ho1
  have HB1 := Lib.hid hb1
  clear ho1 hb1 hs1
  obtain ⟨g, hg⟩ : ∃ g, w.heap.size = g := ⟨_, rfl⟩
  have HG := Lib.hid hg
  rw [hg] at HO1 HB1 ⊢
  clear hg
  go_loopw [4] (fun tv wr => ∃ (t : Nat) (o : List Int), t ≤ n ∧ tv = .int .i64 t ∧ Hid (o.length = n ∧ ∀ i : Nat, i < t → o.getD i 0 = fstF l i n) ∧ Hid (OwnI g wr (.slice (some ⟨g, 0, none⟩) n n) o) ∧ Hid (Below g w wr)) (fun tv _ => n - (intOf tv).toNat)
  case atStart => exact ⟨0, _, Nat.zero_le _, rfl, Lib.hid ⟨List.length_replicate, fun i h => by omega⟩, HO1, HB1⟩
  case round =>
    clear HO1 HB1
    obtain ⟨t, o, ht, rfl, HT, HO, HB⟩ := hrel
    by_cases hlt : t < n
    · have hti : (t : Int) < n := by omega
      have co := HO.out.int_cell t (by rw [HT.out.1]; exact hlt)
      have fo := HO.out.free t
      have lo := (HO.out.lt _ rfl).2
      have HO2 := Lib.hid (HO.out.set_int t (-1) (by rw [HT.out.1]; exact hlt))
      have HB2 := Lib.hid (HB.out.setCell (p := ⟨g, t, none⟩) (Nat.le_refl _) (.int .i64 (-1)))
      have HT2 := Lib.hid (show (o.set t (-1)).length = n ∧ (∀ i : Nat, i < t → (o.set t (-1)).getD i 0 = fstF l i n) ∧ (o.set t (-1)).getD t 0 = bckF l t n 0 from ⟨by rw [List.length_set]; exact HT.out.1, fun i hi => by
        rw [set_getD _ _ _ _ (by rw [HT.out.1]; exact hlt), if_neg (by omega)]; exact HT.out.2 i hi, by rw [set_getD _ _ _ _ (by rw [HT.out.1]; exact hlt), if_pos rfl]; rfl⟩)
      clear HT HO HB
      go_wp2_with fail
      clear co fo lo
      go_loopw [5] (fun kv wr => ∃ (d : Nat) (o : List Int), d ≤ n ∧ kv = .int .i64 ((n : Int) - 1 - d) ∧ Hid (o.length = n ∧ (∀ i : Nat, i < t → o.getD i 0 = fstF l i n) ∧ o.getD t 0 = bckF l t n d) ∧ Hid (OwnI g wr (.slice (some ⟨g, 0, none⟩) n n) o) ∧ Hid (Below g w wr)) (fun kv _ => (intOf kv + 1).toNat)
      case atStart => exact ⟨0, _, Nat.zero_le _, by go_num, HT2, HO2, HB2⟩
      case round =>
        clear HT2 HO2 HB2
        obtain ⟨d, o, hd, rfl, HT, HO, HB⟩ := hrel
        by_cases hdn : d < n
        · obtain ⟨k, hk⟩ : ∃ k, n - 1 - d = k := ⟨_, rfl⟩
          have hki : (n : Int) - 1 - d = (k : Int) := by omega
          have hkn : (k : Int) < n := by omega
          have hk0 : (0 : Int) ≤ (k : Int) := by omega
          obtain ⟨x, rfl, hxb, hc⟩ := (HI.out.kept (HG.out.symm ▸ HB.out)).at k (by rw [HL.out]; omega)
          have cp := hc k (by rw [HL.out]; omega)
          obtain ⟨y, hy⟩ : ∃ y, l.getD k 0 = y := ⟨_, rfl⟩
          rw [hy] at cp
          have co := HO.out.int_cell t (by rw [HT.out.1]; exact hlt)
          have fo := HO.out.free t
          have lo := (HO.out.lt _ rfl).2
          clear hc
          have hst : bckF l t n (d + 1) = if y = (t : Int) then (k : Int) else bckF l t n d := by rw [bckF, hk, hy]
          rw [hki]
          have HKI := Lib.hid hki
          clear hki hk hy
          by_cases e : y = (t : Int)
          · subst e
            rw [if_pos rfl] at hst
            have HO2 := Lib.hid (HO.out.set_int t (k : Int) (by rw [HT.out.1]; exact hlt))
            have HB2 := Lib.hid (HB.out.setCell (p := ⟨g, t, none⟩) (Nat.le_refl _) (.int .i64 (k : Int)))
            have HT2 := Lib.hid (show (o.set t (k : Int)).length = n ∧ (∀ i : Nat, i < t → (o.set t (k : Int)).getD i 0 = fstF l i n) ∧ (o.set t (k : Int)).getD t 0 = bckF l t n (d + 1) from ⟨by rw [List.length_set]; exact HT.out.1, fun i hi => by
              rw [set_getD _ _ _ _ (by rw [HT.out.1]; exact hlt), if_neg (by omega)]; exact HT.out.2.1 i hi, by rw [set_getD _ _ _ _ (by rw [HT.out.1]; exact hlt), if_pos rfl, hst]⟩)
            clear hst
            go_wp2_with fail
            go_roundw
            case rel => exact ⟨d + 1, _, by omega, by have := HKI.out; go_num, HT2, HO2, HB2⟩
            case measure => simp [intOf] <;> omega
          · rw [if_neg e] at hst
            have HT2 := Lib.hid (show o.length = n ∧ (∀ i : Nat, i < t → o.getD i 0 = fstF l i n) ∧ o.getD t 0 = bckF l t n (d + 1) from ⟨HT.out.1, HT.out.2.1, by rw [hst]; exact HT.out.2.2⟩)
            have e1 : (y == (t : Int)) = false := by simp [e]
            clear hst
            go_wp2_with fail
            go_roundw
            case rel => exact ⟨d + 1, _, by omega, by have := HKI.out; go_num, HT2, HO, HB⟩
            case measure => simp [intOf] <;> omega
        · obtain rfl : d = n := by omega
          have hki : (d : Int) - 1 - d = -1 := by omega
          rw [hki]
          have HT2 := Lib.hid (show o.length = d ∧ ∀ i : Nat, i < t + 1 → o.getD i 0 = fstF l i d from ⟨HT.out.1, fun i hi => by
            by_cases e : i = t
            · subst e; rw [HT.out.2.2, bck_fst]
            · exact HT.out.2.1 i (by omega)⟩)
          go_wp2_with fail
          go_roundw
          case rel => exact ⟨t + 1, _, by omega, by go_num, HT2, HO, HB⟩
          case measure => simp [intOf] <;> omega
    · obtain rfl : t = n := by omega
      have e : o = ranksL l := listI_ext _ _ (by rw [HT.out.1, ranksL_len, HL.out]) (fun i hi => by
        rw [HT.out.1] at hi
        rw [HT.out.2 i hi, ranksL_getD l i (by rw [HL.out]; exact hi), HL.out])
      have HO9 := Lib.hid (show OwnI g wr (.slice (some ⟨g, 0, none⟩) t t) (ranksL l) by rw [← e]; exact HO.out)
      clear e
      go_wp2_with fail
      go_ret
      exact ⟨g, rfl, by rw [HG.out]; exact HO9.out, by rw [HG.out]; exact HB.out⟩
end Go.Proofs.Ytpkidedepcnoaaa
