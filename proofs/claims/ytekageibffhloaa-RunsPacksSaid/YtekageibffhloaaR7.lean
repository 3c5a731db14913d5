/- Layer 12: the document's Unpack. -/
import Derived.Test.YtekageibffhloaaR6
namespace Go.Proofs.Ytekageibffhloaa
open Go.ChangeShapes Go.WideShapes Go.ChangeAt Go.RowKit
set_option linter.unusedVariables false
set_option maxRecDepth 100000
open RunsMath
def LastIs (out : List Int) (x : Int) : Prop := (out = [] → x = 0) ∧ (out ≠ [] → out.getD (out.length - 1) 0 = x)
theorem last_rep (out : List Int) (t : Nat) (Y : Int) (ht : 1 ≤ t) : LastIs (out ++ List.replicate t Y) Y := by
  obtain ⟨k, rfl⟩ : ∃ k, t = k + 1 := ⟨t - 1, by omega⟩
  refine ⟨fun h => ?_, fun _ => ?_⟩
  · simp at h
  · rw [List.replicate_succ', ← List.append_assoc]
    simp [List.getD_eq_getElem?_getD]
set_option maxHeartbeats 6400000 in
theorem dUnpack (a : Option Addr) (c : Nat) (l : List Run) (N : Nat) (hN : N ≤ 1024) (hl : l.length ≤ 2000) (w : World) (h : IsRuns w a l) :
    Calls Try.prog 25 #[.slice a l.length c, .int .i64 N] w (UnpPost (unpack l N) w) := by
  rw [unp_in N hN l]
  obtain ⟨R, hR⟩ : ∃ R, unp N [] 0 l = R := ⟨_, rfl⟩
  rw [hR]
  have h_ := Lib.hid h
  clear h
  go_enter Try.func25, Try.ntmps25
  go_wp2
  go_loopw [6, 7] (fun u i wr => ∃ (k : Nat) (out : List Int) (x : Int), k ≤ l.length ∧ i = .int .i64 k ∧ Hid (LastIs out x) ∧ out.length ≤ N ∧ OwnI w.heap.size wr u out ∧ Below w.heap.size w wr ∧ Hid (unp N out x (l.drop k) = R)) (fun _ i _ => l.length - (intOf i).toNat)
  case atStart => exact ⟨0, [], 0, Nat.zero_le _, rfl, ⟨fun _ => rfl, fun h => absurd rfl h⟩, by simp, OwnS.nil, Below.refl _ _, Lib.hid hR⟩
  case round =>
    clear hR
    obtain ⟨k, out, x0, hk, rfl, hlast, hon, hown, hb, hp⟩ := hrel
    have hbs := hb.size
    by_cases hlt : k < l.length
    · obtain ⟨x, rfl, hxb, hx⟩ := h_.out.at k hlt
      have HX : Hid (∀ W, Below w.heap.size w W → W.cell? (x.add (k * 2)) = some (.int .i64 (l.getD k (0, 0)).1) ∧ W.cell? ⟨(x.add (k * 2)).block, (x.add (k * 2)).off + 1, none⟩ = some (.int .i64 (l.getD k (0, 0)).2)) := fun W hW => ⟨(hW.cell (by rw [add_block]; exact hxb)).trans (hx k hlt).1, (hW.cell (by show (x.add (k * 2)).block < _; rw [add_block]; exact hxb)).trans (hx k hlt).2⟩
      have hp2 := hp.out
      rw [drop_getDR l k hlt, unp] at hp2
      obtain ⟨X, hX⟩ : ∃ X, l.getD k (0, 0) = X := ⟨_, rfl⟩
      rw [hX] at HX hp2
      obtain ⟨s, m⟩ := X
      simp only at HX
      obtain ⟨cx, cx2⟩ := HX.out wr hb
      clear hX hp hx
      obtain ⟨pu, pc, hpu⟩ := hown.slice
      subst hpu
      rcases hF : fine (s, m) with _ | _
      · rw [if_pos hF] at hp2
        have C := Lib.hid (dFine s m false hF wr)
        have HR := Lib.hid hp2
        clear hF hp2
        go_wp2_with fail
        refine C.out.mono ?_; rintro e w1 ⟨rfl, hb1⟩
        go_wp2_with fail
        go_ret2
        rw [← HR.out]
        exact ⟨_, rfl, OwnS.nil, hb.trans (hb1.mono hbs)⟩
      · rw [if_neg (by rw [hF]; decide)] at hp2
        have C := Lib.hid (dFine s m true hF wr)
        have hm := fine_more s m hF
        have ht := many_le s m hm
        have CM := fun W => dMany s m (many (s, m)) rfl (by omega) W
        obtain ⟨Y, hY⟩ : ∃ Y, what x0 (s, m) = Y := ⟨_, rfl⟩
        obtain ⟨t, htt⟩ : ∃ t, many (s, m) = t := ⟨_, rfl⟩
        rw [hY, htt] at hp2
        rw [htt] at CM ht
        unfold what at hY
        simp only at hY
        have CM_ := Lib.hid CM
        clear CM
        clear hF htt
        go_wp2_with fail
        refine C.out.mono ?_; rintro e w1 ⟨rfl, hb1⟩
        have hown1 := hown.kept hb1
        have hb1 : Below w.heap.size w w1 := hb.trans (hb1.mono hbs)
        obtain ⟨cx, cx2⟩ := HX.out w1 hb1
        clear hown C
        have hsub : IntKind.i64.wrap ((N : Int) - (out.length : Int)) = (N : Int) - (out.length : Int) := IntWalk.i64_in _ (by omega)
        by_cases h17 : s = 17
        · rw [if_pos (.inl h17)] at hY
          subst hY
          subst h17
          have hown1_ := Lib.hid hown1
          clear hown1
          go_wp2_with fail
          refine (CM_.out w1).mono ?_; rintro e w2 ⟨rfl, hb2⟩
          have hown2 := hown1_.out.kept hb2
          have hb2 : Below w.heap.size w w2 := hb1.trans (hb2.mono hb1.size)
          obtain ⟨cx, cx2⟩ := HX.out w2 hb2
          clear hown1_ hb1
          by_cases hfit : N < out.length + t
          · rw [if_pos hfit] at hp2
            have HR := Lib.hid hp2
            have hfi : (N : Int) - (out.length : Int) < (t : Int) := by omega
            have hown2_ := Lib.hid hown2
            clear hown2
            clear hp2 hfit
            go_wp2_with fail
            go_ret2
            rw [← HR.out]
            exact ⟨_, rfl, OwnS.nil, hb2⟩
          · rw [if_neg hfit] at hp2
            have HR := Lib.hid hp2
            have hfi : ¬ (N : Int) - (out.length : Int) < (t : Int) := by omega
            have hown2_ := Lib.hid hown2
            clear hown2
            clear hp2
            go_wp2_with fail
            go_loopw [6, 9] (fun u i wr => ∃ j : Nat, j ≤ t ∧ i = .int .i64 j ∧ OwnI w.heap.size wr u (out ++ List.replicate j 0) ∧ Below w.heap.size w wr) (fun _ i _ => t - (intOf i).toNat)
            case atStart => exact ⟨0, Nat.zero_le _, rfl, by simpa using hown2_.out, hb2⟩
            case round =>
              clear hb2 cx cx2
              obtain ⟨j, hj, rfl, hown, hb⟩ := hrel
              have hbs := hb.size
              obtain ⟨cx, cx2⟩ := HX.out _ hb
              have hown_ := Lib.hid hown
              clear hown
              go_wp2_with fail
              refine (CM_.out _).mono ?_; rintro e w4 ⟨rfl, hb4⟩
              have hown := hown_.out.kept hb4
              have hb := hb.trans (hb4.mono hbs)
              have hbs := hb.size
              clear hown_ hb4 cx cx2
              by_cases hjt : j < t
              · have HL := Lib.hid (show (out ++ List.replicate j 0).length ≤ 1099511627776 by simp; omega)
                have HE := Lib.hid (show (out ++ List.replicate j 0) ++ [0] = out ++ List.replicate (j + 1) 0 by rw [List.append_assoc, List.replicate_succ'])
                have HB := Lib.hid hbs
                go_wp2_with (at_builtin; refine app_int rfl (.tmp 75) (.tmp 77) rfl _ _ _ _ 0 rfl hown w4.heap.size 1 rfl rfl HL.out HB.out ?_; intro v3 w3 hown3 hb3 _)
                rw [HE.out] at hown3
                have hown3_ := Lib.hid hown3
                clear hown3
                go_wp2
                go_roundw
                case rel => exact ⟨j + 1, by omega, by go_num, hown3_.out, hb.trans hb3⟩
                case measure => simp [intOf]; omega
              · obtain rfl : j = t := by omega
                have hln : (out ++ List.replicate j 0).length ≤ N := by simp; omega
                have HLS := Lib.hid (last_rep out j 0 ht.1)
                have hown_ := Lib.hid hown
                clear hown
                go_wp2
                go_roundw
                case rel => exact ⟨k + 1, _, 0, by omega, by go_num, HLS, hln, hown_.out, hb, HR⟩
                case measure => simp [intOf]; omega
        by_cases h18 : s = 18
        · rw [if_pos (.inr h18)] at hY
          subst hY
          subst h18
          have hown1_ := Lib.hid hown1
          clear hown1
          go_wp2_with fail
          refine (CM_.out w1).mono ?_; rintro e w2 ⟨rfl, hb2⟩
          have hown2 := hown1_.out.kept hb2
          have hb2 : Below w.heap.size w w2 := hb1.trans (hb2.mono hb1.size)
          obtain ⟨cx, cx2⟩ := HX.out w2 hb2
          clear hown1_ hb1
          by_cases hfit : N < out.length + t
          · rw [if_pos hfit] at hp2
            have HR := Lib.hid hp2
            have hfi : (N : Int) - (out.length : Int) < (t : Int) := by omega
            have hown2_ := Lib.hid hown2
            clear hown2
            clear hp2 hfit
            go_wp2_with fail
            go_ret2
            rw [← HR.out]
            exact ⟨_, rfl, OwnS.nil, hb2⟩
          · rw [if_neg hfit] at hp2
            have HR := Lib.hid hp2
            have hfi : ¬ (N : Int) - (out.length : Int) < (t : Int) := by omega
            have hown2_ := Lib.hid hown2
            clear hown2
            clear hp2
            go_wp2_with fail
            go_loopw [6, 9] (fun u i wr => ∃ j : Nat, j ≤ t ∧ i = .int .i64 j ∧ OwnI w.heap.size wr u (out ++ List.replicate j 0) ∧ Below w.heap.size w wr) (fun _ i _ => t - (intOf i).toNat)
            case atStart => exact ⟨0, Nat.zero_le _, rfl, by simpa using hown2_.out, hb2⟩
            case round =>
              clear hb2 cx cx2
              obtain ⟨j, hj, rfl, hown, hb⟩ := hrel
              have hbs := hb.size
              obtain ⟨cx, cx2⟩ := HX.out _ hb
              have hown_ := Lib.hid hown
              clear hown
              go_wp2_with fail
              refine (CM_.out _).mono ?_; rintro e w4 ⟨rfl, hb4⟩
              have hown := hown_.out.kept hb4
              have hb := hb.trans (hb4.mono hbs)
              have hbs := hb.size
              clear hown_ hb4 cx cx2
              by_cases hjt : j < t
              · have HL := Lib.hid (show (out ++ List.replicate j 0).length ≤ 1099511627776 by simp; omega)
                have HE := Lib.hid (show (out ++ List.replicate j 0) ++ [0] = out ++ List.replicate (j + 1) 0 by rw [List.append_assoc, List.replicate_succ'])
                have HB := Lib.hid hbs
                go_wp2_with (at_builtin; refine app_int rfl (.tmp 75) (.tmp 77) rfl _ _ _ _ 0 rfl hown w4.heap.size 1 rfl rfl HL.out HB.out ?_; intro v3 w3 hown3 hb3 _)
                rw [HE.out] at hown3
                have hown3_ := Lib.hid hown3
                clear hown3
                go_wp2
                go_roundw
                case rel => exact ⟨j + 1, by omega, by go_num, hown3_.out, hb.trans hb3⟩
                case measure => simp [intOf]; omega
              · obtain rfl : j = t := by omega
                have hln : (out ++ List.replicate j 0).length ≤ N := by simp; omega
                have HLS := Lib.hid (last_rep out j 0 ht.1)
                have hown_ := Lib.hid hown
                clear hown
                go_wp2
                go_roundw
                case rel => exact ⟨k + 1, _, 0, by omega, by go_num, HLS, hln, hown_.out, hb, HR⟩
                case measure => simp [intOf]; omega
        rw [if_neg (by omega)] at hY
        have e17 : (s == 17) = false := by rw [beq_eq_false_iff_ne]; exact h17
        have e18 : (s == 18) = false := by rw [beq_eq_false_iff_ne]; exact h18
        by_cases h16 : s = 16
        · rw [if_pos h16] at hY
          subst hY
          subst h16
          by_cases ho : out = []
          · have h0 := hlast.out.1 ho
            subst h0
            have hlen0 : ((out.length : Int) == 0) = true := by rw [ho]; rfl
            have HO := Lib.hid ho
            clear ho
            have hown1_ := Lib.hid hown1
            clear hown1
            go_wp2_with fail
            refine (CM_.out w1).mono ?_; rintro e w2 ⟨rfl, hb2⟩
            have hown2 := hown1_.out.kept hb2
            have hb2 : Below w.heap.size w w2 := hb1.trans (hb2.mono hb1.size)
            obtain ⟨cx, cx2⟩ := HX.out w2 hb2
            clear hown1_ hb1
            by_cases hfit : N < out.length + t
            · rw [if_pos hfit] at hp2
              have HR := Lib.hid hp2
              have hfi : (N : Int) - (out.length : Int) < (t : Int) := by omega
              have hown2_ := Lib.hid hown2
              clear hown2
              clear hp2 hfit
              go_wp2_with fail
              go_ret2
              rw [← HR.out]
              exact ⟨_, rfl, OwnS.nil, hb2⟩
            · rw [if_neg hfit] at hp2
              have HR := Lib.hid hp2
              have hfi : ¬ (N : Int) - (out.length : Int) < (t : Int) := by omega
              have hown2_ := Lib.hid hown2
              clear hown2
              clear hp2
              go_wp2_with fail
              go_loopw [6, 9] (fun u i wr => ∃ j : Nat, j ≤ t ∧ i = .int .i64 j ∧ OwnI w.heap.size wr u (out ++ List.replicate j 0) ∧ Below w.heap.size w wr) (fun _ i _ => t - (intOf i).toNat)
              case atStart => exact ⟨0, Nat.zero_le _, rfl, by simpa using hown2_.out, hb2⟩
              case round =>
                clear hb2 cx cx2
                obtain ⟨j, hj, rfl, hown, hb⟩ := hrel
                have hbs := hb.size
                obtain ⟨cx, cx2⟩ := HX.out _ hb
                have hown_ := Lib.hid hown
                clear hown
                go_wp2_with fail
                refine (CM_.out _).mono ?_; rintro e w4 ⟨rfl, hb4⟩
                have hown := hown_.out.kept hb4
                have hb := hb.trans (hb4.mono hbs)
                have hbs := hb.size
                clear hown_ hb4 cx cx2
                by_cases hjt : j < t
                · have HL := Lib.hid (show (out ++ List.replicate j 0).length ≤ 1099511627776 by simp; omega)
                  have HE := Lib.hid (show (out ++ List.replicate j 0) ++ [0] = out ++ List.replicate (j + 1) 0 by rw [List.append_assoc, List.replicate_succ'])
                  have HB := Lib.hid hbs
                  go_wp2_with (at_builtin; refine app_int rfl (.tmp 75) (.tmp 77) rfl _ _ _ _ 0 rfl hown w4.heap.size 1 rfl rfl HL.out HB.out ?_; intro v3 w3 hown3 hb3 _)
                  rw [HE.out] at hown3
                  have hown3_ := Lib.hid hown3
                  clear hown3
                  go_wp2
                  go_roundw
                  case rel => exact ⟨j + 1, by omega, by go_num, hown3_.out, hb.trans hb3⟩
                  case measure => simp [intOf]; omega
                · obtain rfl : j = t := by omega
                  have hln : (out ++ List.replicate j 0).length ≤ N := by simp; omega
                  have HLS := Lib.hid (last_rep out j 0 ht.1)
                  have hown_ := Lib.hid hown
                  clear hown
                  go_wp2
                  go_roundw
                  case rel => exact ⟨k + 1, _, 0, by omega, by go_num, HLS, hln, hown_.out, hb, HR⟩
                  case measure => simp [intOf]; omega
          · have hpos : 0 < out.length := List.length_pos_iff.2 ho
            have hlen0 : ((out.length : Int) == 0) = false := by rw [beq_eq_false_iff_ne]; omega
            obtain ⟨g, cap, hv, -, -⟩ := hown1.form hpos (by decide)
            injection hv with hv1 _ hv2
            subst hv1; subst hv2
            have hl1 := hlast.out.2 ho
            have hcl := hown1.int_cell (out.length - 1) (by omega)
            rw [hl1] at hcl
            have hni : ((out.length : Int) - 1).toNat = out.length - 1 := by omega
            clear ho hl1
            have hown1_ := Lib.hid hown1
            clear hown1
            go_wp2_with fail
            refine (CM_.out w1).mono ?_; rintro e w2 ⟨rfl, hb2⟩
            have hown2 := hown1_.out.kept hb2
            have hb2 : Below w.heap.size w w2 := hb1.trans (hb2.mono hb1.size)
            obtain ⟨cx, cx2⟩ := HX.out w2 hb2
            clear hown1_ hb1
            by_cases hfit : N < out.length + t
            · rw [if_pos hfit] at hp2
              have HR := Lib.hid hp2
              have hfi : (N : Int) - (out.length : Int) < (t : Int) := by omega
              have hown2_ := Lib.hid hown2
              clear hown2
              clear hp2 hfit
              go_wp2_with fail
              go_ret2
              rw [← HR.out]
              exact ⟨_, rfl, OwnS.nil, hb2⟩
            · rw [if_neg hfit] at hp2
              have HR := Lib.hid hp2
              have hfi : ¬ (N : Int) - (out.length : Int) < (t : Int) := by omega
              have hown2_ := Lib.hid hown2
              clear hown2
              clear hp2
              go_wp2_with fail
              go_loopw [6, 9] (fun u i wr => ∃ j : Nat, j ≤ t ∧ i = .int .i64 j ∧ OwnI w.heap.size wr u (out ++ List.replicate j x0) ∧ Below w.heap.size w wr) (fun _ i _ => t - (intOf i).toNat)
              case atStart => exact ⟨0, Nat.zero_le _, rfl, by simpa using hown2_.out, hb2⟩
              case round =>
                clear hb2 cx cx2
                obtain ⟨j, hj, rfl, hown, hb⟩ := hrel
                have hbs := hb.size
                obtain ⟨cx, cx2⟩ := HX.out _ hb
                have hown_ := Lib.hid hown
                clear hown
                go_wp2_with fail
                refine (CM_.out _).mono ?_; rintro e w4 ⟨rfl, hb4⟩
                have hown := hown_.out.kept hb4
                have hb := hb.trans (hb4.mono hbs)
                have hbs := hb.size
                clear hown_ hb4 cx cx2
                by_cases hjt : j < t
                · have HL := Lib.hid (show (out ++ List.replicate j x0).length ≤ 1099511627776 by simp; omega)
                  have HE := Lib.hid (show (out ++ List.replicate j x0) ++ [x0] = out ++ List.replicate (j + 1) x0 by rw [List.append_assoc, List.replicate_succ'])
                  have HB := Lib.hid hbs
                  go_wp2_with (at_builtin; refine app_int rfl (.tmp 75) (.tmp 77) rfl _ _ _ _ x0 rfl hown w4.heap.size 1 rfl rfl HL.out HB.out ?_; intro v3 w3 hown3 hb3 _)
                  rw [HE.out] at hown3
                  have hown3_ := Lib.hid hown3
                  clear hown3
                  go_wp2
                  go_roundw
                  case rel => exact ⟨j + 1, by omega, by go_num, hown3_.out, hb.trans hb3⟩
                  case measure => simp [intOf]; omega
                · obtain rfl : j = t := by omega
                  have hln : (out ++ List.replicate j x0).length ≤ N := by simp; omega
                  have HLS := Lib.hid (last_rep out j x0 ht.1)
                  have hown_ := Lib.hid hown
                  clear hown
                  go_wp2
                  go_roundw
                  case rel => exact ⟨k + 1, _, x0, by omega, by go_num, HLS, hln, hown_.out, hb, HR⟩
                  case measure => simp [intOf]; omega
        · rw [if_neg h16] at hY
          subst hY
          have e16 : (s == 16) = false := by rw [beq_eq_false_iff_ne]; exact h16
          clear h16 h17 h18
          have hown1_ := Lib.hid hown1
          clear hown1
          go_wp2_with fail
          refine (CM_.out w1).mono ?_; rintro e w2 ⟨rfl, hb2⟩
          have hown2 := hown1_.out.kept hb2
          have hb2 : Below w.heap.size w w2 := hb1.trans (hb2.mono hb1.size)
          obtain ⟨cx, cx2⟩ := HX.out w2 hb2
          clear hown1_ hb1
          by_cases hfit : N < out.length + t
          · rw [if_pos hfit] at hp2
            have HR := Lib.hid hp2
            have hfi : (N : Int) - (out.length : Int) < (t : Int) := by omega
            have hown2_ := Lib.hid hown2
            clear hown2
            clear hp2 hfit
            go_wp2_with fail
            go_ret2
            rw [← HR.out]
            exact ⟨_, rfl, OwnS.nil, hb2⟩
          · rw [if_neg hfit] at hp2
            have HR := Lib.hid hp2
            have hfi : ¬ (N : Int) - (out.length : Int) < (t : Int) := by omega
            have hown2_ := Lib.hid hown2
            clear hown2
            clear hp2
            go_wp2_with fail
            go_loopw [6, 9] (fun u i wr => ∃ j : Nat, j ≤ t ∧ i = .int .i64 j ∧ OwnI w.heap.size wr u (out ++ List.replicate j s) ∧ Below w.heap.size w wr) (fun _ i _ => t - (intOf i).toNat)
            case atStart => exact ⟨0, Nat.zero_le _, rfl, by simpa using hown2_.out, hb2⟩
            case round =>
              clear hb2 cx cx2
              obtain ⟨j, hj, rfl, hown, hb⟩ := hrel
              have hbs := hb.size
              obtain ⟨cx, cx2⟩ := HX.out _ hb
              have hown_ := Lib.hid hown
              clear hown
              go_wp2_with fail
              refine (CM_.out _).mono ?_; rintro e w4 ⟨rfl, hb4⟩
              have hown := hown_.out.kept hb4
              have hb := hb.trans (hb4.mono hbs)
              have hbs := hb.size
              clear hown_ hb4 cx cx2
              by_cases hjt : j < t
              · have HL := Lib.hid (show (out ++ List.replicate j s).length ≤ 1099511627776 by simp; omega)
                have HE := Lib.hid (show (out ++ List.replicate j s) ++ [s] = out ++ List.replicate (j + 1) s by rw [List.append_assoc, List.replicate_succ'])
                have HB := Lib.hid hbs
                go_wp2_with (at_builtin; refine app_int rfl (.tmp 75) (.tmp 77) rfl _ _ _ _ s rfl hown w4.heap.size 1 rfl rfl HL.out HB.out ?_; intro v3 w3 hown3 hb3 _)
                rw [HE.out] at hown3
                have hown3_ := Lib.hid hown3
                clear hown3
                go_wp2
                go_roundw
                case rel => exact ⟨j + 1, by omega, by go_num, hown3_.out, hb.trans hb3⟩
                case measure => simp [intOf]; omega
              · obtain rfl : j = t := by omega
                have hln : (out ++ List.replicate j s).length ≤ N := by simp; omega
                have HLS := Lib.hid (last_rep out j s ht.1)
                have hown_ := Lib.hid hown
                clear hown
                go_wp2
                go_roundw
                case rel => exact ⟨k + 1, _, s, by omega, by go_num, HLS, hln, hown_.out, hb, HR⟩
                case measure => simp [intOf]; omega
    · have hp2 := hp.out
      rw [List.drop_of_length_le (by omega), unp] at hp2
      obtain ⟨pu, pc, hpu⟩ := hown.slice
      subst hpu
      by_cases hsh : out.length < N
      · rw [if_pos hsh] at hp2
        have HR := Lib.hid hp2
        have hsi : (out.length : Int) < (N : Int) := by omega
        clear hp2 hp
        have hown_ := Lib.hid hown
        clear hown
        go_wp2
        go_ret2
        rw [← HR.out]
        exact ⟨_, rfl, OwnS.nil, hb⟩
      · rw [if_neg hsh] at hp2
        have HR := Lib.hid hp2
        have hsi : ¬ (out.length : Int) < (N : Int) := by omega
        clear hp2 hp
        have hown_ := Lib.hid hown
        clear hown
        go_wp2
        go_ret2
        rw [← HR.out]
        exact ⟨_, rfl, hown_.out, hb⟩
end Go.Proofs.Ytekageibffhloaa
