import Derived.Test.YtopiiickeojpmaaJ10
/- Layer 12: the document's Pack. -/
namespace Go.Proofs.Ytopiiickeojpmaa
open Go.ChangeShapes Go.WideShapes Go.ChangeAt Go.RowKit
set_option linter.unusedVariables false
set_option maxRecDepth 100000
open RunsMath
theorem dRowB (a : Option Addr) (c : Nat) (l : List Int) (i : Nat) (hi : i < l.length) (w : World) (h : IsInts w a l) :
    Calls Try.prog 30 #[.slice a l.length c, .int .i64 i] w fun e w' => e = .returned (.int .i64 (rowN l i : Nat)) ∧ Below w.heap.size w w' :=
  (dRow a c l i hi w h).mono fun _ _ ⟨h, n, hw⟩ => ⟨h, by rw [hw]; exact below_dn (Below.refl _ _) n⟩
set_option maxHeartbeats 6400000 in
theorem dPackOk (a : Option Addr) (c : Nat) (l : List Int) (w : World) (h : IsInts w a l) (hl : l.length ≤ 2000) (hB : okB l = true) :
    Calls Try.prog 11 #[.slice a l.length c] w fun e w' => ∃ v', e = .returned v' ∧ OwnR w.heap.size w' v' (packL l) ∧ Below w.heap.size w w' := by
  have HO := Lib.hid (show packL l = packF l.length (-1) l by unfold packL; rw [hB]; rfl)
  have hok := (okB_iff l).1 hB
  have hg := fun k (hk : k < l.length) => hok (l.getD k 0) (by simp [List.getD_eq_getElem?_getD, hk])
  have CR := fun W i (hi : i < l.length) (h : IsInts W a l) => dRowB a c l i hi W h
  have HS := Lib.hid (fun i f hi hf => pack_step l i f hi hf hok)
  have HR1 := Lib.hid (fun i (hi : i < l.length) => show 1 ≤ rowN l i by unfold rowN; exact (same_at (l.getD i 0) l i 0 (Nat.zero_le _) (by omega)).1 rfl)
  have HRL := Lib.hid (fun i (hi : i < l.length) => show rowN l i ≤ l.length - i by have := same_le (l.getD i 0) (l.drop i); rwa [List.length_drop] at this)
  have h_ := Lib.hid h
  have hg_ := Lib.hid hg
  have CR_ := Lib.hid CR
  clear h hg CR
  clear hB hok
  go_enter Try.func11, Try.ntmps11
  go_wp2
  go_loop [3] (fun i => ∃ k : Nat, k ≤ l.length ∧ i = .int .i64 k) (fun i => l.length - (intOf i).toNat)
  case atStart => exact ⟨0, Nat.zero_le _, rfl⟩
  case round =>
    obtain ⟨k, hk, rfl⟩ := hrel
    by_cases hlt : k < l.length
    · obtain ⟨x, rfl, -, hx⟩ := h_.out.at k hlt
      have cx := hx k hlt
      obtain ⟨g0, g1⟩ := hg_.out k hlt
      obtain ⟨X, hX⟩ : ∃ X, l.getD k 0 = X := ⟨_, rfl⟩
      rw [hX] at cx g0 g1
      clear hX hx
      go_wp2
      go_round
      case rel => exact ⟨k + 1, by omega, by go_num⟩
      case measure => simp [intOf]; omega
    · obtain rfl : k = l.length := by omega
      go_wp2
      go_loopw [4, 5] (fun u j wr => ∃ (i f : Nat) (out : List Run), i ≤ l.length ∧ l.length - i ≤ f ∧ out.length ≤ i ∧ j = .int .i64 i ∧ OwnR w.heap.size wr u out ∧ Below w.heap.size w wr ∧ Hid (packF l.length (-1) l = out ++ packF f (aheadL l i) (l.drop i))) (fun _ j _ => l.length - (intOf j).toNat)
      case atStart => exact ⟨0, l.length, [], Nat.zero_le _, by omega, by simp, rfl, OwnS.nil, Below.refl _ _, Lib.hid rfl⟩
      case round =>
        obtain ⟨i, f, out, hi, hf, hol, rfl, hown, hb, hp⟩ := hrel
        have hbs := hb.size
        by_cases hit : i < l.length
        · have HI : Hid (IsInts wr a l) := by
            refine ⟨h_.out.1, ?_⟩
            rcases h_.out.2 with hn | ⟨x, rfl, hx⟩
            · exact .inl hn
            · exact .inr ⟨x, rfl, fun i hi => by rw [hb.cell (cell_block (hx i hi))]; exact hx i hi⟩
          obtain ⟨⟨s, m⟩, hsm⟩ : ∃ r, firstRun (aheadL l i) (l.getD i 0) (rowN l i) = r := ⟨_, rfl⟩
          obtain ⟨e1, e2, e3⟩ := HS.out i f hit hf _ hsm
          have hp2 := hp.out
          rw [e1] at hp2
          obtain ⟨t, ht⟩ : ∃ t, many (s, m) = t := ⟨_, rfl⟩
          rw [ht] at e2 e3 hp2
          have HP := Lib.hid (show packF l.length (-1) l = (out ++ [(s, m)]) ++ packF (f - 1) (aheadL l (i + t)) (l.drop (i + t)) by rw [hp2]; simp)
          obtain ⟨x, rfl, hxb, hx⟩ := HI.out.at i hit
          have cx := hx i hit
          have HC := Lib.hid (fun j (hj : j < l.length) => hx j hj)
          obtain ⟨g0, g1⟩ := hg_.out i hit
          have hr1 := HR1.out i hit
          have hrl := HRL.out i hit
          have HPa : Hid (0 < i → aheadL l i = l.getD (i - 1) 0) := by intro h0; unfold aheadL; rw [if_neg (by omega)]
          have HQa : Hid (i = 0 → aheadL l i = -1) := by intro h0; unfold aheadL; rw [if_pos h0]
          obtain ⟨AH, hAH⟩ : ∃ AH, aheadL l i = AH := ⟨_, rfl⟩
          obtain ⟨K, hK⟩ : ∃ K, rowN l i = K := ⟨_, rfl⟩
          obtain ⟨X, hX⟩ : ∃ X, l.getD i 0 = X := ⟨_, rfl⟩
          rw [hX] at cx g0 g1 hsm
          rw [hAH] at HPa HQa hsm
          rw [hK] at hsm hr1 hrl
          have hK_ := Lib.hid hK
          have hown_ := Lib.hid hown
          have hsm_ := Lib.hid hsm
          have ht_ := Lib.hid ht
          clear hown hsm ht
          clear e1 hp hp2 hX hAH hK hx
          go_wp2_with fail
          refine (CR_.out wr i hit HI.out).mono ?_; rintro e w1 ⟨rfl, hb1⟩
          rw [hK_.out]
          have hown := Lib.hid (hown_.out.kept hb1)
          have hb := hb.trans (hb1.mono hbs)
          have hbs := hb.size
          have cx : w1.cell? (x.add i) = some (.int .i64 X) := by rw [hb1.cell (by rw [add_block]; exact hxb)]; exact cx
          have HC1 : Hid (∀ j, j < l.length → w1.cell? (x.add j) = some (.int .i64 (l.getD j 0))) := by intro j hj; rw [hb1.cell (by rw [add_block]; exact hxb)]; exact HC.out j hj
          clear hb1 hown_ HC
          have hxb1 : x.block < w1.heap.size := cell_block (a := x.add i) cx |> fun h => by rwa [add_block] at h
          have cxA : (w1.alloc (.cells #[.int .i64 X, .int .i64 0] 54)).cell? (x.add i) = some (.int .i64 X) := (World.cell?_alloc_lt _ _ _ (by rw [add_block]; exact hxb1)).trans cx
          have HAA : Hid (0 < i → (w1.alloc (.cells #[.int .i64 X, .int .i64 0] 54)).cell? (x.add (i - 1)) = some (.int .i64 (l.getD (i - 1) 0))) := fun h0 => (World.cell?_alloc_lt _ _ _ (by rw [add_block]; exact hxb1)).trans (HC1.out (i - 1) (by omega))
          by_cases hx0 : X = 0
          · subst hx0
            by_cases h11 : 11 ≤ K
            · have e1 : decide (11 ≤ (K : Int)) = true := by simp; omega
              by_cases h138 : K ≤ 138
              · have h138' : (K : Int) ≤ 138 := by omega
                have hS : (18, (K : Int) - 11) = (s, m) := by rw [← hsm_.out]; unfold firstRun; rw [if_pos ⟨rfl, h11⟩, Nat.min_eq_left h138]
                have hs1 : s = 18 ∧ m = (K : Int) - 11 := by rw [Prod.mk.injEq] at hS; exact ⟨hS.1.symm, hS.2.symm⟩
                have HMy := Lib.hid (dMany (18) ((K : Int) - 11) t (by rw [hS]; exact ht_.out) (by omega))
                have HL := Lib.hid (show out.length ≤ 1099511627776 by omega)
                have HX := Lib.hid (hown.out.alloc (.cells #[.int .i64 (18), .int .i64 ((K : Int) - 11)] 54))
                have HG : Hid ((w1.alloc (.cells #[.int .i64 (18), .int .i64 ((K : Int) - 11)] 54)).heap.size = w1.heap.size + 1) := by show _ = _; simp
                have HBX : Hid (w.heap.size ≤ (w1.alloc (.cells #[.int .i64 (18), .int .i64 ((K : Int) - 11)] 54)).heap.size) := by show _ ≤ _; simp; omega
                have HNE := Lib.hid (fun k hk => (hown.out.lt k hk).2)
                rw [hs1.1, hs1.2] at HP
                clear hS hs1
                go_wp2_with (at_builtin; refine app_run rfl (.tmp 96) (.tmp 98) rfl _ _ _ out (18) ((K : Int) - 11) rfl HX.out (w1.heap.size + 1) 1 HG.out rfl HL.out HBX.out ?_; intro v2 w2 hown2 hb2 hgr; have cz0 : w2.cell? ⟨w1.heap.size, 0, none⟩ = some (.int .i64 (18)) := hgr.cell (cell_lit (heap_alloc_new w1 _) 0 _ rfl) (fun e => Nat.lt_irrefl _ (HNE.out _ e.symm)); have cz1 : w2.cell? ⟨w1.heap.size, 1, none⟩ = some (.int .i64 ((K : Int) - 11)) := hgr.cell (cell_lit (heap_alloc_new w1 _) 1 _ rfl) (fun e => Nat.lt_irrefl _ (HNE.out _ e.symm)))
                have hb := (hb.alloc hbs (.cells #[.int .i64 (18), .int .i64 ((K : Int) - 11)] 54)).trans hb2
                have hown2_ := Lib.hid hown2
                clear hown2
                clear hb2 HX HBX HL HG hown hgr HNE cxA cx
                go_wp2_with fail
                refine (HMy.out w2).mono ?_; rintro e w3 ⟨rfl, hb3⟩
                have hown2 := Lib.hid (hown2_.out.kept hb3)
                have hb := hb.trans (hb3.mono hb.size)
                clear hown2_ hb3
                go_wp2
                go_roundw
                case rel => exact ⟨i + t, f - 1, _, e3, by omega, by simp; omega, by go_num, hown2.out, hb, HP⟩
                case measure => simp [intOf]; omega
              · have h138' : ¬ (K : Int) ≤ 138 := by omega
                have hS : ((18 : Int), (127 : Int)) = (s, m) := by rw [← hsm_.out]; unfold firstRun; rw [if_pos ⟨rfl, h11⟩, Nat.min_eq_right (by omega)]; rfl
                have hs1 : s = 18 ∧ m = 127 := by rw [Prod.mk.injEq] at hS; exact ⟨hS.1.symm, hS.2.symm⟩
                have HMy := Lib.hid (dMany (18) (127) t (by rw [hS]; exact ht_.out) (by omega))
                have HL := Lib.hid (show out.length ≤ 1099511627776 by omega)
                have HX := Lib.hid (hown.out.alloc (.cells #[.int .i64 (18), .int .i64 (127)] 54))
                have HG : Hid ((w1.alloc (.cells #[.int .i64 (18), .int .i64 (127)] 54)).heap.size = w1.heap.size + 1) := by show _ = _; simp
                have HBX : Hid (w.heap.size ≤ (w1.alloc (.cells #[.int .i64 (18), .int .i64 (127)] 54)).heap.size) := by show _ ≤ _; simp; omega
                have HNE := Lib.hid (fun k hk => (hown.out.lt k hk).2)
                rw [hs1.1, hs1.2] at HP
                clear hS hs1
                go_wp2_with (at_builtin; refine app_run rfl (.tmp 96) (.tmp 98) rfl _ _ _ out (18) (127) rfl HX.out (w1.heap.size + 1) 1 HG.out rfl HL.out HBX.out ?_; intro v2 w2 hown2 hb2 hgr; have cz0 : w2.cell? ⟨w1.heap.size, 0, none⟩ = some (.int .i64 (18)) := hgr.cell (cell_lit (heap_alloc_new w1 _) 0 _ rfl) (fun e => Nat.lt_irrefl _ (HNE.out _ e.symm)); have cz1 : w2.cell? ⟨w1.heap.size, 1, none⟩ = some (.int .i64 (127)) := hgr.cell (cell_lit (heap_alloc_new w1 _) 1 _ rfl) (fun e => Nat.lt_irrefl _ (HNE.out _ e.symm)))
                have hb := (hb.alloc hbs (.cells #[.int .i64 (18), .int .i64 (127)] 54)).trans hb2
                have hown2_ := Lib.hid hown2
                clear hown2
                clear hb2 HX HBX HL HG hown hgr HNE cxA cx
                go_wp2_with fail
                refine (HMy.out w2).mono ?_; rintro e w3 ⟨rfl, hb3⟩
                have hown2 := Lib.hid (hown2_.out.kept hb3)
                have hb := hb.trans (hb3.mono hb.size)
                clear hown2_ hb3
                go_wp2
                go_roundw
                case rel => exact ⟨i + t, f - 1, _, e3, by omega, by simp; omega, by go_num, hown2.out, hb, HP⟩
                case measure => simp [intOf]; omega
            · have e1 : decide (11 ≤ (K : Int)) = false := by simp; omega
              by_cases h3 : 3 ≤ K
              · have e2 : decide (3 ≤ (K : Int)) = true := by simp; omega
                have h10' : (K : Int) ≤ 10 := by omega
                have hS : (17, (K : Int) - 3) = (s, m) := by rw [← hsm_.out]; unfold firstRun; rw [if_neg (by omega), if_pos ⟨rfl, h3⟩, Nat.min_eq_left (by omega)]
                have hs1 : s = 17 ∧ m = (K : Int) - 3 := by rw [Prod.mk.injEq] at hS; exact ⟨hS.1.symm, hS.2.symm⟩
                have HMy := Lib.hid (dMany (17) ((K : Int) - 3) t (by rw [hS]; exact ht_.out) (by omega))
                have HL := Lib.hid (show out.length ≤ 1099511627776 by omega)
                have HX := Lib.hid (hown.out.alloc (.cells #[.int .i64 (17), .int .i64 ((K : Int) - 3)] 54))
                have HG : Hid ((w1.alloc (.cells #[.int .i64 (17), .int .i64 ((K : Int) - 3)] 54)).heap.size = w1.heap.size + 1) := by show _ = _; simp
                have HBX : Hid (w.heap.size ≤ (w1.alloc (.cells #[.int .i64 (17), .int .i64 ((K : Int) - 3)] 54)).heap.size) := by show _ ≤ _; simp; omega
                have HNE := Lib.hid (fun k hk => (hown.out.lt k hk).2)
                rw [hs1.1, hs1.2] at HP
                clear hS hs1
                go_wp2_with (at_builtin; refine app_run rfl (.tmp 96) (.tmp 98) rfl _ _ _ out (17) ((K : Int) - 3) rfl HX.out (w1.heap.size + 1) 1 HG.out rfl HL.out HBX.out ?_; intro v2 w2 hown2 hb2 hgr; have cz0 : w2.cell? ⟨w1.heap.size, 0, none⟩ = some (.int .i64 (17)) := hgr.cell (cell_lit (heap_alloc_new w1 _) 0 _ rfl) (fun e => Nat.lt_irrefl _ (HNE.out _ e.symm)); have cz1 : w2.cell? ⟨w1.heap.size, 1, none⟩ = some (.int .i64 ((K : Int) - 3)) := hgr.cell (cell_lit (heap_alloc_new w1 _) 1 _ rfl) (fun e => Nat.lt_irrefl _ (HNE.out _ e.symm)))
                have hb := (hb.alloc hbs (.cells #[.int .i64 (17), .int .i64 ((K : Int) - 3)] 54)).trans hb2
                have hown2_ := Lib.hid hown2
                clear hown2
                clear hb2 HX HBX HL HG hown hgr HNE cxA cx
                go_wp2_with fail
                refine (HMy.out w2).mono ?_; rintro e w3 ⟨rfl, hb3⟩
                have hown2 := Lib.hid (hown2_.out.kept hb3)
                have hb := hb.trans (hb3.mono hb.size)
                clear hown2_ hb3
                go_wp2
                go_roundw
                case rel => exact ⟨i + t, f - 1, _, e3, by omega, by simp; omega, by go_num, hown2.out, hb, HP⟩
                case measure => simp [intOf]; omega
              · have e2 : decide (3 ≤ (K : Int)) = false := by simp; omega
                have hS : ((0 : Int), (0 : Int)) = (s, m) := by rw [← hsm_.out]; unfold firstRun; rw [if_neg (by omega), if_neg (by omega), if_neg (by omega)]
                go_wp2
                go_quiet (fail)
                have HY : ((w1.alloc (.cells #[.int .i64 0, .int .i64 0] 54)).drewN nq).heap[w1.heap.size]? = some (.cells #[.int .i64 0, .int .i64 0] 54 (0, 0)) := heap_alloc_new w1 _
                have OY : OwnR w.heap.size ((w1.alloc (.cells #[.int .i64 0, .int .i64 0] 54)).drewN nq) _ out := hown.out.alloc _
                have BY : Below w.heap.size w ((w1.alloc (.cells #[.int .i64 0, .int .i64 0] 54)).drewN nq) := below_dn (hb.alloc hbs _) nq
                have SY : w1.heap.size < ((w1.alloc (.cells #[.int .i64 0, .int .i64 0] 54)).drewN nq).heap.size := by simp
                have HNE := Lib.hid (fun k hk => (hown.out.lt k hk).2)
                obtain ⟨wy, hwy⟩ : ∃ wy, ((w1.alloc (.cells #[.int .i64 0, .int .i64 0] 54)).drewN nq) = wy := ⟨_, rfl⟩
                rw [hwy] at HY OY BY SY ⊢
                have cy0 : wy.cell? ⟨w1.heap.size, 0, none⟩ = some (.int .i64 0) := cell_lit HY 0 _ rfl
                have cy1 : wy.cell? ⟨w1.heap.size, 1, none⟩ = some (.int .i64 0) := cell_lit HY 1 _ rfl
                have cf0 := free_in HY 0
                have cf1 := free_in HY 1
                have HY_ := Lib.hid HY
                have OY_ := Lib.hid OY
                have BY_ := Lib.hid BY
                clear HY OY BY
                clear hwy hown cx cxA
                have HM0 := Lib.hid hS
                have hs1 : s = 0 ∧ m = 0 := by rw [Prod.mk.injEq] at hS; exact ⟨hS.1.symm, hS.2.symm⟩
                have HMy := Lib.hid (dMany (0) (0) t (by rw [hS]; exact ht_.out) (by omega))
                have HL := Lib.hid (show out.length ≤ 1099511627776 by omega)
                have HW : Hid (wy.heap[w1.heap.size]? = some (.cells #[.int .i64 (0), .int .i64 (0)] 54 (0, 0))) := HY_
                have HX : Hid (OwnR w.heap.size wy _ out) := OY_
                have HB : Hid (Below w.heap.size w wy) := BY_
                have HG : Hid (wy.heap.size = wy.heap.size) := by show _ = _; simp
                have HBX : Hid (w.heap.size ≤ wy.heap.size) := HB.out.size
                rw [hs1.1, hs1.2] at HP
                clear hS hs1
                go_wp2_with (at_builtin; refine app_run rfl (.tmp 96) (.tmp 98) rfl _ _ _ out (0) (0) rfl HX.out wy.heap.size 1 HG.out rfl HL.out HBX.out ?_; intro v2 w2 hown2 hb2 hgr; have cz0 : w2.cell? ⟨w1.heap.size, 0, none⟩ = some (.int .i64 (0)) := hgr.cell (cell_lit HW.out 0 _ rfl) (fun e => Nat.lt_irrefl _ (HNE.out _ e.symm)); have cz1 : w2.cell? ⟨w1.heap.size, 1, none⟩ = some (.int .i64 (0)) := hgr.cell (cell_lit HW.out 1 _ rfl) (fun e => Nat.lt_irrefl _ (HNE.out _ e.symm)))
                have hb := HB.out.trans hb2
                have hown2_ := Lib.hid hown2
                clear hown2
                clear hb2 HX HBX HL HG hgr HNE HW HB
                go_wp2_with fail
                refine (HMy.out w2).mono ?_; rintro e w3 ⟨rfl, hb3⟩
                have hown2 := Lib.hid (hown2_.out.kept hb3)
                have hb := hb.trans (hb3.mono hb.size)
                clear hown2_ hb3
                go_wp2
                go_roundw
                case rel => exact ⟨i + t, f - 1, _, e3, by omega, by simp; omega, by go_num, hown2.out, hb, HP⟩
                case measure => simp [intOf]; omega
          · have e0 : (X == 0) = false := by rw [beq_eq_false_iff_ne]; exact hx0
            have e0' : (X != 0) = true := by rw [bne, e0]; rfl
            by_cases h3 : 3 ≤ K
            · have e3' : decide (3 ≤ (K : Int)) = true := by simp; omega
              by_cases hi0 : i = 0
              · have hi1 : decide (0 < (i : Int)) = false := by simp; omega
                have hi1n : decide (0 < i) = false := by simp; omega
                have hah := HQa.out hi0
                have hS : (X, (0 : Int)) = (s, m) := by rw [← hsm_.out]; unfold firstRun; rw [if_neg (by omega), if_neg (by omega), if_neg (by omega)]
                clear hx0 hah hi0
                go_wp2
                go_quiet (fail)
                have HY : ((w1.alloc (.cells #[.int .i64 X, .int .i64 0] 54)).drewN nq).heap[w1.heap.size]? = some (.cells #[.int .i64 X, .int .i64 0] 54 (0, 0)) := heap_alloc_new w1 _
                have OY : OwnR w.heap.size ((w1.alloc (.cells #[.int .i64 X, .int .i64 0] 54)).drewN nq) _ out := hown.out.alloc _
                have BY : Below w.heap.size w ((w1.alloc (.cells #[.int .i64 X, .int .i64 0] 54)).drewN nq) := below_dn (hb.alloc hbs _) nq
                have SY : w1.heap.size < ((w1.alloc (.cells #[.int .i64 X, .int .i64 0] 54)).drewN nq).heap.size := by simp
                have HNE := Lib.hid (fun k hk => (hown.out.lt k hk).2)
                obtain ⟨wy, hwy⟩ : ∃ wy, ((w1.alloc (.cells #[.int .i64 X, .int .i64 0] 54)).drewN nq) = wy := ⟨_, rfl⟩
                rw [hwy] at HY OY BY SY ⊢
                have cy0 : wy.cell? ⟨w1.heap.size, 0, none⟩ = some (.int .i64 X) := cell_lit HY 0 _ rfl
                have cy1 : wy.cell? ⟨w1.heap.size, 1, none⟩ = some (.int .i64 0) := cell_lit HY 1 _ rfl
                have cf0 := free_in HY 0
                have cf1 := free_in HY 1
                have HY_ := Lib.hid HY
                have OY_ := Lib.hid OY
                have BY_ := Lib.hid BY
                clear HY OY BY
                clear hwy hown cx cxA
                have HM0 := Lib.hid hS
                have hs1 : s = X ∧ m = 0 := by rw [Prod.mk.injEq] at hS; exact ⟨hS.1.symm, hS.2.symm⟩
                have HMy := Lib.hid (dMany (X) (0) t (by rw [hS]; exact ht_.out) (by omega))
                have HL := Lib.hid (show out.length ≤ 1099511627776 by omega)
                have HW : Hid (wy.heap[w1.heap.size]? = some (.cells #[.int .i64 (X), .int .i64 (0)] 54 (0, 0))) := HY_
                have HX : Hid (OwnR w.heap.size wy _ out) := OY_
                have HB : Hid (Below w.heap.size w wy) := BY_
                have HG : Hid (wy.heap.size = wy.heap.size) := by show _ = _; simp
                have HBX : Hid (w.heap.size ≤ wy.heap.size) := HB.out.size
                rw [hs1.1, hs1.2] at HP
                clear hS hs1
                go_wp2_with (at_builtin; refine app_run rfl (.tmp 96) (.tmp 98) rfl _ _ _ out (X) (0) rfl HX.out wy.heap.size 1 HG.out rfl HL.out HBX.out ?_; intro v2 w2 hown2 hb2 hgr; have cz0 : w2.cell? ⟨w1.heap.size, 0, none⟩ = some (.int .i64 (X)) := hgr.cell (cell_lit HW.out 0 _ rfl) (fun e => Nat.lt_irrefl _ (HNE.out _ e.symm)); have cz1 : w2.cell? ⟨w1.heap.size, 1, none⟩ = some (.int .i64 (0)) := hgr.cell (cell_lit HW.out 1 _ rfl) (fun e => Nat.lt_irrefl _ (HNE.out _ e.symm)))
                have hb := HB.out.trans hb2
                have hown2_ := Lib.hid hown2
                clear hown2
                clear hb2 HX HBX HL HG hgr HNE HW HB
                go_wp2_with fail
                refine (HMy.out w2).mono ?_; rintro e w3 ⟨rfl, hb3⟩
                have hown2 := Lib.hid (hown2_.out.kept hb3)
                have hb := hb.trans (hb3.mono hb.size)
                clear hown2_ hb3
                go_wp2
                go_roundw
                case rel => exact ⟨i + t, f - 1, _, e3, by omega, by simp; omega, by go_num, hown2.out, hb, HP⟩
                case measure => simp [intOf]; omega
              · have hi1 : decide (0 < (i : Int)) = true := by simp; omega
                have hi1n : decide (0 < i) = true := by simp; omega
                have him : ((i : Int) - 1).toNat = i - 1 := by omega
                have hi64 : IntKind.i64.wrap ((i : Int) - 1) = (i : Int) - 1 := IntWalk.i64_in _ (by omega)
                have cyy := HAA.out (by omega)
                have hp := HPa.out (by omega)
                rw [← hp] at cyy
                by_cases hy : AH = X
                · have e2 : (AH == X) = true := by rw [beq_iff_eq]; exact hy
                  subst hy
                  by_cases h6 : K ≤ 6
                  · have h6' : (K : Int) ≤ 6 := by omega
                    have hS : (16, (K : Int) - 3) = (s, m) := by rw [← hsm_.out]; unfold firstRun; rw [if_neg (by omega), if_neg (by omega), if_pos ⟨hx0, rfl, h3⟩, Nat.min_eq_left h6]
                    clear hp hx0
                    go_wp2
                    go_quiet (fail)
                    have HY : ((w1.alloc (.cells #[.int .i64 AH, .int .i64 0] 54)).drewN nq).heap[w1.heap.size]? = some (.cells #[.int .i64 AH, .int .i64 0] 54 (0, 0)) := heap_alloc_new w1 _
                    have OY : OwnR w.heap.size ((w1.alloc (.cells #[.int .i64 AH, .int .i64 0] 54)).drewN nq) _ out := hown.out.alloc _
                    have BY : Below w.heap.size w ((w1.alloc (.cells #[.int .i64 AH, .int .i64 0] 54)).drewN nq) := below_dn (hb.alloc hbs _) nq
                    have SY : w1.heap.size < ((w1.alloc (.cells #[.int .i64 AH, .int .i64 0] 54)).drewN nq).heap.size := by simp
                    have HNE := Lib.hid (fun k hk => (hown.out.lt k hk).2)
                    obtain ⟨wy, hwy⟩ : ∃ wy, ((w1.alloc (.cells #[.int .i64 AH, .int .i64 0] 54)).drewN nq) = wy := ⟨_, rfl⟩
                    rw [hwy] at HY OY BY SY ⊢
                    have cy0 : wy.cell? ⟨w1.heap.size, 0, none⟩ = some (.int .i64 AH) := cell_lit HY 0 _ rfl
                    have cy1 : wy.cell? ⟨w1.heap.size, 1, none⟩ = some (.int .i64 0) := cell_lit HY 1 _ rfl
                    have cf0 := free_in HY 0
                    have cf1 := free_in HY 1
                    have HY_ := Lib.hid HY
                    have OY_ := Lib.hid OY
                    have BY_ := Lib.hid BY
                    clear HY OY BY
                    clear hwy hown cx cxA
                    have hs1 : s = 16 ∧ m = (K : Int) - 3 := by rw [Prod.mk.injEq] at hS; exact ⟨hS.1.symm, hS.2.symm⟩
                    have HMy := Lib.hid (dMany (16) ((K : Int) - 3) t (by rw [hS]; exact ht_.out) (by omega))
                    have HL := Lib.hid (show out.length ≤ 1099511627776 by omega)
                    have HW : Hid (((wy.setCell ⟨w1.heap.size, 0, none⟩ (.int .i64 16)).setCell ⟨w1.heap.size, 1, none⟩ (.int .i64 ((K : Int) - 3))).heap[w1.heap.size]? = some (.cells #[.int .i64 (16), .int .i64 ((K : Int) - 3)] 54 (0, 0))) := (block_set (block_set HY_.out 0 _) 1 _)
                    have HX : Hid (OwnR w.heap.size ((wy.setCell ⟨w1.heap.size, 0, none⟩ (.int .i64 16)).setCell ⟨w1.heap.size, 1, none⟩ (.int .i64 ((K : Int) - 3))) _ out) := ((OY_.out.grown (World.grownBy_setCell ⟨w1.heap.size, 0, none⟩ (.int .i64 16)) (.inr (fun e => Nat.lt_irrefl _ (HNE.out _ e)))).grown (World.grownBy_setCell ⟨w1.heap.size, 1, none⟩ (.int .i64 ((K : Int) - 3))) (.inr (fun e => Nat.lt_irrefl _ (HNE.out _ e))))
                    have HB : Hid (Below w.heap.size w ((wy.setCell ⟨w1.heap.size, 0, none⟩ (.int .i64 16)).setCell ⟨w1.heap.size, 1, none⟩ (.int .i64 ((K : Int) - 3)))) := ((BY_.out.setCell (by simp; omega) _).setCell (by simp; omega) _)
                    have HG : Hid (((wy.setCell ⟨w1.heap.size, 0, none⟩ (.int .i64 16)).setCell ⟨w1.heap.size, 1, none⟩ (.int .i64 ((K : Int) - 3))).heap.size = wy.heap.size) := by show _ = _; simp
                    have HBX : Hid (w.heap.size ≤ ((wy.setCell ⟨w1.heap.size, 0, none⟩ (.int .i64 16)).setCell ⟨w1.heap.size, 1, none⟩ (.int .i64 ((K : Int) - 3))).heap.size) := HB.out.size
                    rw [hs1.1, hs1.2] at HP
                    clear hS hs1
                    go_wp2_with (at_builtin; refine app_run rfl (.tmp 96) (.tmp 98) rfl _ _ _ out (16) ((K : Int) - 3) rfl HX.out wy.heap.size 1 HG.out rfl HL.out HBX.out ?_; intro v2 w2 hown2 hb2 hgr; have cz0 : w2.cell? ⟨w1.heap.size, 0, none⟩ = some (.int .i64 (16)) := hgr.cell (cell_lit HW.out 0 _ rfl) (fun e => Nat.lt_irrefl _ (HNE.out _ e.symm)); have cz1 : w2.cell? ⟨w1.heap.size, 1, none⟩ = some (.int .i64 ((K : Int) - 3)) := hgr.cell (cell_lit HW.out 1 _ rfl) (fun e => Nat.lt_irrefl _ (HNE.out _ e.symm)))
                    have hb := HB.out.trans hb2
                    have hown2_ := Lib.hid hown2
                    clear hown2
                    clear hb2 HX HBX HL HG hgr HNE HW HB
                    go_wp2_with fail
                    refine (HMy.out w2).mono ?_; rintro e w3 ⟨rfl, hb3⟩
                    have hown2 := Lib.hid (hown2_.out.kept hb3)
                    have hb := hb.trans (hb3.mono hb.size)
                    clear hown2_ hb3
                    go_wp2
                    go_roundw
                    case rel => exact ⟨i + t, f - 1, _, e3, by omega, by simp; omega, by go_num, hown2.out, hb, HP⟩
                    case measure => simp [intOf]; omega
                  · have h6' : ¬ (K : Int) ≤ 6 := by omega
                    have hS : ((16 : Int), (3 : Int)) = (s, m) := by rw [← hsm_.out]; unfold firstRun; rw [if_neg (by omega), if_neg (by omega), if_pos ⟨hx0, rfl, h3⟩, Nat.min_eq_right (by omega)]; rfl
                    clear hp hx0
                    go_wp2
                    go_quiet (fail)
                    have HY : ((w1.alloc (.cells #[.int .i64 AH, .int .i64 0] 54)).drewN nq).heap[w1.heap.size]? = some (.cells #[.int .i64 AH, .int .i64 0] 54 (0, 0)) := heap_alloc_new w1 _
                    have OY : OwnR w.heap.size ((w1.alloc (.cells #[.int .i64 AH, .int .i64 0] 54)).drewN nq) _ out := hown.out.alloc _
                    have BY : Below w.heap.size w ((w1.alloc (.cells #[.int .i64 AH, .int .i64 0] 54)).drewN nq) := below_dn (hb.alloc hbs _) nq
                    have SY : w1.heap.size < ((w1.alloc (.cells #[.int .i64 AH, .int .i64 0] 54)).drewN nq).heap.size := by simp
                    have HNE := Lib.hid (fun k hk => (hown.out.lt k hk).2)
                    obtain ⟨wy, hwy⟩ : ∃ wy, ((w1.alloc (.cells #[.int .i64 AH, .int .i64 0] 54)).drewN nq) = wy := ⟨_, rfl⟩
                    rw [hwy] at HY OY BY SY ⊢
                    have cy0 : wy.cell? ⟨w1.heap.size, 0, none⟩ = some (.int .i64 AH) := cell_lit HY 0 _ rfl
                    have cy1 : wy.cell? ⟨w1.heap.size, 1, none⟩ = some (.int .i64 0) := cell_lit HY 1 _ rfl
                    have cf0 := free_in HY 0
                    have cf1 := free_in HY 1
                    have HY_ := Lib.hid HY
                    have OY_ := Lib.hid OY
                    have BY_ := Lib.hid BY
                    clear HY OY BY
                    clear hwy hown cx cxA
                    have hs1 : s = 16 ∧ m = 3 := by rw [Prod.mk.injEq] at hS; exact ⟨hS.1.symm, hS.2.symm⟩
                    have HMy := Lib.hid (dMany (16) (3) t (by rw [hS]; exact ht_.out) (by omega))
                    have HL := Lib.hid (show out.length ≤ 1099511627776 by omega)
                    have HW : Hid (((wy.setCell ⟨w1.heap.size, 0, none⟩ (.int .i64 16)).setCell ⟨w1.heap.size, 1, none⟩ (.int .i64 (3))).heap[w1.heap.size]? = some (.cells #[.int .i64 (16), .int .i64 (3)] 54 (0, 0))) := (block_set (block_set HY_.out 0 _) 1 _)
                    have HX : Hid (OwnR w.heap.size ((wy.setCell ⟨w1.heap.size, 0, none⟩ (.int .i64 16)).setCell ⟨w1.heap.size, 1, none⟩ (.int .i64 (3))) _ out) := ((OY_.out.grown (World.grownBy_setCell ⟨w1.heap.size, 0, none⟩ (.int .i64 16)) (.inr (fun e => Nat.lt_irrefl _ (HNE.out _ e)))).grown (World.grownBy_setCell ⟨w1.heap.size, 1, none⟩ (.int .i64 (3))) (.inr (fun e => Nat.lt_irrefl _ (HNE.out _ e))))
                    have HB : Hid (Below w.heap.size w ((wy.setCell ⟨w1.heap.size, 0, none⟩ (.int .i64 16)).setCell ⟨w1.heap.size, 1, none⟩ (.int .i64 (3)))) := ((BY_.out.setCell (by simp; omega) _).setCell (by simp; omega) _)
                    have HG : Hid (((wy.setCell ⟨w1.heap.size, 0, none⟩ (.int .i64 16)).setCell ⟨w1.heap.size, 1, none⟩ (.int .i64 (3))).heap.size = wy.heap.size) := by show _ = _; simp
                    have HBX : Hid (w.heap.size ≤ ((wy.setCell ⟨w1.heap.size, 0, none⟩ (.int .i64 16)).setCell ⟨w1.heap.size, 1, none⟩ (.int .i64 (3))).heap.size) := HB.out.size
                    rw [hs1.1, hs1.2] at HP
                    clear hS hs1
                    go_wp2_with (at_builtin; refine app_run rfl (.tmp 96) (.tmp 98) rfl _ _ _ out (16) (3) rfl HX.out wy.heap.size 1 HG.out rfl HL.out HBX.out ?_; intro v2 w2 hown2 hb2 hgr; have cz0 : w2.cell? ⟨w1.heap.size, 0, none⟩ = some (.int .i64 (16)) := hgr.cell (cell_lit HW.out 0 _ rfl) (fun e => Nat.lt_irrefl _ (HNE.out _ e.symm)); have cz1 : w2.cell? ⟨w1.heap.size, 1, none⟩ = some (.int .i64 (3)) := hgr.cell (cell_lit HW.out 1 _ rfl) (fun e => Nat.lt_irrefl _ (HNE.out _ e.symm)))
                    have hb := HB.out.trans hb2
                    have hown2_ := Lib.hid hown2
                    clear hown2
                    clear hb2 HX HBX HL HG hgr HNE HW HB
                    go_wp2_with fail
                    refine (HMy.out w2).mono ?_; rintro e w3 ⟨rfl, hb3⟩
                    have hown2 := Lib.hid (hown2_.out.kept hb3)
                    have hb := hb.trans (hb3.mono hb.size)
                    clear hown2_ hb3
                    go_wp2
                    go_roundw
                    case rel => exact ⟨i + t, f - 1, _, e3, by omega, by simp; omega, by go_num, hown2.out, hb, HP⟩
                    case measure => simp [intOf]; omega
                · have e2 : (AH == X) = false := by rw [beq_eq_false_iff_ne]; exact hy
                  have hS : (X, (0 : Int)) = (s, m) := by rw [← hsm_.out]; unfold firstRun; rw [if_neg (by omega), if_neg (by omega), if_neg (by omega)]
                  clear hp hy hx0
                  go_wp2
                  go_quiet (fail)
                  have HY : ((w1.alloc (.cells #[.int .i64 X, .int .i64 0] 54)).drewN nq).heap[w1.heap.size]? = some (.cells #[.int .i64 X, .int .i64 0] 54 (0, 0)) := heap_alloc_new w1 _
                  have OY : OwnR w.heap.size ((w1.alloc (.cells #[.int .i64 X, .int .i64 0] 54)).drewN nq) _ out := hown.out.alloc _
                  have BY : Below w.heap.size w ((w1.alloc (.cells #[.int .i64 X, .int .i64 0] 54)).drewN nq) := below_dn (hb.alloc hbs _) nq
                  have SY : w1.heap.size < ((w1.alloc (.cells #[.int .i64 X, .int .i64 0] 54)).drewN nq).heap.size := by simp
                  have HNE := Lib.hid (fun k hk => (hown.out.lt k hk).2)
                  obtain ⟨wy, hwy⟩ : ∃ wy, ((w1.alloc (.cells #[.int .i64 X, .int .i64 0] 54)).drewN nq) = wy := ⟨_, rfl⟩
                  rw [hwy] at HY OY BY SY ⊢
                  have cy0 : wy.cell? ⟨w1.heap.size, 0, none⟩ = some (.int .i64 X) := cell_lit HY 0 _ rfl
                  have cy1 : wy.cell? ⟨w1.heap.size, 1, none⟩ = some (.int .i64 0) := cell_lit HY 1 _ rfl
                  have cf0 := free_in HY 0
                  have cf1 := free_in HY 1
                  have HY_ := Lib.hid HY
                  have OY_ := Lib.hid OY
                  have BY_ := Lib.hid BY
                  clear HY OY BY
                  clear hwy hown cx cxA
                  have HM0 := Lib.hid hS
                  have hs1 : s = X ∧ m = 0 := by rw [Prod.mk.injEq] at hS; exact ⟨hS.1.symm, hS.2.symm⟩
                  have HMy := Lib.hid (dMany (X) (0) t (by rw [hS]; exact ht_.out) (by omega))
                  have HL := Lib.hid (show out.length ≤ 1099511627776 by omega)
                  have HW : Hid (wy.heap[w1.heap.size]? = some (.cells #[.int .i64 (X), .int .i64 (0)] 54 (0, 0))) := HY_
                  have HX : Hid (OwnR w.heap.size wy _ out) := OY_
                  have HB : Hid (Below w.heap.size w wy) := BY_
                  have HG : Hid (wy.heap.size = wy.heap.size) := by show _ = _; simp
                  have HBX : Hid (w.heap.size ≤ wy.heap.size) := HB.out.size
                  rw [hs1.1, hs1.2] at HP
                  clear hS hs1
                  go_wp2_with (at_builtin; refine app_run rfl (.tmp 96) (.tmp 98) rfl _ _ _ out (X) (0) rfl HX.out wy.heap.size 1 HG.out rfl HL.out HBX.out ?_; intro v2 w2 hown2 hb2 hgr; have cz0 : w2.cell? ⟨w1.heap.size, 0, none⟩ = some (.int .i64 (X)) := hgr.cell (cell_lit HW.out 0 _ rfl) (fun e => Nat.lt_irrefl _ (HNE.out _ e.symm)); have cz1 : w2.cell? ⟨w1.heap.size, 1, none⟩ = some (.int .i64 (0)) := hgr.cell (cell_lit HW.out 1 _ rfl) (fun e => Nat.lt_irrefl _ (HNE.out _ e.symm)))
                  have hb := HB.out.trans hb2
                  have hown2_ := Lib.hid hown2
                  clear hown2
                  clear hb2 HX HBX HL HG hgr HNE HW HB
                  go_wp2_with fail
                  refine (HMy.out w2).mono ?_; rintro e w3 ⟨rfl, hb3⟩
                  have hown2 := Lib.hid (hown2_.out.kept hb3)
                  have hb := hb.trans (hb3.mono hb.size)
                  clear hown2_ hb3
                  go_wp2
                  go_roundw
                  case rel => exact ⟨i + t, f - 1, _, e3, by omega, by simp; omega, by go_num, hown2.out, hb, HP⟩
                  case measure => simp [intOf]; omega
            · have e3' : decide (3 ≤ (K : Int)) = false := by simp; omega
              have hS : (X, (0 : Int)) = (s, m) := by rw [← hsm_.out]; unfold firstRun; rw [if_neg (by omega), if_neg (by omega), if_neg (by omega)]
              clear hx0
              go_wp2
              go_quiet (fail)
              have HY : ((w1.alloc (.cells #[.int .i64 X, .int .i64 0] 54)).drewN nq).heap[w1.heap.size]? = some (.cells #[.int .i64 X, .int .i64 0] 54 (0, 0)) := heap_alloc_new w1 _
              have OY : OwnR w.heap.size ((w1.alloc (.cells #[.int .i64 X, .int .i64 0] 54)).drewN nq) _ out := hown.out.alloc _
              have BY : Below w.heap.size w ((w1.alloc (.cells #[.int .i64 X, .int .i64 0] 54)).drewN nq) := below_dn (hb.alloc hbs _) nq
              have SY : w1.heap.size < ((w1.alloc (.cells #[.int .i64 X, .int .i64 0] 54)).drewN nq).heap.size := by simp
              have HNE := Lib.hid (fun k hk => (hown.out.lt k hk).2)
              obtain ⟨wy, hwy⟩ : ∃ wy, ((w1.alloc (.cells #[.int .i64 X, .int .i64 0] 54)).drewN nq) = wy := ⟨_, rfl⟩
              rw [hwy] at HY OY BY SY ⊢
              have cy0 : wy.cell? ⟨w1.heap.size, 0, none⟩ = some (.int .i64 X) := cell_lit HY 0 _ rfl
              have cy1 : wy.cell? ⟨w1.heap.size, 1, none⟩ = some (.int .i64 0) := cell_lit HY 1 _ rfl
              have cf0 := free_in HY 0
              have cf1 := free_in HY 1
              have HY_ := Lib.hid HY
              have OY_ := Lib.hid OY
              have BY_ := Lib.hid BY
              clear HY OY BY
              clear hwy hown cx cxA
              have HM0 := Lib.hid hS
              have hs1 : s = X ∧ m = 0 := by rw [Prod.mk.injEq] at hS; exact ⟨hS.1.symm, hS.2.symm⟩
              have HMy := Lib.hid (dMany (X) (0) t (by rw [hS]; exact ht_.out) (by omega))
              have HL := Lib.hid (show out.length ≤ 1099511627776 by omega)
              have HW : Hid (wy.heap[w1.heap.size]? = some (.cells #[.int .i64 (X), .int .i64 (0)] 54 (0, 0))) := HY_
              have HX : Hid (OwnR w.heap.size wy _ out) := OY_
              have HB : Hid (Below w.heap.size w wy) := BY_
              have HG : Hid (wy.heap.size = wy.heap.size) := by show _ = _; simp
              have HBX : Hid (w.heap.size ≤ wy.heap.size) := HB.out.size
              rw [hs1.1, hs1.2] at HP
              clear hS hs1
              go_wp2_with (at_builtin; refine app_run rfl (.tmp 96) (.tmp 98) rfl _ _ _ out (X) (0) rfl HX.out wy.heap.size 1 HG.out rfl HL.out HBX.out ?_; intro v2 w2 hown2 hb2 hgr; have cz0 : w2.cell? ⟨w1.heap.size, 0, none⟩ = some (.int .i64 (X)) := hgr.cell (cell_lit HW.out 0 _ rfl) (fun e => Nat.lt_irrefl _ (HNE.out _ e.symm)); have cz1 : w2.cell? ⟨w1.heap.size, 1, none⟩ = some (.int .i64 (0)) := hgr.cell (cell_lit HW.out 1 _ rfl) (fun e => Nat.lt_irrefl _ (HNE.out _ e.symm)))
              have hb := HB.out.trans hb2
              have hown2_ := Lib.hid hown2
              clear hown2
              clear hb2 HX HBX HL HG hgr HNE HW HB
              go_wp2_with fail
              refine (HMy.out w2).mono ?_; rintro e w3 ⟨rfl, hb3⟩
              have hown2 := Lib.hid (hown2_.out.kept hb3)
              have hb := hb.trans (hb3.mono hb.size)
              clear hown2_ hb3
              go_wp2
              go_roundw
              case rel => exact ⟨i + t, f - 1, _, e3, by omega, by simp; omega, by go_num, hown2.out, hb, HP⟩
              case measure => simp [intOf]; omega
        · obtain rfl : i = l.length := by omega
          have HE := Lib.hid (show packF l.length (-1) l = out by
            have h := hp.out; rw [List.drop_of_length_le (Nat.le_refl _)] at h
            rw [h]; cases f <;> simp [packF])
          have hown_ := Lib.hid hown
          clear hown
          clear hp
          go_wp2
          go_ret
          exact ⟨_, rfl, by rw [HO.out, HE.out]; exact hown_.out, hb⟩
end Go.Proofs.Ytopiiickeojpmaa
