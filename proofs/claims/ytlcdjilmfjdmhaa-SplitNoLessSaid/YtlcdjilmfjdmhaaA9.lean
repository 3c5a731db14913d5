/- Layer 53: the document's Best; the chapter's examples. -/
import Derived.Test.YtlcdjilmfjdmhaaA8
namespace Go.Proofs.Ytlcdjilmfjdmhaa
open Go.ChangeShapes Go.WideShapes Go.ChangeAt Go.RowKit Split
set_option linter.unusedVariables false
set_option linter.unusedSimpArgs false
set_option maxRecDepth 100000
theorem slDropM (L : List UInt8) (i : Int) (p : Nat) (hi : i = p) (hp : p ≤ L.length) (W : World) : (Instr.slice 9 (.string (sM L)) (some (.int .i64 i)) none none).run Try.prog W = .ok (.string (sM (L.drop p))) W := by
  subst hi
  have hsz := sM_size L
  have := run_slice_string_l (P := Try.prog) (w := W) (t := 9) (s := sM L) Try.underlying9 .i64 (p : Int) (by omega) (by omega)
  rw [this, Int.toNat_natCast]
  congr 2
  apply ByteArray.ext
  simp [sM, ByteArray.data_extract, List.extract_toArray, List.extract_eq_take_drop, ByteArray.size]
  exact List.take_of_length_le (by rw [List.length_drop]; omega)
theorem slTakeM (L : List UInt8) (i : Int) (p : Nat) (hi : i = p) (hp : p ≤ L.length) (W : World) : (Instr.slice 9 (.string (sM L)) none (some (.int .i64 i)) none).run Try.prog W = .ok (.string (sM (L.take p))) W := by
  subst hi
  have hsz := sM_size L
  have := run_slice_string_h (P := Try.prog) (w := W) (t := 9) (s := sM L) Try.underlying9 .i64 (p : Int) (by omega) (by omega)
  rw [this, Int.toNat_natCast]
  congr 2
  apply ByteArray.ext
  simp [sM, ByteArray.data_extract, List.extract_toArray, List.extract_eq_take_drop, ByteArray.size]
theorem app_rowI {X : World} {ops : Array Oper} {rest : List Oper} {o : Oper} {a : Act} {Q : Exit → Act → World → Prop} (hgd : o.guard = none) (s xo : Operand)
    (ho : o.op = .call { callee := .builtin .append, args := #[s, xo], argTypes := #[22, 22] })
    (x : Int) (u : Value) (l : List Int) (B : Nat) (hs : a.eval s = .slice (some ⟨X.heap.size, 0, none⟩) 1 1) (hx : a.eval xo = u) (hu : OwnI B X u l) (hl : l.length ≤ 1099511627776)
    (h : ∀ v' w', OwnI X.heap.size w' v' (x :: l) → Below X.heap.size X w' → wpList Try.prog ops Q rest (a.put o.dst v') w') : wpList Try.prog ops Q (o :: rest) a (X.alloc (.cells #[.int .i64 x] 3)) := by
  obtain ⟨i0, hi, h1, h2, h3⟩ := info_get info_int
  have hu2 : (X.alloc (.cells #[.int .i64 x] 3)).ownsRow B 3 1 u l.length (intCells l) := by rw [← flatMap_fI]; exact OwnS.alloc hu _
  have hown : (X.alloc (.cells #[.int .i64 x] 3)).ownsRow X.heap.size 3 1 (.slice (some ⟨X.heap.size, 0, none⟩) 1 1) 1 [.int .i64 x] :=
    ⟨rfl, .inr ⟨X.heap.size, 1, #[.int .i64 x], rfl, Nat.le_refl _, heap_alloc_new X _, by decide, by decide, rfl, rfl⟩⟩
  refine wpList_append_rows hgd s xo 22 ho X.heap.size B 3 i0 (.int .i64 0) 8 Try.underlying22 hi h1 h2 h3 rfl _ u 1 l.length _ (intCells l) hs hown hx hu2 (intCells_one l) (by unfold maxLen; omega) (by omega) (by simp) ?_
  intro v' w' ho' hg'
  refine h v' w' ?_ ?_
  · have e : [Value.int .i64 x] ++ intCells l = intCells (x :: l) := rfl
    rw [e] at ho'
    refine own_OwnI ?_
    rw [List.length_cons, Nat.add_comm]; exact ho'
  · exact ((Below.refl _ X).alloc (Nat.le_refl _) _).grown hg' (by simp) (fun k hk => by simp [Value.ownBlock] at hk; omega)
/-- What the document's loop knows behind so many ways, the longest first. -/
def BestQ (fee : Int) (most M : Nat) (L : List UInt8) (k : Nat) (bl : List Nat) (c : Int) : Prop :=
  (k = M ∧ bl = [] ∧ c = -1) ∨ ∃ q, k < q ∧ q ≤ M ∧ c = wayC (costF fee) most L q ∧ bl = q :: pts (costF fee) most (L.drop q) ∧ (∀ j, k < j → j ≤ M → c ≤ wayC (costF fee) most L j) ∧ ∀ j, q < j → j ≤ M → c < wayC (costF fee) most L j
theorem BestQ.take {fee : Int} {most M : Nat} {L : List UInt8} {k : Nat} {bl : List Nat} {c : Int} (h : BestQ fee most M L (k + 1) bl c) (hk : k + 1 ≤ M) (C : Int) (hC : wayC (costF fee) most L (k + 1) = C) (hc : c < 0 ∨ C < c) (h0 : ∀ j, 1 ≤ j → j ≤ M → 0 ≤ wayC (costF fee) most L j) : BestQ fee most M L k ((k + 1) :: pts (costF fee) most (L.drop (k + 1))) C := by
  refine .inr ⟨k + 1, by omega, hk, hC.symm, rfl, fun j h1 h2 => ?_, fun j h1 h2 => ?_⟩
  · by_cases e : j = k + 1
    · subst e; omega
    · rcases h with ⟨h3, -, -⟩ | ⟨q, h3, h4, h5, h6, h7, h8⟩
      · omega
      · have := h7 j (by omega) h2
        have := h0 q (by omega) h4
        omega
  · rcases h with ⟨h3, -, -⟩ | ⟨q, h3, h4, h5, h6, h7, h8⟩
    · omega
    · have := h7 j (by omega) h2
      have := h0 q (by omega) h4
      omega
theorem BestQ.leave {fee : Int} {most M : Nat} {L : List UInt8} {k : Nat} {bl : List Nat} {c : Int} (h : BestQ fee most M L (k + 1) bl c) (C : Int) (hC : wayC (costF fee) most L (k + 1) = C) (hc : ¬ (c < 0 ∨ C < c)) : BestQ fee most M L k bl c := by
  rcases h with ⟨h3, h4, h5⟩ | ⟨q, h3, h4, h5, h6, h7, h8⟩
  · omega
  · refine .inr ⟨q, by omega, h4, h5, h6, fun j h1 h2 => ?_, h8⟩
    by_cases e : j = k + 1
    · subst e; omega
    · exact h7 j (by omega) h2
theorem BestQ.done {fee : Int} {most M : Nat} {L : List UInt8} {bl : List Nat} {c : Int} (h : BestQ fee most M L 0 bl c) (hM : min most L.length = M) (hL : 0 < L.length) (hm : 0 < most) : bl = pts (costF fee) most L ∧ c = lst (costF fee) most L := by
  rcases h with ⟨h3, h4, h5⟩ | ⟨q, h3, h4, h5, h6, h7, h8⟩
  · omega
  · have hu := best_unique (costF fee) most L hL hm q (by omega) (by omega) (by omega) (fun j a b d => by rw [← h5]; exact h7 j (by omega) (by omega)) (fun j a b d => by rw [← h5]; exact h8 j a (by omega))
    rw [pts_cons (costF fee) most L hL hm, hu.1, hu.2]
    exact ⟨h6, h5⟩
theorem wayC_room (fee : Int) (most : Nat) (L : List UInt8) (j : Nat) (hm : 0 < most) (hf0 : 0 ≤ fee) (hf1 : fee ≤ 1048576) (hL : L.length ≤ 4096) : 0 ≤ wayC (costF fee) most L j ∧ wayC (costF fee) most L j ≤ 50000000000 := by
  have h1 := lst_room fee most (L.drop j) hm hf0 hf1 (by rw [List.length_drop]; omega)
  have h2 := ent_bd (L.take j) (by rw [List.length_take]; omega)
  have h3 : costF fee (L.take j) = ent (L.take j) + fee := rfl
  unfold wayC
  omega
theorem costV_pos (fee : Int) (L : List UInt8) (h : 0 < L.length) : costV fee L = costF fee L := by
  unfold costV costF; rw [if_neg (by omega)]
theorem nil_of_le {L : List UInt8} (h : L.length ≤ 0) : L = [] := List.length_eq_zero_iff.1 (by omega)
set_option maxHeartbeats 3200000 in
theorem dBest (most : Nat) (fee : Int) (hm0 : 1 ≤ most) (hm1 : most ≤ 65536) (hf0 : 0 ≤ fee) (hf1 : fee ≤ 1048576) : ∀ (N : Nat) (L : List UInt8), L.length ≤ N → N ≤ 100 → ∀ w,
    Calls Try.prog 26 #[.string (sM L), .int .i64 most, .int .i64 fee] w fun e w' => ∃ v, e = .returned (.tuple #[v, .int .i64 (lst (costF fee) most L)]) ∧ OwnI w.heap.size w' v ((pts (costF fee) most L).map (fun x : Nat => (x : Int))) ∧ Below w.heap.size w w'
  | 0, L, hL, _, w => by
    obtain rfl := nil_of_le hL
    have e0 : (sM []).toList.isEmpty = true := by rw [sM_toL]; rfl
    go_enter Try.func26, Try.ntmps26
    go_wp2_with fail
    go_ret2
    exact ⟨_, rfl, OwnS.nil, Below.refl _ _⟩
  | N + 1, L, hL, hN, w => by
    have hT : (sM L).toList.isEmpty = decide (L.length = 0) := by rw [sM_toL]; cases L <;> simp
    by_cases h0 : L.length = 0
    · obtain rfl := nil_of_le (Nat.le_of_eq h0)
      have e0 : (sM []).toList.isEmpty = true := by rw [sM_toL]; rfl
      go_enter Try.func26, Try.ntmps26
      go_wp2_with fail
      go_ret2
      exact ⟨_, rfl, OwnS.nil, Below.refl _ _⟩
    · have e0 : (sM L).toList.isEmpty = false := by rw [hT]; exact decide_eq_false h0
      have IH := Lib.hid (fun (k : Nat) (hk : 1 ≤ k) W => dBest most fee hm0 hm1 hf0 hf1 N (L.drop k) (by rw [List.length_drop]; omega) (by omega) W)
      have hS : (sM L).size = L.length := sM_size L
      have CC := Lib.hid (fun (k : Nat) (hk : 1 ≤ k) (hk2 : k ≤ L.length) W => (by
        have := dCost (L.take k) fee W (by rw [List.length_take]; omega) hf0 hf1
        rw [costV_pos fee (L.take k) (by rw [List.length_take]; omega)] at this
        exact this : Calls Try.prog 29 #[.string (sM (L.take k)), .int .i64 fee] W fun e w' => e = .returned (.int .i64 (costF fee (L.take k))) ∧ Below W.heap.size W w'))
      have SD := Lib.hid (fun (k : Nat) (hk2 : k ≤ L.length) W => slDropM L (k : Int) k rfl hk2 W)
      have ST := Lib.hid (fun (k : Nat) (hk2 : k ≤ L.length) W => slTakeM L (k : Int) k rfl hk2 W)
      have WR := Lib.hid (fun j => wayC_room fee most L j (by omega) hf0 hf1 (by omega))
      have hL2 : 0 < L.length := by omega
      obtain ⟨M, hM⟩ : ∃ M, min most L.length = M := ⟨_, rfl⟩
      have HM := Lib.hid hM
      have hM0 : 1 ≤ M := by omega
      have hM1 : M ≤ L.length := by omega
      have hmn2 : min (most : Int) (L.length : Int) = (M : Int) := by omega
      have hmn : (if (L.length : Int) < most then (L.length : Int) else (most : Int)) = (M : Int) := by split <;> omega
      obtain ⟨n, hn⟩ : ∃ n, L.length = n := ⟨_, rfl⟩
      have HN := Lib.hid hn
      rw [hn] at hS hmn hmn2 hM1
      clear hT hM hn
      go_enter Try.func26, Try.ntmps26
      go_wp2_with fail
      clear hmn hmn2 e0
      go_loopw [8, 9, 10] (fun bv cv nv wr => ∃ (k : Nat) (bl : List Nat) (c : Int), k ≤ M ∧ nv = .int .i64 k ∧ cv = .int .i64 c ∧ Hid (BestQ fee most M L k bl c) ∧ Hid (OwnI w.heap.size wr bv (bl.map (fun x : Nat => (x : Int)))) ∧ Hid (Below w.heap.size w wr)) (fun _ _ nv _ => (intOf nv).toNat)
      case atStart => exact ⟨M, [], -1, Nat.le_refl _, rfl, rfl, Lib.hid (.inl ⟨rfl, rfl, rfl⟩), Lib.hid OwnS.nil, Lib.hid (Below.refl _ _)⟩
      case round =>
        obtain ⟨k, bl, c, hk, rfl, rfl, HQ, HO, HB⟩ := hrel
        by_cases hk0 : 0 < k
        · have hk1 : (1 : Int) ≤ k := by omega
          have IH1 := Lib.hid (IH.out k hk0)
          have CC1 := Lib.hid (CC.out k hk0 (by rw [HN.out]; omega))
          have sd := SD.out k (by rw [HN.out]; omega)
          have st := ST.out k (by rw [HN.out]; omega)
          have hw1 := WR.out k
          have hway : wayC (costF fee) most L k = costF fee (L.take k) + lst (costF fee) most (L.drop k) := rfl
          obtain ⟨CV, hCV⟩ : ∃ C, costF fee (L.take k) = C := ⟨_, rfl⟩
          obtain ⟨LV, hLV⟩ : ∃ C, lst (costF fee) most (L.drop k) = C := ⟨_, rfl⟩
          have hCV0 : 0 ≤ CV ∧ CV ≤ 40000000000 := by
            have := ent_bd (L.take k) (by rw [List.length_take]; omega)
            rw [← hCV]; unfold costF; omega
          have hLV0 : 0 ≤ LV ∧ LV ≤ 4294967296 := by
            have := lst_room fee most (L.drop k) (by omega) hf0 hf1 (by rw [List.length_drop]; omega)
            rw [← hLV]; exact this
          rw [hCV] at CC1 hway
          rw [hLV] at IH1 hway
          obtain ⟨PT, hPT⟩ : ∃ P, pts (costF fee) most (L.drop k) = P := ⟨_, rfl⟩
          have HPT := Lib.hid hPT
          rw [hPT] at IH1
          have HPl := Lib.hid (show PT.length ≤ 1099511627776 by
            have := pts_pos (costF fee) most (by omega) _ (L.drop k) (Nat.le_refl _)
            rw [hPT, List.length_drop] at this; omega)
          obtain ⟨C, hC⟩ : ∃ C, LV + CV = C := ⟨_, rfl⟩
          have HWC := Lib.hid (show wayC (costF fee) most L k = C by rw [hway, Int.add_comm]; exact hC)
          have hc0 : (-1 : Int) ≤ c := by
            rcases HQ.out with ⟨-, -, h⟩ | ⟨q, -, -, h, -⟩
            · omega
            · have := (WR.out q).1; omega
          clear hPT hCV hLV hway hw1
          go_wp2_with fail
          refine (IH1.out _).mono ?_; rintro e w2 ⟨l, rfl, hol, hb2⟩
          have HOL := Lib.hid hol
          have HO2 := Lib.hid (HO.out.kept hb2)
          have HB2 := Lib.hid (HB.out.trans (hb2.mono HB.out.size))
          clear hol hb2 HO HB
          go_wp2_with fail
          refine (CC1.out _).mono ?_; rintro e w3 ⟨rfl, hb3⟩
          have HOL := Lib.hid (HOL.out.kept hb3)
          have HO2 := Lib.hid (HO2.out.kept hb3)
          have HB3 := Lib.hid (HB2.out.trans (hb3.mono HB2.out.size))
          clear hb3 HB2
          obtain ⟨k1, hk1e⟩ : ∃ k1, k = k1 + 1 := ⟨k - 1, by omega⟩
          have HQ1 := Lib.hid (show BestQ fee most M L (k1 + 1) bl c by rw [← hk1e]; exact HQ.out)
          have HW1 := Lib.hid (show wayC (costF fee) most L (k1 + 1) = C by rw [← hk1e]; exact HWC.out)
          have hk1i : (k : Int) - 1 = (k1 : Int) := by omega
          have HK1 := Lib.hid hk1e
          have hk1b : k1 ≤ 1000 := by have := HN.out; omega
          have hzb : w.heap.size ≤ w3.heap.size := HB3.out.size
          obtain ⟨la, lc, rfl⟩ := HOL.out.slice
          rw [List.length_map] at HOL
          clear HQ HWC hk1e
          by_cases hc : c < 0
          · have d1 : decide (c < 0) = true := decide_eq_true hc
            have HQ2 := Lib.hid (HQ1.out.take (by have := HK1.out; omega) C HW1.out (.inl hc) (fun j _ _ => (WR.out j).1))
            go_wp2_with (first | (at_builtin; go_must (refine app_rowI rfl _ _ rfl (k : Int) (.slice la PT.length lc) (PT.map (fun x : Nat => (x : Int))) wr.heap.size rfl rfl HOL.out (by rw [List.length_map]; exact HPl.out) ?_; intro v4 w4 ho4 hb4)) | fail)
            have HO4 := Lib.hid (show OwnI w.heap.size w4 v4 (((k1 + 1) :: pts (costF fee) most (L.drop (k1 + 1))).map (fun x : Nat => (x : Int))) by
              have e : ((k1 + 1) :: pts (costF fee) most (L.drop (k1 + 1))).map (fun x : Nat => (x : Int)) = (k : Int) :: PT.map (fun x : Nat => (x : Int)) := by rw [← HK1.out, HPT.out]; rfl
              rw [e]; exact ho4.base hzb)
            have HB4 := Lib.hid (HB3.out.trans (hb4.mono hzb))
            go_roundw
            case rel => exact ⟨k1, _, C, by have := HK1.out; omega, by go_num, rfl, HQ2, HO4, HB4⟩
            case measure => have := HK1.out; simp [intOf]; omega
          · have d1 : decide (c < 0) = false := decide_eq_false hc
            by_cases hC : C < c
            · have HQ2 := Lib.hid (HQ1.out.take (by have := HK1.out; omega) C HW1.out (.inr hC) (fun j _ _ => (WR.out j).1))
              go_wp2_with (first | (at_builtin; go_must (refine app_rowI rfl _ _ rfl (k : Int) (.slice la PT.length lc) (PT.map (fun x : Nat => (x : Int))) wr.heap.size rfl rfl HOL.out (by rw [List.length_map]; exact HPl.out) ?_; intro v4 w4 ho4 hb4)) | fail)
              have HO4 := Lib.hid (show OwnI w.heap.size w4 v4 (((k1 + 1) :: pts (costF fee) most (L.drop (k1 + 1))).map (fun x : Nat => (x : Int))) by
                have e : ((k1 + 1) :: pts (costF fee) most (L.drop (k1 + 1))).map (fun x : Nat => (x : Int)) = (k : Int) :: PT.map (fun x : Nat => (x : Int)) := by rw [← HK1.out, HPT.out]; rfl
                rw [e]; exact ho4.base hzb)
              have HB4 := Lib.hid (HB3.out.trans (hb4.mono hzb))
              go_roundw
              case rel => exact ⟨k1, _, C, by have := HK1.out; omega, by go_num, rfl, HQ2, HO4, HB4⟩
              case measure => have := HK1.out; simp [intOf]; omega
            · have HQ2 := Lib.hid (HQ1.out.leave C HW1.out (fun h => h.elim hc hC))
              go_wp2_with fail
              go_roundw
              case rel => exact ⟨k1, _, c, by have := HK1.out; omega, by go_num, rfl, HQ2, HO2, HB3⟩
              case measure => have := HK1.out; simp [intOf]; omega
        · obtain rfl : k = 0 := by omega
          have hd := HQ.out.done (by rw [HN.out]; have := HM.out; rw [HN.out] at this; exact this) (by rw [HN.out]; omega) (by omega)
          obtain ⟨rfl, rfl⟩ := hd
          obtain ⟨va, vc, rfl⟩ := HO.out.slice
          go_wp2_with fail
          go_ret2
          exact ⟨_, rfl, HO.out, HB.out⟩
theorem cMay (s : ByteArray) (most fee : Int) (w : World) (B : Bool) (hB : B = decide (1 ≤ most ∧ most ≤ 65536 ∧ 0 ≤ fee ∧ fee ≤ 1048576 ∧ s.size ≤ 4096)) :
    Calls Try.prog 25 #[.string s, .int .i64 most, .int .i64 fee] w fun e w' => e = .returned (.bool B) ∧ w' = w := by
  subst hB
  by_cases h1 : 1 ≤ most
  · have d1 : decide (1 ≤ most) = true := decide_eq_true h1
    by_cases h2 : most ≤ 65536
    · have d2 : decide (most ≤ 65536) = true := decide_eq_true h2
      by_cases h3 : 0 ≤ fee
      · have d3 : decide (0 ≤ fee) = true := decide_eq_true h3
        by_cases h4 : fee ≤ 1048576
        · have d4 : decide (fee ≤ 1048576) = true := decide_eq_true h4
          by_cases h5 : s.size ≤ 4096
          · rw [decide_eq_true ⟨h1, h2, h3, h4, h5⟩]
            have d5 : decide (s.size ≤ 4096) = true := decide_eq_true h5
            have d6 : decide ((s.size : Int) ≤ 4096) = true := decide_eq_true (by omega)
            go_enter Try.func25, Try.ntmps25
            go_wp2_with fail
            go_ret
            exact ⟨rfl, rfl⟩
          · rw [decide_eq_false (fun h => h5 h.2.2.2.2)]
            have d5 : decide (s.size ≤ 4096) = false := decide_eq_false h5
            have d6 : decide ((s.size : Int) ≤ 4096) = false := decide_eq_false (by omega)
            go_enter Try.func25, Try.ntmps25
            go_wp2_with fail
            go_ret
            exact ⟨rfl, rfl⟩
        · rw [decide_eq_false (fun h => h4 h.2.2.2.1)]
          have d4 : decide (fee ≤ 1048576) = false := decide_eq_false h4
          go_enter Try.func25, Try.ntmps25
          go_wp2_with fail
          go_ret
          exact ⟨rfl, rfl⟩
      · rw [decide_eq_false (fun h => h3 h.2.2.1)]
        have d3 : decide (0 ≤ fee) = false := decide_eq_false h3
        go_enter Try.func25, Try.ntmps25
        go_wp2_with fail
        go_ret
        exact ⟨rfl, rfl⟩
    · rw [decide_eq_false (fun h => h2 h.2.1)]
      have d2 : decide (most ≤ 65536) = false := decide_eq_false h2
      go_enter Try.func25, Try.ntmps25
      go_wp2_with fail
      go_ret
      exact ⟨rfl, rfl⟩
  · rw [decide_eq_false (fun h => h1 h.1)]
    have d1 : decide (1 ≤ most) = false := decide_eq_false h1
    go_enter Try.func25, Try.ntmps25
    go_wp2_with fail
    go_ret
    exact ⟨rfl, rfl⟩
theorem ex1 : pts (costF 1) 8 [97, 97, 97, 97, 98, 98, 98, 98] = [4, 4] ∧ lst (costF 1) 8 [97, 97, 97, 97, 98, 98, 98, 98] = 2 := by decide +kernel
theorem ex2 : costV 7 [97, 98] = 39 ∧ costV 7 [] = 0 := by decide +kernel
theorem litU53 (w : World) (zs : List Int) (t c : Nat) (hl : zs.length ≤ 70368744177664) : IsL (w.alloc (.cells (zs.map (Value.int .i64 ·)).toArray t)) (.slice (some ⟨w.heap.size, 0, none⟩) zs.length c) zs := ⟨_, _, rfl, IsInts.new w zs t (0, 0) hl⟩
theorem intsV53 {v u : Value} {l m : List Int} {w : World} (h1 : IsL w v l) (h2 : IsL w u m) (B : Bool) (hB : B = decide (l = m)) : Calls Try.prog 27 #[v, u] w fun e w' => e = .returned (.bool B) ∧ Below w.heap.size w w' :=
  (intsL h1 h2 B hB).mono fun e w' ⟨h, k, hk⟩ => ⟨h, by rw [hk]; exact below_dn (Below.refl _ _) k⟩
set_option maxHeartbeats 3200000 in
theorem awake53 (w : World) : Calls Try.prog 23 #[] w fun e w' => e = .returned (.bool true) ∧ Below w.heap.size w w' := by
  have C1 := Lib.hid (fun W => (cSplit [97, 97, 97, 97, 98, 98, 98, 98] 8 8 1 W rfl (by decide) (by decide) (by decide) (by decide) (by decide)))
  have C2 := Lib.hid (fun W => cSplitErr (sM [97]) 0 1 W (.inl (by decide)))
  have C3 := Lib.hid (fun W => (cSplit [] 1 0 1 W rfl (by decide) (by decide) (by decide) (by decide) (by decide)))
  have C4 := Lib.hid (fun W => cCost [97, 98] 7 W (by decide) (by decide) (by decide))
  have C5 := Lib.hid (fun W => cCost [] 7 W (by decide) (by decide) (by decide))
  rw [ex1.1, ex1.2] at C1
  rw [ex2.1] at C4
  rw [ex2.2] at C5
  go_enter Try.func23, Try.ntmps23
  go_wp2_with fail
  refine (C1.out _).mono ?_; rintro e w1 ⟨v, rfl, hv, hb⟩
  have HV := Lib.hid (show IsL w1 v [4, 4] from hv)
  clear hv
  go_wp2_with fail
  refine (C2.out _).mono ?_; rintro e w2 ⟨rfl, rfl⟩
  go_wp2_with fail
  refine (C3.out _).mono ?_; rintro e w3 ⟨u, rfl, hu, hb3⟩
  obtain ⟨ua, uc, rfl, -⟩ := hu
  have HV := Lib.hid (HV.out.kept hb3)
  have hb := hb.trans (hb3.mono hb.size)
  clear hb3
  go_wp2_with fail
  refine (intsV53 (HV.out.alloc _) (litU53 _ [4, 4] _ _ (by decide)) true (by decide)).mono ?_; rintro e w4 ⟨rfl, hb4⟩
  have hb : Below w.heap.size w w4 := (hb.alloc hb.size _).trans (hb4.mono (by have := hb.size; simp; omega))
  clear hb4 HV
  go_wp2_with fail
  refine (C4.out _).mono ?_; rintro e w5 ⟨rfl, hb5⟩
  have hb := hb.trans (hb5.mono hb.size)
  clear hb5
  go_wp2_with fail
  refine (C5.out _).mono ?_; rintro e w6 ⟨rfl, hb6⟩
  have hb := hb.trans (hb6.mono hb.size)
  clear hb6
  go_wp2_with fail
  go_ret
  exact ⟨rfl, hb⟩
end Go.Proofs.Ytlcdjilmfjdmhaa
