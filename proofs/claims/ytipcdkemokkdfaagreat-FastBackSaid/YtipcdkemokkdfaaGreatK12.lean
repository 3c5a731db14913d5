import Derived.Test.YtipcdkemokkdfaaGreatK11
/- The library's stable sort: a row merged with the one number behind it. -/
namespace Go.Proofs.YtipcdkemokkdfaaGreat
open Go.ChangeShapes Go.WideShapes Go.ChangeAt Go.RowKit
set_option linter.unusedVariables false
set_option linter.unusedSimpArgs false
set_option maxRecDepth 100000
theorem mv_back (p y q : List Int) (u : Int) (a k : Nat) (hp : p.length = a) (hk : k < y.length) :
    ((p ++ (y.take (k + 1) ++ u :: y.drop (k + 1)) ++ q).set (a + k + 1) (y.getD k 0)).set (a + k) u = p ++ (y.take k ++ u :: y.drop k) ++ q ∧
      (p ++ (y.take (k + 1) ++ u :: y.drop (k + 1)) ++ q).getD (a + k) 0 = y.getD k 0 ∧ (p ++ (y.take (k + 1) ++ u :: y.drop (k + 1)) ++ q).getD (a + k + 1) 0 = u := by
  have ey : y.drop k = y.getD k 0 :: y.drop (k + 1) := drop_getD y k hk
  have ty : y.take (k + 1) = y.take k ++ [y.getD k 0] := take_getD y k hk
  have e : p ++ (y.take (k + 1) ++ u :: y.drop (k + 1)) ++ q = (p ++ y.take k) ++ y.getD k 0 :: ([] ++ u :: (y.drop (k + 1) ++ q)) := by rw [ty]; simp
  have hA : (p ++ y.take k).length = a + k := by rw [List.length_append, hp, List.length_take_of_le (by omega)]
  have h1 := St.set_two (p ++ y.take k) [] (y.drop (k + 1) ++ q) (y.getD k 0) u
  have h2 := St.get_far (p ++ y.take k) [] (y.drop (k + 1) ++ q) (y.getD k 0) u
  have h3 := St.get_mid (p ++ y.take k) ([] ++ u :: (y.drop (k + 1) ++ q)) (y.getD k 0)
  rw [List.length_nil, Nat.add_zero, hA] at h1 h2
  rw [hA] at h3
  rw [e]
  refine ⟨?_, h3, h2⟩
  rw [List.set_comm _ _ (by omega), h1, ey]; simp
set_option maxHeartbeats 3200000 in
theorem sMerge2 (bx B g n cap a m b : Nat) (fr : Int → Int) (D : Int → Prop) (p y q : List Int) (u : Int) (w0 w : World) (CC : CmpC w0 g bx fr D) (hK : Keeps (fun j => j = g) w0 w) (hO : OwnI B w (.slice (some ⟨g, 0, none⟩) n cap) (p ++ (y ++ [u]) ++ q)) (ha : p.length = a) (hm : a + y.length = m) (hb : m + 1 = b) (h2 : 2 ≤ y.length) (hs : St.Srt fr y) (huy : ∀ v ∈ y, v < u) (hDu : D u) (hD : ∀ v ∈ y, D v) (hn : n ≤ 1000000) :
    Calls Tryz.prog 118 #[.slice (some ⟨g, 0, none⟩) n cap, .int .i64 a, .int .i64 m, .int .i64 b, FV bx] w fun e w' => e = .returned (.tuple #[]) ∧ ∃ z, St.Srt fr z ∧ z.Perm (y ++ [u]) ∧ OwnI B w' (.slice (some ⟨g, 0, none⟩) n cap) (p ++ z ++ q) ∧ Keeps (fun j => j = g) w w' := by
  have hN := own_n hO
  simp only [List.length_append, List.length_cons, List.length_nil] at hN
  have hbn : b ≤ n := by omega
  have hmb : m ≤ b := by omega
  have ham : a ≤ m := by omega
  have eN : ((m : Int) - a == 1) = false := by rw [beq_eq_false_iff_ne]; omega
  have eM : (b : Int) - m = 1 := by omega
  have hu : (p ++ (y ++ [u]) ++ q).getD m 0 = u := by
    have := getD_mid p (y ++ [u]) q m a ha (by omega) (by simp only [List.length_append, List.length_singleton]; omega)
    rw [this, show m - a = y.length by omega]; simp
  have hv : ∀ h, a ≤ h → h < m → (p ++ (y ++ [u]) ++ q).getD h 0 = y.getD (h - a) 0 := fun h h1 h2 => by
    have := getD_mid p (y ++ [u]) q h a ha (by omega) (by simp only [List.length_append, List.length_singleton]; omega)
    rw [this, List.getD_eq_getElem?_getD, List.getD_eq_getElem?_getD, List.getElem?_append_left (by omega)]
  obtain ⟨L, hL⟩ : ∃ L, p ++ (y ++ [u]) ++ q = L := ⟨_, rfl⟩
  have hLn : L.length = n := by rw [← hL]; simp only [List.length_append, List.length_singleton]; omega
  rw [hL] at hO hu hv
  have HO := Lib.hid hO; have HU := Lib.hid hu; have HV := Lib.hid hv; have HL := Lib.hid hL; have HLN := Lib.hid hLn
  have HC := Lib.hid CC; have HK0 := Lib.hid hK
  have HP := Lib.hid ha; have HS := Lib.hid hs; have HUY := Lib.hid huy; have HD := Lib.hid hD; have HYB := Lib.hid hb; have HM := Lib.hid hm
  clear hO ha hb hs hD CC hK hN hu hv hL hLn huy hm h2
  go_enter Tryz.func118, Tryz.ntmps118
  go_wp2_with fail
  clear eN eM
  have HW := Lib.hid (Keeps.refl (fun j => j = g) w)
  go_loopw [14, 15] (fun iv jv wr => ∃ (i j : Nat), iv = .int .i64 i ∧ jv = .int .i64 j ∧ a ≤ i ∧ i ≤ j ∧ j ≤ m ∧ Hid ((∀ t, t < i - a → t < y.length → St.lx fr (y.getD t 0) u) ∧ (∀ t, j - a ≤ t → t < y.length → St.lx fr u (y.getD t 0))) ∧ Hid (OwnI B wr (.slice (some ⟨g, 0, none⟩) n cap) L) ∧ Hid (Keeps (fun j => j = g) w wr)) (fun iv jv _ => (intOf jv).toNat - (intOf iv).toNat)
  case atStart => exact ⟨a, m, rfl, rfl, Nat.le_refl _, ham, Nat.le_refl _, Lib.hid ⟨fun t h => by omega, fun t h1 h2 => by have := HM.out; omega⟩, HO, HW⟩
  case round =>
    clear HO HW
    obtain ⟨i, j, rfl, rfl, hi, hij, hj, HR, HO, HW⟩ := hrel
    by_cases hlt : i < j
    · have hlti : (i : Int) < j := by omega
      obtain ⟨H, hH⟩ : ∃ H, (i + j) / 2 = H := ⟨_, rfl⟩
      have hH1 : i ≤ H := by omega
      have hH2 : H < j := by omega
      have eH : ((i : Int) + j) / 2 = H := by omega
      obtain ⟨v, hve⟩ : ∃ v, y.getD (H - a) 0 = v := ⟨_, rfl⟩
      have c1 := HO.out.int_cell H (by have := HLN.out; have := HM.out; omega)
      rw [HV.out H (by omega) (by omega), hve] at c1
      have c2 := HO.out.int_cell m (by have := HLN.out; have := HYB.out; omega)
      rw [HU.out] at c2
      have hvm : v ∈ y := by rw [← hve]; exact mem_getD (by have := HM.out; omega)
      have huv := HUY.out v hvm
      have hHn : (H : Int) < n := by omega
      have hmn : (m : Int) < n := by have := HYB.out; omega
      have HVE := Lib.hid hve
      have CP := Lib.hid (HC.out wr.drew (HK0.out.trans HW.out.drew) u v hDu (HD.out v hvm))
      have hcv := St.cmpV_neg (fr u) (fr v)
      obtain ⟨CV, hCV⟩ : ∃ CV, St.cmpV (fr u) (fr v) = CV := ⟨_, rfl⟩
      rw [hCV] at CP hcv
      have HS0 := Lib.hid (show wr.drew.cell? ⟨g, H, none⟩ = some (.int .i64 v) ∧ wr.drew.cell? ⟨g, m, none⟩ = some (.int .i64 u) from ⟨c1, c2⟩)
      have HS1 := Lib.hid (show wr.drew.drew.cell? ⟨g, H, none⟩ = some (.int .i64 v) ∧ wr.drew.drew.cell? ⟨g, m, none⟩ = some (.int .i64 u) from ⟨c1, c2⟩)
      have HO5 := Lib.hid (HO.out.drewN 2)
      have HW5 := Lib.hid (HW.out.drewN 2)
      clear hve hvm hH hCV
      by_cases hcmp : ¬ fr u < fr v
      · rw [decide_eq_false hcmp] at hcv
        go_wp2_with fail
        go_region_held3 (fun V => V.cell? ⟨g, H, none⟩ = some (.int .i64 v) ∧ V.cell? ⟨g, m, none⟩ = some (.int .i64 u)) (first | exact HS0.out | exact HS1.out) (first | (go_at_call 88; (with_reducible refine CP.out.mono ?_; rintro e wx ⟨rfl, rfl⟩)) | fail)
        simp only [Exit.then]
        rename_i hK hHeld
        refine hK _ _ ?_
        clear hK hHeld HS0 HS1 CP c1 c2 hcv HO HW
        change Code.wp Tryz.prog _ _ _ (wr.drewN 2)
        generalize wr.drewN 2 = w6 at *
        have HR2 := Lib.hid (show (∀ t, t < H + 1 - a → t < y.length → St.lx fr (y.getD t 0) u) ∧ (∀ t, j - a ≤ t → t < y.length → St.lx fr u (y.getD t 0)) from ⟨fun t h1 h2 => by
          have hq : St.lx fr (y.getD (H - a) 0) u := by rw [HVE.out]; exact (St.lx_up huv).2 (by omega)
          by_cases e : t = H - a
          · rw [e]; exact hq
          · exact St.lx_trans (srt_get HS.out t (H - a) (by omega) (by have := HM.out; omega)) hq, HR.out.2⟩)
        go_wp2_with fail
        go_roundw
        case rel => exact ⟨H + 1, j, by go_num, by go_num, by omega, by omega, by omega, HR2, HO5, HW5⟩
        case measure => simp [intOf] <;> omega
      · rw [decide_eq_true (Classical.not_not.1 hcmp)] at hcv
        go_wp2_with fail
        go_region_held3 (fun V => V.cell? ⟨g, H, none⟩ = some (.int .i64 v) ∧ V.cell? ⟨g, m, none⟩ = some (.int .i64 u)) (first | exact HS0.out | exact HS1.out) (first | (go_at_call 88; (with_reducible refine CP.out.mono ?_; rintro e wx ⟨rfl, rfl⟩)) | fail)
        simp only [Exit.then]
        rename_i hK hHeld
        refine hK _ _ ?_
        clear hK hHeld HS0 HS1 CP c1 c2 hcv HO HW
        change Code.wp Tryz.prog _ _ _ (wr.drewN 2)
        generalize wr.drewN 2 = w6 at *
        have HR2 := Lib.hid (show (∀ t, t < i - a → t < y.length → St.lx fr (y.getD t 0) u) ∧ (∀ t, H - a ≤ t → t < y.length → St.lx fr u (y.getD t 0)) from ⟨HR.out.1, fun t h1 h2 => by
          have hq : St.lx fr u (y.getD (H - a) 0) := by rw [HVE.out]; exact .inl (by omega)
          by_cases e : t = H - a
          · rw [e]; exact hq
          · exact St.lx_trans hq (srt_get HS.out (H - a) t (by omega) h2)⟩)
        go_wp2_with fail
        go_roundw
        case rel => exact ⟨i, H, by go_num, by go_num, by omega, by omega, by omega, HR2, HO5, HW5⟩
        case measure => simp [intOf] <;> omega
    · obtain rfl : i = j := by omega
      have HZ := Lib.hid (mid_srt HS.out HR.out.1 HR.out.2)
      obtain ⟨K, hKd⟩ : ∃ K, i - a = K := ⟨_, rfl⟩
      rw [hKd] at HZ
      have hKy : K ≤ y.length := by have := HM.out; omega
      have hO2 := HO.out
      rw [← HL.out] at hO2
      have HO2 := Lib.hid (show OwnI B wr (.slice (some ⟨g, 0, none⟩) n cap) (p ++ (y.take y.length ++ u :: y.drop y.length) ++ q) from by rw [List.take_length, List.drop_length]; exact hO2)
      have hii : ¬ (i : Int) < i := by omega
      have hmy : a + y.length = m := HM.out
      have hmn : m < n := by have := HYB.out; omega
      clear hO2 HO
      go_wp2_with fail
      clear hii
      obtain ⟨w1, hw1⟩ : ∃ w1, w1 = wr := ⟨_, rfl⟩
      rw [← hw1] at HO2 HW ⊢
      clear hw1
      go_loopw [17] (fun kv wr => ∃ (k A : Nat), K ≤ k ∧ k ≤ y.length ∧ a + k = A ∧ kv = .int .i64 (A : Int) ∧ Hid (OwnI B wr (.slice (some ⟨g, 0, none⟩) n cap) (p ++ (y.take k ++ u :: y.drop k) ++ q)) ∧ Hid (Keeps (fun j => j = g) w wr)) (fun kv _ => (intOf kv).toNat)
      case atStart => exact ⟨y.length, m, hKy, Nat.le_refl _, hmy, rfl, HO2, HW⟩
      case round =>
        clear HO2 HW
        obtain ⟨k1, A, hk, hkl, hA, rfl, HO, HW⟩ := hrel
        by_cases hlt : K < k1
        · have hlti : (i : Int) < A := by omega
          obtain ⟨k, rfl⟩ : ∃ k, k1 = k + 1 := ⟨k1 - 1, by omega⟩
          have hky : k < y.length := by omega
          obtain ⟨q1, q2, q3⟩ := mv_back p y q u a k HP.out hky
          obtain ⟨v, hve⟩ : ∃ v, y.getD k 0 = v := ⟨_, rfl⟩
          obtain ⟨A1, hA1⟩ : ∃ A1, a + k = A1 := ⟨_, rfl⟩
          rw [hA1, show A1 + 1 = A by omega] at q1 q3
          rw [hA1] at q2
          rw [hve] at q1 q2
          have hLn := own_n HO.out
          obtain ⟨L2, hL2⟩ : ∃ L2, p ++ (y.take (k + 1) ++ u :: y.drop (k + 1)) ++ q = L2 := ⟨_, rfl⟩
          have hO3 := HO.out
          rw [hL2] at q1 q2 q3 hO3 hLn
          have c1 := hO3.int_cell A (by omega)
          have c2 := hO3.int_cell A1 (by omega)
          rw [q3] at c1
          rw [q2] at c2
          have f1 := hO3.free A
          have f2 := hO3.free A1
          have lg := (hO3.lt _ rfl).2
          have hO4 := (hO3.set_int A v (by omega)).set_int A1 u (by rw [List.length_set]; omega)
          rw [q1] at hO4
          have HO4 := Lib.hid hO4
          have HW4 := Lib.hid ((HW.out.setCell (p := ⟨g, A, none⟩) (.inr rfl) (.int .i64 v)).setCell (p := ⟨g, A1, none⟩) (.inr rfl) (.int .i64 u))
          have eA : (A : Int) - 1 = A1 := by omega
          have wA : IntKind.i64.wrap (A1 : Int) = A1 := IntWalk.i64_in _ (by omega)
          have hne : A ≠ A1 := by omega
          have hAn : (A : Int) < n := by omega
          have hA1n : (A1 : Int) < n := by omega
          clear q1 q2 q3 hve hLn hL2 hO3 hO4 HO HW
          go_wp2_with fail
          go_region
          go_wp2_with fail
          go_roundw
          case rel => exact ⟨k, A1, by omega, by omega, hA1, by go_num, HO4, Lib.hid HW4.out.drew⟩
          case measure => simp [intOf] <;> omega
        · have hlti : ¬ (i : Int) < A := by omega
          obtain rfl : k1 = K := by omega
          go_wp2_with fail
          refine bodyPost_ret (results_none rfl _ _ _) rfl ?_
          exact ⟨rfl, _, HZ.out.1, HZ.out.2.trans (List.perm_append_comm (l₁ := [u])), by first | exact HO.out | simpa using HO.out, HW.out⟩
end Go.Proofs.YtipcdkemokkdfaaGreat
