import Derived.Test.YtipcdkemokkdfaaGreatK12
/- The library's stable sort: two rows merged. -/
namespace Go.Proofs.YtipcdkemokkdfaaGreat
open Go.ChangeShapes Go.WideShapes Go.ChangeAt Go.RowKit
set_option linter.unusedVariables false
set_option linter.unusedSimpArgs false
set_option maxRecDepth 100000
/-- What a merge does. -/
def MergeC (bx B g n cap : Nat) (fr : Int → Int) (D : Int → Prop) (w0 : World) (N : Nat) : Prop := ∀ (a m b : Nat) (p x y q : List Int) (w : World), b - a < N → Keeps (fun j => j = g) w0 w → OwnI B w (.slice (some ⟨g, 0, none⟩) n cap) (p ++ (x ++ y) ++ q) → p.length = a → a + x.length = m → m + y.length = b → 0 < x.length → 0 < y.length → St.Srt fr x → St.Srt fr y → (∀ u ∈ x, ∀ v ∈ y, u < v) → (∀ u ∈ x, D u) → (∀ u ∈ y, D u) →
    Calls Tryz.prog 118 #[.slice (some ⟨g, 0, none⟩) n cap, .int .i64 a, .int .i64 m, .int .i64 b, FV bx] w fun e w' => e = .returned (.tuple #[]) ∧ ∃ z, St.Srt fr z ∧ z.Perm (x ++ y) ∧ OwnI B w' (.slice (some ⟨g, 0, none⟩) n cap) (p ++ z ++ q) ∧ Keeps (fun j => j = g) w w'
/-- Of two rows parted at places that fit: the first parts are all ahead of the second ones. -/
theorem part_lx {fr : Int → Int} {x y : List Int} (hx : St.Srt fr x) (hy : St.Srt fr y) (s t : Nat) (hs : s ≤ x.length) (ht : t ≤ y.length)
    (h1 : 0 < s → t < y.length → St.lx fr (x.getD (s - 1) 0) (y.getD t 0)) (h2 : 0 < t → s < x.length → St.lx fr (y.getD (t - 1) 0) (x.getD s 0)) :
    ∀ u ∈ x.take s ++ y.take t, ∀ v ∈ x.drop s ++ y.drop t, St.lx fr u v := by
  have gx : ∀ i j, i < s → s ≤ j → j < x.length → St.lx fr (x.getD i 0) (x.getD j 0) := fun i j a b c => srt_get hx i j (by omega) c
  have gy : ∀ i j, i < t → t ≤ j → j < y.length → St.lx fr (y.getD i 0) (y.getD j 0) := fun i j a b c => srt_get hy i j (by omega) c
  have le_x : ∀ i j, i ≤ j → j < x.length → x.getD i 0 = x.getD j 0 ∨ St.lx fr (x.getD i 0) (x.getD j 0) := fun i j a b => by
    by_cases e : i = j
    · subst e; exact .inl rfl
    · exact .inr (srt_get hx i j (by omega) b)
  have le_y : ∀ i j, i ≤ j → j < y.length → y.getD i 0 = y.getD j 0 ∨ St.lx fr (y.getD i 0) (y.getD j 0) := fun i j a b => by
    by_cases e : i = j
    · subst e; exact .inl rfl
    · exact .inr (srt_get hy i j (by omega) b)
  have chain : ∀ {a b c d : Int}, (a = b ∨ St.lx fr a b) → St.lx fr b c → (c = d ∨ St.lx fr c d) → St.lx fr a d := by
    intro a b c d h1 h2 h3
    rcases h1 with rfl | h1 <;> rcases h3 with rfl | h3
    · exact h2
    · exact St.lx_trans h2 h3
    · exact St.lx_trans h1 h2
    · exact St.lx_trans h1 (St.lx_trans h2 h3)
  have getT : ∀ (l : List Int) (k : Nat) (u : Int), u ∈ l.take k → ∃ i, i < k ∧ i < l.length ∧ l.getD i 0 = u := fun l k u h => by
    obtain ⟨i, hi, rfl⟩ := List.mem_take_iff_getElem.1 h
    exact ⟨i, by omega, by omega, by rw [List.getD_eq_getElem?_getD, List.getElem?_eq_getElem (by omega)]; rfl⟩
  have getDr : ∀ (l : List Int) (k : Nat) (u : Int), u ∈ l.drop k → ∃ i, k ≤ i ∧ i < l.length ∧ l.getD i 0 = u := fun l k u h => by
    obtain ⟨i, hi, rfl⟩ := List.mem_drop_iff_getElem.1 h
    exact ⟨k + i, by omega, by omega, by rw [List.getD_eq_getElem?_getD, List.getElem?_eq_getElem (by omega)]; rfl⟩
  intro u hu v hv
  rcases List.mem_append.1 hu with hu | hu <;> rcases List.mem_append.1 hv with hv | hv <;> obtain ⟨i, i1, i2, rfl⟩ := getT _ _ _ hu <;> obtain ⟨j, j1, j2, rfl⟩ := getDr _ _ _ hv
  · exact gx i j i1 j1 j2
  · exact chain (le_x i (s - 1) (by omega) (by omega)) (h1 (by omega) (by omega)) (le_y t j j1 j2)
  · exact chain (le_y i (t - 1) (by omega) (by omega)) (h2 (by omega) (by omega)) (le_x s j j1 j2)
  · exact gy i j i1 j1 j2
set_option maxHeartbeats 6400000 in
theorem sMergeG (bx B g n cap a m b : Nat) (fr : Int → Int) (D : Int → Prop) (p x y q : List Int) (w0 w : World) (CC : CmpC w0 g bx fr D) (IH : MergeC bx B g n cap fr D w0 (b - a)) (hK : Keeps (fun j => j = g) w0 w) (hO : OwnI B w (.slice (some ⟨g, 0, none⟩) n cap) (p ++ (x ++ y) ++ q)) (ha : p.length = a) (hm : a + x.length = m) (hb : m + y.length = b) (hx2 : 2 ≤ x.length) (hy2 : 2 ≤ y.length) (hs : St.Srt fr x) (ht : St.Srt fr y) (hxy : ∀ u ∈ x, ∀ v ∈ y, u < v) (hDx : ∀ u ∈ x, D u) (hDy : ∀ v ∈ y, D v) (hn : n ≤ 1000000) :
    Calls Tryz.prog 118 #[.slice (some ⟨g, 0, none⟩) n cap, .int .i64 a, .int .i64 m, .int .i64 b, FV bx] w fun e w' => e = .returned (.tuple #[]) ∧ ∃ z, St.Srt fr z ∧ z.Perm (x ++ y) ∧ OwnI B w' (.slice (some ⟨g, 0, none⟩) n cap) (p ++ z ++ q) ∧ Keeps (fun j => j = g) w w' := by
  have hN := own_n hO
  simp only [List.length_append] at hN
  have hbn : b ≤ n := by omega
  have eN : ((m : Int) - a == 1) = false := by rw [beq_eq_false_iff_ne]; omega
  have eM : ((b : Int) - m == 1) = false := by rw [beq_eq_false_iff_ne]; omega
  have hvx : ∀ h, a ≤ h → h < m → (p ++ (x ++ y) ++ q).getD h 0 = x.getD (h - a) 0 := fun h h1 h2 => by
    have := getD_mid p (x ++ y) q h a ha (by omega) (by simp only [List.length_append]; omega)
    rw [this, List.getD_eq_getElem?_getD, List.getD_eq_getElem?_getD, List.getElem?_append_left (by omega)]
  have hvy : ∀ h, m ≤ h → h < b → (p ++ (x ++ y) ++ q).getD h 0 = y.getD (h - m) 0 := fun h h1 h2 => by
    have := getD_mid p (x ++ y) q h a ha (by omega) (by simp only [List.length_append]; omega)
    rw [this, List.getD_eq_getElem?_getD, List.getD_eq_getElem?_getD, List.getElem?_append_right (by omega), show h - a - x.length = h - m by omega]
  obtain ⟨L, hL⟩ : ∃ L, p ++ (x ++ y) ++ q = L := ⟨_, rfl⟩
  have hLn : L.length = n := by rw [← hL]; simp only [List.length_append]; omega
  rw [hL] at hO hvx hvy
  obtain ⟨MID, hMID⟩ : ∃ MID, (a + b) / 2 = MID := ⟨_, rfl⟩
  obtain ⟨NN, hNN⟩ : ∃ NN, MID + m = NN := ⟨_, rfl⟩
  obtain ⟨PP, hPP⟩ : ∃ PP, NN - 1 = PP := ⟨_, rfl⟩
  obtain ⟨lo, hlo⟩ : ∃ lo, (if MID < m then NN - b else a) = lo := ⟨_, rfl⟩
  obtain ⟨hi, hhi⟩ : ∃ hi, (if MID < m then MID else m) = hi := ⟨_, rfl⟩
  have eMID : ((a : Int) + b) / 2 = MID := by omega
  have eNN : (MID : Int) + m = NN := by omega
  have ePP : (NN : Int) - 1 = PP := by omega
  have hBND : a ≤ lo ∧ lo ≤ hi ∧ hi ≤ m ∧ NN ≤ lo + b ∧ m + hi ≤ NN ∧ a < MID ∧ MID < b ∧ (lo = a ∨ NN = lo + b) ∧ (hi = m ∨ NN = m + hi) ∧ NN ≤ 2 * n := by
    by_cases h : MID < m
    · rw [if_pos h] at hlo hhi; omega
    · rw [if_neg h] at hlo hhi; omega
  obtain ⟨b1, b2, b3, b4, b5, b6, b7, b8, b9, b10⟩ := hBND
  have HLO := Lib.hid hlo; have HHI := Lib.hid hhi
  have HO := Lib.hid hO; have HVX := Lib.hid hvx; have HVY := Lib.hid hvy; have HL := Lib.hid hL; have HLN := Lib.hid hLn
  have HC := Lib.hid CC; have HK0 := Lib.hid hK; have HIH := Lib.hid IH
  have HP := Lib.hid ha; have HS := Lib.hid hs; have HT := Lib.hid ht; have HXY := Lib.hid hxy; have HDX := Lib.hid hDx; have HDY := Lib.hid hDy; have HYB := Lib.hid hb; have HM := Lib.hid hm
  have HX2 := Lib.hid hx2; have HY2 := Lib.hid hy2; have HNN := Lib.hid hNN; have HPP := Lib.hid hPP
  have CR := Lib.hid (fun a m b p x y q W h1 h2 h3 h4 h5 h6 => sRotate (FV bx) B g n cap a m b p x y q W h1 h2 h3 h4 h5 h6 hn)
  have HW := Lib.hid (Keeps.refl (fun j => j = g) w)
  have HB8 := Lib.hid b8; have HB9 := Lib.hid b9
  have hmn : m ≤ n := by omega
  have hNP1 : NN ≤ PP + 1 := by omega
  have hNP2 : PP + 1 ≤ NN := by omega
  clear hO ha hb hs ht hDx hDy CC IH hK hN hvx hvy hL hLn hxy hm hx2 hy2 hMID hNN hPP hlo hhi b8 b9
  have hmid : (m : Int) > MID ↔ MID < m := by omega
  have hcs : MID < m ∨ ¬ MID < m := Decidable.em _
  go_enter Tryz.func118, Tryz.ntmps118
  rcases hcs with hcs | hcs
  · have hcsi : (MID : Int) < m := by omega
    have e1 : (NN : Int) - b = lo := by have := HLO.out; rw [if_pos hcs] at this; omega
    have HE1 := Lib.hid e1
    have HE2 := Lib.hid (show (MID : Int) = hi by have := HHI.out; rw [if_pos hcs] at this; omega)
    go_wp2_with fail
    clear eN eM
    go_loopw [20, 21] (fun iv jv wr => ∃ (i j : Nat), iv = .int .i64 i ∧ jv = .int .i64 j ∧ lo ≤ i ∧ i ≤ j ∧ j ≤ hi ∧ Hid ((i = lo ∨ St.lx fr (x.getD (i - 1 - a) 0) (y.getD (PP - (i - 1) - m) 0)) ∧ (j = hi ∨ St.lx fr (y.getD (PP - j - m) 0) (x.getD (j - a) 0))) ∧ Hid (OwnI B wr (.slice (some ⟨g, 0, none⟩) n cap) L) ∧ Hid (Keeps (fun j => j = g) w wr)) (fun iv jv _ => (intOf jv).toNat - (intOf iv).toNat)
    case atStart => exact ⟨lo, hi, by first | rfl | (rw [HE1.out]), by first | rfl | (rw [HE2.out]), Nat.le_refl _, b2, Nat.le_refl _, Lib.hid ⟨.inl rfl, .inl rfl⟩, HO, HW⟩
    case round =>
      clear HO HW
      obtain ⟨i, j, rfl, rfl, hi1, hij, hj, HR, HO, HW⟩ := hrel
      by_cases hlt : i < j
      · have hlti : (i : Int) < j := by omega
        obtain ⟨H, hH⟩ : ∃ H, (i + j) / 2 = H := ⟨_, rfl⟩
        have hH1 : i ≤ H := by omega
        have hH2 : H < j := by omega
        have eH : ((i : Int) + j) / 2 = H := by omega
        obtain ⟨Q, hQ⟩ : ∃ Q, PP - H = Q := ⟨_, rfl⟩
        have eQ : (PP : Int) - H = Q := by omega
        have hQ1 : m ≤ Q := by omega
        have hQ2 : Q < b := by omega
        have hHm : H < m := by omega
        have hHa : a ≤ H := by omega
        obtain ⟨u, hue⟩ : ∃ u, x.getD (H - a) 0 = u := ⟨_, rfl⟩
        obtain ⟨v, hve⟩ : ∃ v, y.getD (Q - m) 0 = v := ⟨_, rfl⟩
        have c1 := HO.out.int_cell H (by rw [HLN.out]; omega)
        rw [HVX.out H hHa hHm, hue] at c1
        have c2 := HO.out.int_cell Q (by rw [HLN.out]; omega)
        rw [HVY.out Q hQ1 hQ2, hve] at c2
        have hum : u ∈ x := by rw [← hue]; exact mem_getD (by have := HM.out; omega)
        have hvm : v ∈ y := by rw [← hve]; exact mem_getD (by have := HYB.out; omega)
        have huv := HXY.out u hum v hvm
        have hHn : (H : Int) < n := by omega
        have hQn : (Q : Int) < n := by omega
        have wQ : IntKind.i64.wrap (Q : Int) = Q := IntWalk.i64_in _ (by omega)
        have HVE := Lib.hid hve; have HUE := Lib.hid hue; have HQ := Lib.hid hQ
        have CP := Lib.hid (HC.out wr.drew (HK0.out.trans HW.out.drew) v u (HDY.out v hvm) (HDX.out u hum))
        have hcv := St.cmpV_neg (fr v) (fr u)
        obtain ⟨CV, hCV⟩ : ∃ CV, St.cmpV (fr v) (fr u) = CV := ⟨_, rfl⟩
        rw [hCV] at CP hcv
        have HS0 := Lib.hid (show wr.drew.cell? ⟨g, H, none⟩ = some (.int .i64 u) ∧ wr.drew.cell? ⟨g, Q, none⟩ = some (.int .i64 v) from ⟨c1, c2⟩)
        have HS1 := Lib.hid (show wr.drew.drew.cell? ⟨g, H, none⟩ = some (.int .i64 u) ∧ wr.drew.drew.cell? ⟨g, Q, none⟩ = some (.int .i64 v) from ⟨c1, c2⟩)
        have HO5 := Lib.hid (HO.out.drewN 2)
        have HW5 := Lib.hid (HW.out.drewN 2)
        clear hve hue hvm hum hH hCV hQ
        by_cases hcmp : fr v < fr u
        · rw [decide_eq_true hcmp] at hcv
          go_wp2_with fail
          go_region_held3 (fun V => V.cell? ⟨g, H, none⟩ = some (.int .i64 u) ∧ V.cell? ⟨g, Q, none⟩ = some (.int .i64 v)) (first | exact HS0.out | exact HS1.out) (first | (go_at_call 88; (with_reducible refine CP.out.mono ?_; rintro e wx ⟨rfl, rfl⟩)) | fail)
          simp only [Exit.then]
          rename_i hK hHeld
          refine hK _ _ ?_
          clear hK hHeld HS0 HS1 CP c1 c2 hcv HO HW
          change Code.wp Tryz.prog _ _ _ (wr.drewN 2)
          generalize wr.drewN 2 = w6 at *
          have HR2 := Lib.hid (show (i = lo ∨ St.lx fr (x.getD (i - 1 - a) 0) (y.getD (PP - (i - 1) - m) 0)) ∧ (H = hi ∨ St.lx fr (y.getD (PP - H - m) 0) (x.getD (H - a) 0)) from ⟨HR.out.1, .inr (by rw [HQ.out, HVE.out, HUE.out]; exact .inl hcmp)⟩)
          go_wp2_with fail
          go_roundw
          case rel => exact ⟨i, H, by go_num, by go_num, by omega, by omega, by omega, HR2, HO5, HW5⟩
          case measure => simp [intOf] <;> omega
        · rw [decide_eq_false hcmp] at hcv
          have hcl := (St.lx_up huv).2 hcmp
          go_wp2_with fail
          go_region_held3 (fun V => V.cell? ⟨g, H, none⟩ = some (.int .i64 u) ∧ V.cell? ⟨g, Q, none⟩ = some (.int .i64 v)) (first | exact HS0.out | exact HS1.out) (first | (go_at_call 88; (with_reducible refine CP.out.mono ?_; rintro e wx ⟨rfl, rfl⟩)) | fail)
          simp only [Exit.then]
          rename_i hK hHeld
          refine hK _ _ ?_
          clear hK hHeld HS0 HS1 CP c1 c2 hcv HO HW
          change Code.wp Tryz.prog _ _ _ (wr.drewN 2)
          generalize wr.drewN 2 = w6 at *
          have HR2 := Lib.hid (show (H + 1 = lo ∨ St.lx fr (x.getD (H + 1 - 1 - a) 0) (y.getD (PP - (H + 1 - 1) - m) 0)) ∧ (j = hi ∨ St.lx fr (y.getD (PP - j - m) 0) (x.getD (j - a) 0)) from ⟨.inr (by rw [Nat.add_sub_cancel, HQ.out, HVE.out, HUE.out]; exact hcl), HR.out.2⟩)
          go_wp2_with fail
          go_roundw
          case rel => exact ⟨H + 1, j, by go_num, by go_num, by omega, by omega, by omega, HR2, HO5, HW5⟩
          case measure => simp [intOf] <;> omega
      · obtain rfl : i = j := by omega
        have hii : ¬ (i : Int) < i := by omega
        obtain ⟨E, hE⟩ : ∃ E, NN - i = E := ⟨_, rfl⟩
        have eE : (NN : Int) - i = E := by omega
        have hE1 : m ≤ E := by omega
        have hE2 : E ≤ b := by omega
        have hia : a ≤ i := by omega
        have him : i ≤ m := by omega
        have hMI1 : MID + m ≤ i + E := by have := HNN.out; omega
        have hMI2 : i + E ≤ MID + m := by have := HNN.out; omega
        have hxl := HM.out; have hyl := HYB.out
        have HCR := Lib.hid (part_lx HS.out HT.out (i - a) (E - m) (by omega) (by omega) (fun h1 h2 => by
          rcases HR.out.1 with h | h
          · have := HB8.out; omega
          · rw [show PP - (i - 1) - m = E - m by omega, show i - 1 - a = i - a - 1 by omega] at h; exact h) (fun h1 h2 => by
          rcases HR.out.2 with h | h
          · have := HB9.out; omega
          · rw [show PP - i - m = E - m - 1 by omega] at h; exact h))
        have hO2 := HO.out
        have hsx := HS.out; have hsy := HT.out
        obtain ⟨x1, x2, rfl, lx1⟩ := St.cut_le x (i - a) (by omega)
        obtain ⟨y1, y2, rfl, ly1⟩ := St.cut_le y (E - m) (by omega)
        rw [List.take_left' lx1, List.drop_left' lx1, List.take_left' ly1, List.drop_left' ly1] at HCR
        rw [← HL.out] at hO2
        obtain ⟨sx1, sx2, sx3⟩ := St.srt_append.1 hsx
        obtain ⟨sy1, sy2, sy3⟩ := St.srt_append.1 hsy
        simp only [List.length_append] at hxl hyl
        have HO2 := Lib.hid hO2
        have HL1 := Lib.hid lx1; have HL2 := Lib.hid ly1; have HL3 := Lib.hid (show x2.length = m - i by omega); have HL4 := Lib.hid (show y2.length = b - E by omega)
        have HSX1 := Lib.hid sx1; have HSX2 := Lib.hid sx2; have HSY1 := Lib.hid sy1; have HSY2 := Lib.hid sy2
        have hx2 := HX2.out; have hy2 := HY2.out
        simp only [List.length_append] at hx2 hy2
        have HBA := Lib.hid (show MID - a < b - a ∧ b - MID < b - a by omega)
        clear HO hO2 hsx hsy lx1 ly1 sx1 sx2 sx3 sy1 sy2 sy3 HR HVX HVY HLN HL hE HX2 HY2 HNN HPP HB8 HB9 HLO HHI
        have HXY1 := Lib.hid (show ∀ u ∈ x1, ∀ v ∈ y1, u < v from fun u hu v hv => HXY.out u (by simp [hu]) v (by simp [hv]))
        have HXY2 := Lib.hid (show ∀ u ∈ x2, ∀ v ∈ y2, u < v from fun u hu v hv => HXY.out u (by simp [hu]) v (by simp [hv]))
        have HD1 := Lib.hid (show ∀ u ∈ x1, D u from fun u hu => HDX.out u (by simp [hu]))
        have HD2 := Lib.hid (show ∀ u ∈ x2, D u from fun u hu => HDX.out u (by simp [hu]))
        have HD3 := Lib.hid (show ∀ u ∈ y1, D u from fun u hu => HDY.out u (by simp [hu]))
        have HD4 := Lib.hid (show ∀ u ∈ y2, D u from fun u hu => HDY.out u (by simp [hu]))
        have HPM := Lib.hid (show ((x1 ++ y1) ++ (x2 ++ y2)).Perm ((x1 ++ x2) ++ (y1 ++ y2)) from by
          simp only [List.append_assoc]
          refine List.Perm.append_left x1 ?_
          rw [← List.append_assoc y1, ← List.append_assoc x2]
          exact List.Perm.append_right y2 List.perm_append_comm)
        by_cases hv : (a < i) ∧ (m < E) ∧ (i < m) ∧ (E < b)
        · obtain ⟨hA, hB, hC, hD⟩ := hv
          try (exfalso; omega)
          all_goals
            have hAi : (a : Int) < i := by omega
            have hBi : (m : Int) < E := by omega
            have hBj : (i : Int) < MID := by omega
            have hCi : (i : Int) < m := by omega
            have hCj : (MID : Int) < E := by omega
            have hDi : (E : Int) < b := by omega
            go_wp2_with fail
            refine (CR.out i m E (p ++ x1) x2 y1 (y2 ++ q) wr (by simpa using HO2.out) (by rw [List.length_append, HP.out, HL1.out]; omega) (by rw [List.length_append, List.length_append, HP.out, HL1.out, HL3.out]; omega) (by rw [List.length_append, List.length_append, List.length_append, HP.out, HL1.out, HL3.out, HL2.out]; omega) (by rw [HL3.out]; omega) (by rw [HL2.out]; omega)).mono ?_; rintro e w2 ⟨rfl, ho, hk⟩
            have HO3 := Lib.hid (show OwnI B w2 (.slice (some ⟨g, 0, none⟩) n cap) (p ++ (x1 ++ y1) ++ ((x2 ++ y2) ++ q)) by simpa using ho)
            have HW3 := Lib.hid (HW.out.trans hk)
            clear ho hk HO2 HW
            go_wp2_with fail
            refine (HIH.out a i MID p x1 y1 ((x2 ++ y2) ++ q) w2 HBA.out.1 (HK0.out.trans HW3.out) HO3.out HP.out (by rw [HL1.out]; omega) (by rw [HL2.out]; omega) (by rw [HL1.out]; omega) (by rw [HL2.out]; omega) HSX1.out HSY1.out HXY1.out HD1.out HD3.out).mono ?_; rintro e w3 ⟨rfl, z1, hz1, hz2, ho, hk⟩
            have HZ1 := Lib.hid hz1; have HZ2 := Lib.hid hz2
            have HO4 := Lib.hid ho
            have HW4 := Lib.hid (HW3.out.trans hk)
            clear hz1 hz2 ho hk HO3 HW3
            go_wp2_with fail
            have hzl : z1.length = MID - a := by rw [HZ2.out.length_eq, List.length_append, HL1.out, HL2.out]; omega
            have HZL := Lib.hid hzl; clear hzl
            refine (HIH.out MID E b (p ++ z1) x2 y2 q w3 HBA.out.2 (HK0.out.trans HW4.out) (by simpa using HO4.out) (by rw [List.length_append, HP.out, HZL.out]; omega) (by rw [HL3.out]; omega) (by rw [HL4.out]; omega) (by rw [HL3.out]; omega) (by rw [HL4.out]; omega) HSX2.out HSY2.out HXY2.out HD2.out HD4.out).mono ?_; rintro e w4 ⟨rfl, z2, hz1, hz2, ho, hk⟩
            have HZ3 := Lib.hid hz1; have HZ4 := Lib.hid hz2
            have HO5 := Lib.hid ho
            have HW5 := Lib.hid (HW4.out.trans hk)
            clear hz1 hz2 ho hk HO4 HW4
            go_wp2_with fail
            go_end0
            exact ⟨rfl, z1 ++ z2, St.srt_append.2 ⟨HZ1.out, HZ3.out, fun u hu v hv => HCR.out u (HZ2.out.mem_iff.1 hu) v (HZ4.out.mem_iff.1 hv)⟩, by first | exact (HZ2.out.append HZ4.out).trans HPM.out | simpa using (HZ2.out.append HZ4.out).trans HPM.out, by simpa using HO5.out, HW5.out⟩
        by_cases hv : (a < i) ∧ (m < E) ∧ (i < m) ∧ ¬ (E < b)
        · obtain ⟨hA, hB, hC, hD⟩ := hv
          try (exfalso; omega)
          all_goals
            have hAi : (a : Int) < i := by omega
            have hBi : (m : Int) < E := by omega
            have hBj : (i : Int) < MID := by omega
            have hCi : (i : Int) < m := by omega
            have hCj : (MID : Int) < E := by omega
            have hDi : ¬ (E : Int) < b := by omega
            obtain rfl : y2 = [] := List.length_eq_zero_iff.1 (by rw [HL4.out]; omega)
            go_wp2_with fail
            refine (CR.out i m E (p ++ x1) x2 y1 (([] : List Int) ++ q) wr (by simpa using HO2.out) (by rw [List.length_append, HP.out, HL1.out]; omega) (by rw [List.length_append, List.length_append, HP.out, HL1.out, HL3.out]; omega) (by rw [List.length_append, List.length_append, List.length_append, HP.out, HL1.out, HL3.out, HL2.out]; omega) (by rw [HL3.out]; omega) (by rw [HL2.out]; omega)).mono ?_; rintro e w2 ⟨rfl, ho, hk⟩
            have HO3 := Lib.hid (show OwnI B w2 (.slice (some ⟨g, 0, none⟩) n cap) (p ++ (x1 ++ y1) ++ ((x2 ++ ([] : List Int)) ++ q)) by simpa using ho)
            have HW3 := Lib.hid (HW.out.trans hk)
            clear ho hk HO2 HW
            go_wp2_with fail
            refine (HIH.out a i MID p x1 y1 ((x2 ++ ([] : List Int)) ++ q) w2 HBA.out.1 (HK0.out.trans HW3.out) HO3.out HP.out (by rw [HL1.out]; omega) (by rw [HL2.out]; omega) (by rw [HL1.out]; omega) (by rw [HL2.out]; omega) HSX1.out HSY1.out HXY1.out HD1.out HD3.out).mono ?_; rintro e w3 ⟨rfl, z1, hz1, hz2, ho, hk⟩
            have HZ1 := Lib.hid hz1; have HZ2 := Lib.hid hz2
            have HO4 := Lib.hid ho
            have HW4 := Lib.hid (HW3.out.trans hk)
            clear hz1 hz2 ho hk HO3 HW3
            go_wp2_with fail
            have hzl : z1.length = MID - a := by rw [HZ2.out.length_eq, List.length_append, HL1.out, HL2.out]; omega
            have HZL := Lib.hid hzl; clear hzl
            obtain ⟨z2, hz⟩ : ∃ z2, z2 = x2 := ⟨_, rfl⟩
            have HZ3 := Lib.hid (show St.Srt fr z2 by rw [hz]; exact HSX2.out)
            have HZ4 := Lib.hid (show z2.Perm (x2 ++ ([] : List Int)) by rw [hz]; simp)
            have HO5 := Lib.hid (show OwnI B w3 (.slice (some ⟨g, 0, none⟩) n cap) ((p ++ z1) ++ z2 ++ q) by rw [hz]; simpa using HO4.out)
            have HW5 := HW4
            clear hz HO4 HW4
            go_end0
            exact ⟨rfl, z1 ++ z2, St.srt_append.2 ⟨HZ1.out, HZ3.out, fun u hu v hv => HCR.out u (HZ2.out.mem_iff.1 hu) v (HZ4.out.mem_iff.1 hv)⟩, by first | exact (HZ2.out.append HZ4.out).trans HPM.out | simpa using (HZ2.out.append HZ4.out).trans HPM.out, by simpa using HO5.out, HW5.out⟩
        by_cases hv : (a < i) ∧ (m < E) ∧ ¬ (i < m) ∧ (E < b)
        · obtain ⟨hA, hB, hC, hD⟩ := hv
          try (exfalso; omega)
          all_goals
            have hAi : (a : Int) < i := by omega
            have hBi : (m : Int) < E := by omega
            have hBj : (i : Int) < MID := by omega
            have hCi : ¬ (i : Int) < m := by omega
            have hCj : ¬ (MID : Int) < E := by omega
            have hDi : (E : Int) < b := by omega
            obtain rfl : x2 = [] := List.length_eq_zero_iff.1 (by rw [HL3.out]; omega)
            have HO3 := Lib.hid (show OwnI B wr (.slice (some ⟨g, 0, none⟩) n cap) (p ++ (x1 ++ y1) ++ (([] ++ y2) ++ q)) by simpa using HO2.out)
            have HW3 := HW
            clear HO2 HW
            go_wp2_with fail
            refine (HIH.out a i MID p x1 y1 ((([] : List Int) ++ y2) ++ q) wr HBA.out.1 (HK0.out.trans HW3.out) HO3.out HP.out (by rw [HL1.out]; omega) (by rw [HL2.out]; omega) (by rw [HL1.out]; omega) (by rw [HL2.out]; omega) HSX1.out HSY1.out HXY1.out HD1.out HD3.out).mono ?_; rintro e w3 ⟨rfl, z1, hz1, hz2, ho, hk⟩
            have HZ1 := Lib.hid hz1; have HZ2 := Lib.hid hz2
            have HO4 := Lib.hid ho
            have HW4 := Lib.hid (HW3.out.trans hk)
            clear hz1 hz2 ho hk HO3 HW3
            go_wp2_with fail
            have hzl : z1.length = MID - a := by rw [HZ2.out.length_eq, List.length_append, HL1.out, HL2.out]; omega
            have HZL := Lib.hid hzl; clear hzl
            obtain ⟨z2, hz⟩ : ∃ z2, z2 = y2 := ⟨_, rfl⟩
            have HZ3 := Lib.hid (show St.Srt fr z2 by rw [hz]; exact HSY2.out)
            have HZ4 := Lib.hid (show z2.Perm (([] : List Int) ++ y2) by rw [hz]; simp)
            have HO5 := Lib.hid (show OwnI B w3 (.slice (some ⟨g, 0, none⟩) n cap) ((p ++ z1) ++ z2 ++ q) by rw [hz]; simpa using HO4.out)
            have HW5 := HW4
            clear hz HO4 HW4
            go_end0
            exact ⟨rfl, z1 ++ z2, St.srt_append.2 ⟨HZ1.out, HZ3.out, fun u hu v hv => HCR.out u (HZ2.out.mem_iff.1 hu) v (HZ4.out.mem_iff.1 hv)⟩, by first | exact (HZ2.out.append HZ4.out).trans HPM.out | simpa using (HZ2.out.append HZ4.out).trans HPM.out, by simpa using HO5.out, HW5.out⟩
        by_cases hv : (a < i) ∧ ¬ (m < E) ∧ (i < m) ∧ (E < b)
        · obtain ⟨hA, hB, hC, hD⟩ := hv
          try (exfalso; omega)
          all_goals
            have hAi : (a : Int) < i := by omega
            have hBi : ¬ (m : Int) < E := by omega
            have hBj : ¬ (i : Int) < MID := by omega
            have hCi : (i : Int) < m := by omega
            have hCj : (MID : Int) < E := by omega
            have hDi : (E : Int) < b := by omega
            obtain rfl : y1 = [] := List.length_eq_zero_iff.1 (by rw [HL2.out]; omega)
            have HO3 := Lib.hid (show OwnI B wr (.slice (some ⟨g, 0, none⟩) n cap) (p ++ (x1 ++ []) ++ ((x2 ++ y2) ++ q)) by simpa using HO2.out)
            have HW3 := HW
            clear HO2 HW
            go_wp2_with fail
            obtain ⟨z1, hz⟩ : ∃ z1, z1 = x1 := ⟨_, rfl⟩
            have HZ1 := Lib.hid (show St.Srt fr z1 by rw [hz]; exact HSX1.out)
            have HZ2 := Lib.hid (show z1.Perm (x1 ++ ([] : List Int)) by rw [hz]; simp)
            have HO4 := Lib.hid (show OwnI B wr (.slice (some ⟨g, 0, none⟩) n cap) (p ++ z1 ++ ((x2 ++ y2) ++ q)) by rw [hz]; simpa using HO3.out)
            have HW4 := HW3
            clear hz HO3 HW3
            have hzl : z1.length = MID - a := by rw [HZ2.out.length_eq, List.length_append, HL1.out, HL2.out]; omega
            have HZL := Lib.hid hzl; clear hzl
            refine (HIH.out MID E b (p ++ z1) x2 y2 q wr HBA.out.2 (HK0.out.trans HW4.out) (by simpa using HO4.out) (by rw [List.length_append, HP.out, HZL.out]; omega) (by rw [HL3.out]; omega) (by rw [HL4.out]; omega) (by rw [HL3.out]; omega) (by rw [HL4.out]; omega) HSX2.out HSY2.out HXY2.out HD2.out HD4.out).mono ?_; rintro e w4 ⟨rfl, z2, hz1, hz2, ho, hk⟩
            have HZ3 := Lib.hid hz1; have HZ4 := Lib.hid hz2
            have HO5 := Lib.hid ho
            have HW5 := Lib.hid (HW4.out.trans hk)
            clear hz1 hz2 ho hk HO4 HW4
            go_wp2_with fail
            go_end0
            exact ⟨rfl, z1 ++ z2, St.srt_append.2 ⟨HZ1.out, HZ3.out, fun u hu v hv => HCR.out u (HZ2.out.mem_iff.1 hu) v (HZ4.out.mem_iff.1 hv)⟩, by first | exact (HZ2.out.append HZ4.out).trans HPM.out | simpa using (HZ2.out.append HZ4.out).trans HPM.out, by simpa using HO5.out, HW5.out⟩
        by_cases hv : (a < i) ∧ ¬ (m < E) ∧ ¬ (i < m) ∧ (E < b)
        · obtain ⟨hA, hB, hC, hD⟩ := hv
          try (exfalso; omega)
          all_goals
            have hAi : (a : Int) < i := by omega
            have hBi : ¬ (m : Int) < E := by omega
            have hBj : ¬ (i : Int) < MID := by omega
            have hCi : ¬ (i : Int) < m := by omega
            have hCj : ¬ (MID : Int) < E := by omega
            have hDi : (E : Int) < b := by omega
            obtain rfl : x2 = [] := List.length_eq_zero_iff.1 (by rw [HL3.out]; omega)
            obtain rfl : y1 = [] := List.length_eq_zero_iff.1 (by rw [HL2.out]; omega)
            have HO3 := Lib.hid (show OwnI B wr (.slice (some ⟨g, 0, none⟩) n cap) (p ++ (x1 ++ ([] : List Int)) ++ (([] ++ y2) ++ q)) by simpa using HO2.out)
            have HW3 := HW
            clear HO2 HW
            go_wp2_with fail
            obtain ⟨z1, hz⟩ : ∃ z1, z1 = x1 := ⟨_, rfl⟩
            have HZ1 := Lib.hid (show St.Srt fr z1 by rw [hz]; exact HSX1.out)
            have HZ2 := Lib.hid (show z1.Perm (x1 ++ ([] : List Int)) by rw [hz]; simp)
            have HO4 := Lib.hid (show OwnI B wr (.slice (some ⟨g, 0, none⟩) n cap) (p ++ z1 ++ ((([] : List Int) ++ y2) ++ q)) by rw [hz]; simpa using HO3.out)
            have HW4 := HW3
            clear hz HO3 HW3
            have hzl : z1.length = MID - a := by rw [HZ2.out.length_eq, List.length_append, HL1.out, HL2.out]; omega
            have HZL := Lib.hid hzl; clear hzl
            obtain ⟨z2, hz⟩ : ∃ z2, z2 = y2 := ⟨_, rfl⟩
            have HZ3 := Lib.hid (show St.Srt fr z2 by rw [hz]; exact HSY2.out)
            have HZ4 := Lib.hid (show z2.Perm (([] : List Int) ++ y2) by rw [hz]; simp)
            have HO5 := Lib.hid (show OwnI B wr (.slice (some ⟨g, 0, none⟩) n cap) ((p ++ z1) ++ z2 ++ q) by rw [hz]; simpa using HO4.out)
            have HW5 := HW4
            clear hz HO4 HW4
            go_end0
            exact ⟨rfl, z1 ++ z2, St.srt_append.2 ⟨HZ1.out, HZ3.out, fun u hu v hv => HCR.out u (HZ2.out.mem_iff.1 hu) v (HZ4.out.mem_iff.1 hv)⟩, by first | exact (HZ2.out.append HZ4.out).trans HPM.out | simpa using (HZ2.out.append HZ4.out).trans HPM.out, by simpa using HO5.out, HW5.out⟩
        by_cases hv : ¬ (a < i) ∧ (m < E) ∧ (i < m) ∧ (E < b)
        · obtain ⟨hA, hB, hC, hD⟩ := hv
          try (exfalso; omega)
          all_goals
            have hAi : ¬ (a : Int) < i := by omega
            have hBi : (m : Int) < E := by omega
            have hBj : (i : Int) < MID := by omega
            have hCi : (i : Int) < m := by omega
            have hCj : (MID : Int) < E := by omega
            have hDi : (E : Int) < b := by omega
            obtain rfl : x1 = [] := List.length_eq_zero_iff.1 (by rw [HL1.out]; omega)
            go_wp2_with fail
            refine (CR.out i m E (p ++ ([] : List Int)) x2 y1 (y2 ++ q) wr (by simpa using HO2.out) (by rw [List.length_append, HP.out, HL1.out]; omega) (by rw [List.length_append, List.length_append, HP.out, HL1.out, HL3.out]; omega) (by rw [List.length_append, List.length_append, List.length_append, HP.out, HL1.out, HL3.out, HL2.out]; omega) (by rw [HL3.out]; omega) (by rw [HL2.out]; omega)).mono ?_; rintro e w2 ⟨rfl, ho, hk⟩
            have HO3 := Lib.hid (show OwnI B w2 (.slice (some ⟨g, 0, none⟩) n cap) (p ++ (([] : List Int) ++ y1) ++ ((x2 ++ y2) ++ q)) by simpa using ho)
            have HW3 := Lib.hid (HW.out.trans hk)
            clear ho hk HO2 HW
            go_wp2_with fail
            obtain ⟨z1, hz⟩ : ∃ z1, z1 = y1 := ⟨_, rfl⟩
            have HZ1 := Lib.hid (show St.Srt fr z1 by rw [hz]; exact HSY1.out)
            have HZ2 := Lib.hid (show z1.Perm (([] : List Int) ++ y1) by rw [hz]; simp)
            have HO4 := Lib.hid (show OwnI B w2 (.slice (some ⟨g, 0, none⟩) n cap) (p ++ z1 ++ ((x2 ++ y2) ++ q)) by rw [hz]; simpa using HO3.out)
            have HW4 := HW3
            clear hz HO3 HW3
            have hzl : z1.length = MID - a := by rw [HZ2.out.length_eq, List.length_append, HL1.out, HL2.out]; omega
            have HZL := Lib.hid hzl; clear hzl
            refine (HIH.out MID E b (p ++ z1) x2 y2 q w2 HBA.out.2 (HK0.out.trans HW4.out) (by simpa using HO4.out) (by rw [List.length_append, HP.out, HZL.out]; omega) (by rw [HL3.out]; omega) (by rw [HL4.out]; omega) (by rw [HL3.out]; omega) (by rw [HL4.out]; omega) HSX2.out HSY2.out HXY2.out HD2.out HD4.out).mono ?_; rintro e w4 ⟨rfl, z2, hz1, hz2, ho, hk⟩
            have HZ3 := Lib.hid hz1; have HZ4 := Lib.hid hz2
            have HO5 := Lib.hid ho
            have HW5 := Lib.hid (HW4.out.trans hk)
            clear hz1 hz2 ho hk HO4 HW4
            go_wp2_with fail
            go_end0
            exact ⟨rfl, z1 ++ z2, St.srt_append.2 ⟨HZ1.out, HZ3.out, fun u hu v hv => HCR.out u (HZ2.out.mem_iff.1 hu) v (HZ4.out.mem_iff.1 hv)⟩, by first | exact (HZ2.out.append HZ4.out).trans HPM.out | simpa using (HZ2.out.append HZ4.out).trans HPM.out, by simpa using HO5.out, HW5.out⟩
        by_cases hv : ¬ (a < i) ∧ (m < E) ∧ (i < m) ∧ ¬ (E < b)
        · obtain ⟨hA, hB, hC, hD⟩ := hv
          try (exfalso; omega)
          all_goals
            have hAi : ¬ (a : Int) < i := by omega
            have hBi : (m : Int) < E := by omega
            have hBj : (i : Int) < MID := by omega
            have hCi : (i : Int) < m := by omega
            have hCj : (MID : Int) < E := by omega
            have hDi : ¬ (E : Int) < b := by omega
            obtain rfl : y2 = [] := List.length_eq_zero_iff.1 (by rw [HL4.out]; omega)
            obtain rfl : x1 = [] := List.length_eq_zero_iff.1 (by rw [HL1.out]; omega)
            go_wp2_with fail
            refine (CR.out i m E (p ++ ([] : List Int)) x2 y1 (([] : List Int) ++ q) wr (by simpa using HO2.out) (by rw [List.length_append, HP.out, HL1.out]; omega) (by rw [List.length_append, List.length_append, HP.out, HL1.out, HL3.out]; omega) (by rw [List.length_append, List.length_append, List.length_append, HP.out, HL1.out, HL3.out, HL2.out]; omega) (by rw [HL3.out]; omega) (by rw [HL2.out]; omega)).mono ?_; rintro e w2 ⟨rfl, ho, hk⟩
            have HO3 := Lib.hid (show OwnI B w2 (.slice (some ⟨g, 0, none⟩) n cap) (p ++ (([] : List Int) ++ y1) ++ ((x2 ++ ([] : List Int)) ++ q)) by simpa using ho)
            have HW3 := Lib.hid (HW.out.trans hk)
            clear ho hk HO2 HW
            go_wp2_with fail
            obtain ⟨z1, hz⟩ : ∃ z1, z1 = y1 := ⟨_, rfl⟩
            have HZ1 := Lib.hid (show St.Srt fr z1 by rw [hz]; exact HSY1.out)
            have HZ2 := Lib.hid (show z1.Perm (([] : List Int) ++ y1) by rw [hz]; simp)
            have HO4 := Lib.hid (show OwnI B w2 (.slice (some ⟨g, 0, none⟩) n cap) (p ++ z1 ++ ((x2 ++ ([] : List Int)) ++ q)) by rw [hz]; simpa using HO3.out)
            have HW4 := HW3
            clear hz HO3 HW3
            have hzl : z1.length = MID - a := by rw [HZ2.out.length_eq, List.length_append, HL1.out, HL2.out]; omega
            have HZL := Lib.hid hzl; clear hzl
            obtain ⟨z2, hz⟩ : ∃ z2, z2 = x2 := ⟨_, rfl⟩
            have HZ3 := Lib.hid (show St.Srt fr z2 by rw [hz]; exact HSX2.out)
            have HZ4 := Lib.hid (show z2.Perm (x2 ++ ([] : List Int)) by rw [hz]; simp)
            have HO5 := Lib.hid (show OwnI B w2 (.slice (some ⟨g, 0, none⟩) n cap) ((p ++ z1) ++ z2 ++ q) by rw [hz]; simpa using HO4.out)
            have HW5 := HW4
            clear hz HO4 HW4
            go_end0
            exact ⟨rfl, z1 ++ z2, St.srt_append.2 ⟨HZ1.out, HZ3.out, fun u hu v hv => HCR.out u (HZ2.out.mem_iff.1 hu) v (HZ4.out.mem_iff.1 hv)⟩, by first | exact (HZ2.out.append HZ4.out).trans HPM.out | simpa using (HZ2.out.append HZ4.out).trans HPM.out, by simpa using HO5.out, HW5.out⟩
        omega
  · have hcsi : ¬ (MID : Int) < m := by omega
    have HE1 := Lib.hid (show (a : Int) = lo by have := HLO.out; rw [if_neg hcs] at this; omega)
    have HE2 := Lib.hid (show (m : Int) = hi by have := HHI.out; rw [if_neg hcs] at this; omega)
    go_wp2_with fail
    clear eN eM
    go_loopw [20, 21] (fun iv jv wr => ∃ (i j : Nat), iv = .int .i64 i ∧ jv = .int .i64 j ∧ lo ≤ i ∧ i ≤ j ∧ j ≤ hi ∧ Hid ((i = lo ∨ St.lx fr (x.getD (i - 1 - a) 0) (y.getD (PP - (i - 1) - m) 0)) ∧ (j = hi ∨ St.lx fr (y.getD (PP - j - m) 0) (x.getD (j - a) 0))) ∧ Hid (OwnI B wr (.slice (some ⟨g, 0, none⟩) n cap) L) ∧ Hid (Keeps (fun j => j = g) w wr)) (fun iv jv _ => (intOf jv).toNat - (intOf iv).toNat)
    case atStart => exact ⟨lo, hi, by first | rfl | (rw [HE1.out]), by first | rfl | (rw [HE2.out]), Nat.le_refl _, b2, Nat.le_refl _, Lib.hid ⟨.inl rfl, .inl rfl⟩, HO, HW⟩
    case round =>
      clear HO HW
      obtain ⟨i, j, rfl, rfl, hi1, hij, hj, HR, HO, HW⟩ := hrel
      by_cases hlt : i < j
      · have hlti : (i : Int) < j := by omega
        obtain ⟨H, hH⟩ : ∃ H, (i + j) / 2 = H := ⟨_, rfl⟩
        have hH1 : i ≤ H := by omega
        have hH2 : H < j := by omega
        have eH : ((i : Int) + j) / 2 = H := by omega
        obtain ⟨Q, hQ⟩ : ∃ Q, PP - H = Q := ⟨_, rfl⟩
        have eQ : (PP : Int) - H = Q := by omega
        have hQ1 : m ≤ Q := by omega
        have hQ2 : Q < b := by omega
        have hHm : H < m := by omega
        have hHa : a ≤ H := by omega
        obtain ⟨u, hue⟩ : ∃ u, x.getD (H - a) 0 = u := ⟨_, rfl⟩
        obtain ⟨v, hve⟩ : ∃ v, y.getD (Q - m) 0 = v := ⟨_, rfl⟩
        have c1 := HO.out.int_cell H (by rw [HLN.out]; omega)
        rw [HVX.out H hHa hHm, hue] at c1
        have c2 := HO.out.int_cell Q (by rw [HLN.out]; omega)
        rw [HVY.out Q hQ1 hQ2, hve] at c2
        have hum : u ∈ x := by rw [← hue]; exact mem_getD (by have := HM.out; omega)
        have hvm : v ∈ y := by rw [← hve]; exact mem_getD (by have := HYB.out; omega)
        have huv := HXY.out u hum v hvm
        have hHn : (H : Int) < n := by omega
        have hQn : (Q : Int) < n := by omega
        have wQ : IntKind.i64.wrap (Q : Int) = Q := IntWalk.i64_in _ (by omega)
        have HVE := Lib.hid hve; have HUE := Lib.hid hue; have HQ := Lib.hid hQ
        have CP := Lib.hid (HC.out wr.drew (HK0.out.trans HW.out.drew) v u (HDY.out v hvm) (HDX.out u hum))
        have hcv := St.cmpV_neg (fr v) (fr u)
        obtain ⟨CV, hCV⟩ : ∃ CV, St.cmpV (fr v) (fr u) = CV := ⟨_, rfl⟩
        rw [hCV] at CP hcv
        have HS0 := Lib.hid (show wr.drew.cell? ⟨g, H, none⟩ = some (.int .i64 u) ∧ wr.drew.cell? ⟨g, Q, none⟩ = some (.int .i64 v) from ⟨c1, c2⟩)
        have HS1 := Lib.hid (show wr.drew.drew.cell? ⟨g, H, none⟩ = some (.int .i64 u) ∧ wr.drew.drew.cell? ⟨g, Q, none⟩ = some (.int .i64 v) from ⟨c1, c2⟩)
        have HO5 := Lib.hid (HO.out.drewN 2)
        have HW5 := Lib.hid (HW.out.drewN 2)
        clear hve hue hvm hum hH hCV hQ
        by_cases hcmp : fr v < fr u
        · rw [decide_eq_true hcmp] at hcv
          go_wp2_with fail
          go_region_held3 (fun V => V.cell? ⟨g, H, none⟩ = some (.int .i64 u) ∧ V.cell? ⟨g, Q, none⟩ = some (.int .i64 v)) (first | exact HS0.out | exact HS1.out) (first | (go_at_call 88; (with_reducible refine CP.out.mono ?_; rintro e wx ⟨rfl, rfl⟩)) | fail)
          simp only [Exit.then]
          rename_i hK hHeld
          refine hK _ _ ?_
          clear hK hHeld HS0 HS1 CP c1 c2 hcv HO HW
          change Code.wp Tryz.prog _ _ _ (wr.drewN 2)
          generalize wr.drewN 2 = w6 at *
          have HR2 := Lib.hid (show (i = lo ∨ St.lx fr (x.getD (i - 1 - a) 0) (y.getD (PP - (i - 1) - m) 0)) ∧ (H = hi ∨ St.lx fr (y.getD (PP - H - m) 0) (x.getD (H - a) 0)) from ⟨HR.out.1, .inr (by rw [HQ.out, HVE.out, HUE.out]; exact .inl hcmp)⟩)
          go_wp2_with fail
          go_roundw
          case rel => exact ⟨i, H, by go_num, by go_num, by omega, by omega, by omega, HR2, HO5, HW5⟩
          case measure => simp [intOf] <;> omega
        · rw [decide_eq_false hcmp] at hcv
          have hcl := (St.lx_up huv).2 hcmp
          go_wp2_with fail
          go_region_held3 (fun V => V.cell? ⟨g, H, none⟩ = some (.int .i64 u) ∧ V.cell? ⟨g, Q, none⟩ = some (.int .i64 v)) (first | exact HS0.out | exact HS1.out) (first | (go_at_call 88; (with_reducible refine CP.out.mono ?_; rintro e wx ⟨rfl, rfl⟩)) | fail)
          simp only [Exit.then]
          rename_i hK hHeld
          refine hK _ _ ?_
          clear hK hHeld HS0 HS1 CP c1 c2 hcv HO HW
          change Code.wp Tryz.prog _ _ _ (wr.drewN 2)
          generalize wr.drewN 2 = w6 at *
          have HR2 := Lib.hid (show (H + 1 = lo ∨ St.lx fr (x.getD (H + 1 - 1 - a) 0) (y.getD (PP - (H + 1 - 1) - m) 0)) ∧ (j = hi ∨ St.lx fr (y.getD (PP - j - m) 0) (x.getD (j - a) 0)) from ⟨.inr (by rw [Nat.add_sub_cancel, HQ.out, HVE.out, HUE.out]; exact hcl), HR.out.2⟩)
          go_wp2_with fail
          go_roundw
          case rel => exact ⟨H + 1, j, by go_num, by go_num, by omega, by omega, by omega, HR2, HO5, HW5⟩
          case measure => simp [intOf] <;> omega
      · obtain rfl : i = j := by omega
        have hii : ¬ (i : Int) < i := by omega
        obtain ⟨E, hE⟩ : ∃ E, NN - i = E := ⟨_, rfl⟩
        have eE : (NN : Int) - i = E := by omega
        have hE1 : m ≤ E := by omega
        have hE2 : E ≤ b := by omega
        have hia : a ≤ i := by omega
        have him : i ≤ m := by omega
        have hMI1 : MID + m ≤ i + E := by have := HNN.out; omega
        have hMI2 : i + E ≤ MID + m := by have := HNN.out; omega
        have hxl := HM.out; have hyl := HYB.out
        have HCR := Lib.hid (part_lx HS.out HT.out (i - a) (E - m) (by omega) (by omega) (fun h1 h2 => by
          rcases HR.out.1 with h | h
          · have := HB8.out; omega
          · rw [show PP - (i - 1) - m = E - m by omega, show i - 1 - a = i - a - 1 by omega] at h; exact h) (fun h1 h2 => by
          rcases HR.out.2 with h | h
          · have := HB9.out; omega
          · rw [show PP - i - m = E - m - 1 by omega] at h; exact h))
        have hO2 := HO.out
        have hsx := HS.out; have hsy := HT.out
        obtain ⟨x1, x2, rfl, lx1⟩ := St.cut_le x (i - a) (by omega)
        obtain ⟨y1, y2, rfl, ly1⟩ := St.cut_le y (E - m) (by omega)
        rw [List.take_left' lx1, List.drop_left' lx1, List.take_left' ly1, List.drop_left' ly1] at HCR
        rw [← HL.out] at hO2
        obtain ⟨sx1, sx2, sx3⟩ := St.srt_append.1 hsx
        obtain ⟨sy1, sy2, sy3⟩ := St.srt_append.1 hsy
        simp only [List.length_append] at hxl hyl
        have HO2 := Lib.hid hO2
        have HL1 := Lib.hid lx1; have HL2 := Lib.hid ly1; have HL3 := Lib.hid (show x2.length = m - i by omega); have HL4 := Lib.hid (show y2.length = b - E by omega)
        have HSX1 := Lib.hid sx1; have HSX2 := Lib.hid sx2; have HSY1 := Lib.hid sy1; have HSY2 := Lib.hid sy2
        have hx2 := HX2.out; have hy2 := HY2.out
        simp only [List.length_append] at hx2 hy2
        have HBA := Lib.hid (show MID - a < b - a ∧ b - MID < b - a by omega)
        clear HO hO2 hsx hsy lx1 ly1 sx1 sx2 sx3 sy1 sy2 sy3 HR HVX HVY HLN HL hE HX2 HY2 HNN HPP HB8 HB9 HLO HHI
        have HXY1 := Lib.hid (show ∀ u ∈ x1, ∀ v ∈ y1, u < v from fun u hu v hv => HXY.out u (by simp [hu]) v (by simp [hv]))
        have HXY2 := Lib.hid (show ∀ u ∈ x2, ∀ v ∈ y2, u < v from fun u hu v hv => HXY.out u (by simp [hu]) v (by simp [hv]))
        have HD1 := Lib.hid (show ∀ u ∈ x1, D u from fun u hu => HDX.out u (by simp [hu]))
        have HD2 := Lib.hid (show ∀ u ∈ x2, D u from fun u hu => HDX.out u (by simp [hu]))
        have HD3 := Lib.hid (show ∀ u ∈ y1, D u from fun u hu => HDY.out u (by simp [hu]))
        have HD4 := Lib.hid (show ∀ u ∈ y2, D u from fun u hu => HDY.out u (by simp [hu]))
        have HPM := Lib.hid (show ((x1 ++ y1) ++ (x2 ++ y2)).Perm ((x1 ++ x2) ++ (y1 ++ y2)) from by
          simp only [List.append_assoc]
          refine List.Perm.append_left x1 ?_
          rw [← List.append_assoc y1, ← List.append_assoc x2]
          exact List.Perm.append_right y2 List.perm_append_comm)
        by_cases hv : (a < i) ∧ (m < E) ∧ (i < m) ∧ (E < b)
        · obtain ⟨hA, hB, hC, hD⟩ := hv
          try (exfalso; omega)
          all_goals
            have hAi : (a : Int) < i := by omega
            have hBi : (m : Int) < E := by omega
            have hBj : (i : Int) < MID := by omega
            have hCi : (i : Int) < m := by omega
            have hCj : (MID : Int) < E := by omega
            have hDi : (E : Int) < b := by omega
            go_wp2_with fail
            refine (CR.out i m E (p ++ x1) x2 y1 (y2 ++ q) wr (by simpa using HO2.out) (by rw [List.length_append, HP.out, HL1.out]; omega) (by rw [List.length_append, List.length_append, HP.out, HL1.out, HL3.out]; omega) (by rw [List.length_append, List.length_append, List.length_append, HP.out, HL1.out, HL3.out, HL2.out]; omega) (by rw [HL3.out]; omega) (by rw [HL2.out]; omega)).mono ?_; rintro e w2 ⟨rfl, ho, hk⟩
            have HO3 := Lib.hid (show OwnI B w2 (.slice (some ⟨g, 0, none⟩) n cap) (p ++ (x1 ++ y1) ++ ((x2 ++ y2) ++ q)) by simpa using ho)
            have HW3 := Lib.hid (HW.out.trans hk)
            clear ho hk HO2 HW
            go_wp2_with fail
            refine (HIH.out a i MID p x1 y1 ((x2 ++ y2) ++ q) w2 HBA.out.1 (HK0.out.trans HW3.out) HO3.out HP.out (by rw [HL1.out]; omega) (by rw [HL2.out]; omega) (by rw [HL1.out]; omega) (by rw [HL2.out]; omega) HSX1.out HSY1.out HXY1.out HD1.out HD3.out).mono ?_; rintro e w3 ⟨rfl, z1, hz1, hz2, ho, hk⟩
            have HZ1 := Lib.hid hz1; have HZ2 := Lib.hid hz2
            have HO4 := Lib.hid ho
            have HW4 := Lib.hid (HW3.out.trans hk)
            clear hz1 hz2 ho hk HO3 HW3
            go_wp2_with fail
            have hzl : z1.length = MID - a := by rw [HZ2.out.length_eq, List.length_append, HL1.out, HL2.out]; omega
            have HZL := Lib.hid hzl; clear hzl
            refine (HIH.out MID E b (p ++ z1) x2 y2 q w3 HBA.out.2 (HK0.out.trans HW4.out) (by simpa using HO4.out) (by rw [List.length_append, HP.out, HZL.out]; omega) (by rw [HL3.out]; omega) (by rw [HL4.out]; omega) (by rw [HL3.out]; omega) (by rw [HL4.out]; omega) HSX2.out HSY2.out HXY2.out HD2.out HD4.out).mono ?_; rintro e w4 ⟨rfl, z2, hz1, hz2, ho, hk⟩
            have HZ3 := Lib.hid hz1; have HZ4 := Lib.hid hz2
            have HO5 := Lib.hid ho
            have HW5 := Lib.hid (HW4.out.trans hk)
            clear hz1 hz2 ho hk HO4 HW4
            go_wp2_with fail
            go_end0
            exact ⟨rfl, z1 ++ z2, St.srt_append.2 ⟨HZ1.out, HZ3.out, fun u hu v hv => HCR.out u (HZ2.out.mem_iff.1 hu) v (HZ4.out.mem_iff.1 hv)⟩, by first | exact (HZ2.out.append HZ4.out).trans HPM.out | simpa using (HZ2.out.append HZ4.out).trans HPM.out, by simpa using HO5.out, HW5.out⟩
        by_cases hv : (a < i) ∧ (m < E) ∧ (i < m) ∧ ¬ (E < b)
        · obtain ⟨hA, hB, hC, hD⟩ := hv
          try (exfalso; omega)
          all_goals
            have hAi : (a : Int) < i := by omega
            have hBi : (m : Int) < E := by omega
            have hBj : (i : Int) < MID := by omega
            have hCi : (i : Int) < m := by omega
            have hCj : (MID : Int) < E := by omega
            have hDi : ¬ (E : Int) < b := by omega
            obtain rfl : y2 = [] := List.length_eq_zero_iff.1 (by rw [HL4.out]; omega)
            go_wp2_with fail
            refine (CR.out i m E (p ++ x1) x2 y1 (([] : List Int) ++ q) wr (by simpa using HO2.out) (by rw [List.length_append, HP.out, HL1.out]; omega) (by rw [List.length_append, List.length_append, HP.out, HL1.out, HL3.out]; omega) (by rw [List.length_append, List.length_append, List.length_append, HP.out, HL1.out, HL3.out, HL2.out]; omega) (by rw [HL3.out]; omega) (by rw [HL2.out]; omega)).mono ?_; rintro e w2 ⟨rfl, ho, hk⟩
            have HO3 := Lib.hid (show OwnI B w2 (.slice (some ⟨g, 0, none⟩) n cap) (p ++ (x1 ++ y1) ++ ((x2 ++ ([] : List Int)) ++ q)) by simpa using ho)
            have HW3 := Lib.hid (HW.out.trans hk)
            clear ho hk HO2 HW
            go_wp2_with fail
            refine (HIH.out a i MID p x1 y1 ((x2 ++ ([] : List Int)) ++ q) w2 HBA.out.1 (HK0.out.trans HW3.out) HO3.out HP.out (by rw [HL1.out]; omega) (by rw [HL2.out]; omega) (by rw [HL1.out]; omega) (by rw [HL2.out]; omega) HSX1.out HSY1.out HXY1.out HD1.out HD3.out).mono ?_; rintro e w3 ⟨rfl, z1, hz1, hz2, ho, hk⟩
            have HZ1 := Lib.hid hz1; have HZ2 := Lib.hid hz2
            have HO4 := Lib.hid ho
            have HW4 := Lib.hid (HW3.out.trans hk)
            clear hz1 hz2 ho hk HO3 HW3
            go_wp2_with fail
            have hzl : z1.length = MID - a := by rw [HZ2.out.length_eq, List.length_append, HL1.out, HL2.out]; omega
            have HZL := Lib.hid hzl; clear hzl
            obtain ⟨z2, hz⟩ : ∃ z2, z2 = x2 := ⟨_, rfl⟩
            have HZ3 := Lib.hid (show St.Srt fr z2 by rw [hz]; exact HSX2.out)
            have HZ4 := Lib.hid (show z2.Perm (x2 ++ ([] : List Int)) by rw [hz]; simp)
            have HO5 := Lib.hid (show OwnI B w3 (.slice (some ⟨g, 0, none⟩) n cap) ((p ++ z1) ++ z2 ++ q) by rw [hz]; simpa using HO4.out)
            have HW5 := HW4
            clear hz HO4 HW4
            go_end0
            exact ⟨rfl, z1 ++ z2, St.srt_append.2 ⟨HZ1.out, HZ3.out, fun u hu v hv => HCR.out u (HZ2.out.mem_iff.1 hu) v (HZ4.out.mem_iff.1 hv)⟩, by first | exact (HZ2.out.append HZ4.out).trans HPM.out | simpa using (HZ2.out.append HZ4.out).trans HPM.out, by simpa using HO5.out, HW5.out⟩
        by_cases hv : (a < i) ∧ (m < E) ∧ ¬ (i < m) ∧ (E < b)
        · obtain ⟨hA, hB, hC, hD⟩ := hv
          try (exfalso; omega)
          all_goals
            have hAi : (a : Int) < i := by omega
            have hBi : (m : Int) < E := by omega
            have hBj : (i : Int) < MID := by omega
            have hCi : ¬ (i : Int) < m := by omega
            have hCj : ¬ (MID : Int) < E := by omega
            have hDi : (E : Int) < b := by omega
            obtain rfl : x2 = [] := List.length_eq_zero_iff.1 (by rw [HL3.out]; omega)
            have HO3 := Lib.hid (show OwnI B wr (.slice (some ⟨g, 0, none⟩) n cap) (p ++ (x1 ++ y1) ++ (([] ++ y2) ++ q)) by simpa using HO2.out)
            have HW3 := HW
            clear HO2 HW
            go_wp2_with fail
            refine (HIH.out a i MID p x1 y1 ((([] : List Int) ++ y2) ++ q) wr HBA.out.1 (HK0.out.trans HW3.out) HO3.out HP.out (by rw [HL1.out]; omega) (by rw [HL2.out]; omega) (by rw [HL1.out]; omega) (by rw [HL2.out]; omega) HSX1.out HSY1.out HXY1.out HD1.out HD3.out).mono ?_; rintro e w3 ⟨rfl, z1, hz1, hz2, ho, hk⟩
            have HZ1 := Lib.hid hz1; have HZ2 := Lib.hid hz2
            have HO4 := Lib.hid ho
            have HW4 := Lib.hid (HW3.out.trans hk)
            clear hz1 hz2 ho hk HO3 HW3
            go_wp2_with fail
            have hzl : z1.length = MID - a := by rw [HZ2.out.length_eq, List.length_append, HL1.out, HL2.out]; omega
            have HZL := Lib.hid hzl; clear hzl
            obtain ⟨z2, hz⟩ : ∃ z2, z2 = y2 := ⟨_, rfl⟩
            have HZ3 := Lib.hid (show St.Srt fr z2 by rw [hz]; exact HSY2.out)
            have HZ4 := Lib.hid (show z2.Perm (([] : List Int) ++ y2) by rw [hz]; simp)
            have HO5 := Lib.hid (show OwnI B w3 (.slice (some ⟨g, 0, none⟩) n cap) ((p ++ z1) ++ z2 ++ q) by rw [hz]; simpa using HO4.out)
            have HW5 := HW4
            clear hz HO4 HW4
            go_end0
            exact ⟨rfl, z1 ++ z2, St.srt_append.2 ⟨HZ1.out, HZ3.out, fun u hu v hv => HCR.out u (HZ2.out.mem_iff.1 hu) v (HZ4.out.mem_iff.1 hv)⟩, by first | exact (HZ2.out.append HZ4.out).trans HPM.out | simpa using (HZ2.out.append HZ4.out).trans HPM.out, by simpa using HO5.out, HW5.out⟩
        by_cases hv : (a < i) ∧ ¬ (m < E) ∧ (i < m) ∧ (E < b)
        · obtain ⟨hA, hB, hC, hD⟩ := hv
          try (exfalso; omega)
          all_goals
            have hAi : (a : Int) < i := by omega
            have hBi : ¬ (m : Int) < E := by omega
            have hBj : ¬ (i : Int) < MID := by omega
            have hCi : (i : Int) < m := by omega
            have hCj : (MID : Int) < E := by omega
            have hDi : (E : Int) < b := by omega
            obtain rfl : y1 = [] := List.length_eq_zero_iff.1 (by rw [HL2.out]; omega)
            have HO3 := Lib.hid (show OwnI B wr (.slice (some ⟨g, 0, none⟩) n cap) (p ++ (x1 ++ []) ++ ((x2 ++ y2) ++ q)) by simpa using HO2.out)
            have HW3 := HW
            clear HO2 HW
            go_wp2_with fail
            obtain ⟨z1, hz⟩ : ∃ z1, z1 = x1 := ⟨_, rfl⟩
            have HZ1 := Lib.hid (show St.Srt fr z1 by rw [hz]; exact HSX1.out)
            have HZ2 := Lib.hid (show z1.Perm (x1 ++ ([] : List Int)) by rw [hz]; simp)
            have HO4 := Lib.hid (show OwnI B wr (.slice (some ⟨g, 0, none⟩) n cap) (p ++ z1 ++ ((x2 ++ y2) ++ q)) by rw [hz]; simpa using HO3.out)
            have HW4 := HW3
            clear hz HO3 HW3
            have hzl : z1.length = MID - a := by rw [HZ2.out.length_eq, List.length_append, HL1.out, HL2.out]; omega
            have HZL := Lib.hid hzl; clear hzl
            refine (HIH.out MID E b (p ++ z1) x2 y2 q wr HBA.out.2 (HK0.out.trans HW4.out) (by simpa using HO4.out) (by rw [List.length_append, HP.out, HZL.out]; omega) (by rw [HL3.out]; omega) (by rw [HL4.out]; omega) (by rw [HL3.out]; omega) (by rw [HL4.out]; omega) HSX2.out HSY2.out HXY2.out HD2.out HD4.out).mono ?_; rintro e w4 ⟨rfl, z2, hz1, hz2, ho, hk⟩
            have HZ3 := Lib.hid hz1; have HZ4 := Lib.hid hz2
            have HO5 := Lib.hid ho
            have HW5 := Lib.hid (HW4.out.trans hk)
            clear hz1 hz2 ho hk HO4 HW4
            go_wp2_with fail
            go_end0
            exact ⟨rfl, z1 ++ z2, St.srt_append.2 ⟨HZ1.out, HZ3.out, fun u hu v hv => HCR.out u (HZ2.out.mem_iff.1 hu) v (HZ4.out.mem_iff.1 hv)⟩, by first | exact (HZ2.out.append HZ4.out).trans HPM.out | simpa using (HZ2.out.append HZ4.out).trans HPM.out, by simpa using HO5.out, HW5.out⟩
        by_cases hv : (a < i) ∧ ¬ (m < E) ∧ ¬ (i < m) ∧ (E < b)
        · obtain ⟨hA, hB, hC, hD⟩ := hv
          try (exfalso; omega)
          all_goals
            have hAi : (a : Int) < i := by omega
            have hBi : ¬ (m : Int) < E := by omega
            have hBj : ¬ (i : Int) < MID := by omega
            have hCi : ¬ (i : Int) < m := by omega
            have hCj : ¬ (MID : Int) < E := by omega
            have hDi : (E : Int) < b := by omega
            obtain rfl : x2 = [] := List.length_eq_zero_iff.1 (by rw [HL3.out]; omega)
            obtain rfl : y1 = [] := List.length_eq_zero_iff.1 (by rw [HL2.out]; omega)
            have HO3 := Lib.hid (show OwnI B wr (.slice (some ⟨g, 0, none⟩) n cap) (p ++ (x1 ++ ([] : List Int)) ++ (([] ++ y2) ++ q)) by simpa using HO2.out)
            have HW3 := HW
            clear HO2 HW
            go_wp2_with fail
            obtain ⟨z1, hz⟩ : ∃ z1, z1 = x1 := ⟨_, rfl⟩
            have HZ1 := Lib.hid (show St.Srt fr z1 by rw [hz]; exact HSX1.out)
            have HZ2 := Lib.hid (show z1.Perm (x1 ++ ([] : List Int)) by rw [hz]; simp)
            have HO4 := Lib.hid (show OwnI B wr (.slice (some ⟨g, 0, none⟩) n cap) (p ++ z1 ++ ((([] : List Int) ++ y2) ++ q)) by rw [hz]; simpa using HO3.out)
            have HW4 := HW3
            clear hz HO3 HW3
            have hzl : z1.length = MID - a := by rw [HZ2.out.length_eq, List.length_append, HL1.out, HL2.out]; omega
            have HZL := Lib.hid hzl; clear hzl
            obtain ⟨z2, hz⟩ : ∃ z2, z2 = y2 := ⟨_, rfl⟩
            have HZ3 := Lib.hid (show St.Srt fr z2 by rw [hz]; exact HSY2.out)
            have HZ4 := Lib.hid (show z2.Perm (([] : List Int) ++ y2) by rw [hz]; simp)
            have HO5 := Lib.hid (show OwnI B wr (.slice (some ⟨g, 0, none⟩) n cap) ((p ++ z1) ++ z2 ++ q) by rw [hz]; simpa using HO4.out)
            have HW5 := HW4
            clear hz HO4 HW4
            go_end0
            exact ⟨rfl, z1 ++ z2, St.srt_append.2 ⟨HZ1.out, HZ3.out, fun u hu v hv => HCR.out u (HZ2.out.mem_iff.1 hu) v (HZ4.out.mem_iff.1 hv)⟩, by first | exact (HZ2.out.append HZ4.out).trans HPM.out | simpa using (HZ2.out.append HZ4.out).trans HPM.out, by simpa using HO5.out, HW5.out⟩
        by_cases hv : ¬ (a < i) ∧ (m < E) ∧ (i < m) ∧ (E < b)
        · obtain ⟨hA, hB, hC, hD⟩ := hv
          try (exfalso; omega)
          all_goals
            have hAi : ¬ (a : Int) < i := by omega
            have hBi : (m : Int) < E := by omega
            have hBj : (i : Int) < MID := by omega
            have hCi : (i : Int) < m := by omega
            have hCj : (MID : Int) < E := by omega
            have hDi : (E : Int) < b := by omega
            obtain rfl : x1 = [] := List.length_eq_zero_iff.1 (by rw [HL1.out]; omega)
            go_wp2_with fail
            refine (CR.out i m E (p ++ ([] : List Int)) x2 y1 (y2 ++ q) wr (by simpa using HO2.out) (by rw [List.length_append, HP.out, HL1.out]; omega) (by rw [List.length_append, List.length_append, HP.out, HL1.out, HL3.out]; omega) (by rw [List.length_append, List.length_append, List.length_append, HP.out, HL1.out, HL3.out, HL2.out]; omega) (by rw [HL3.out]; omega) (by rw [HL2.out]; omega)).mono ?_; rintro e w2 ⟨rfl, ho, hk⟩
            have HO3 := Lib.hid (show OwnI B w2 (.slice (some ⟨g, 0, none⟩) n cap) (p ++ (([] : List Int) ++ y1) ++ ((x2 ++ y2) ++ q)) by simpa using ho)
            have HW3 := Lib.hid (HW.out.trans hk)
            clear ho hk HO2 HW
            go_wp2_with fail
            obtain ⟨z1, hz⟩ : ∃ z1, z1 = y1 := ⟨_, rfl⟩
            have HZ1 := Lib.hid (show St.Srt fr z1 by rw [hz]; exact HSY1.out)
            have HZ2 := Lib.hid (show z1.Perm (([] : List Int) ++ y1) by rw [hz]; simp)
            have HO4 := Lib.hid (show OwnI B w2 (.slice (some ⟨g, 0, none⟩) n cap) (p ++ z1 ++ ((x2 ++ y2) ++ q)) by rw [hz]; simpa using HO3.out)
            have HW4 := HW3
            clear hz HO3 HW3
            have hzl : z1.length = MID - a := by rw [HZ2.out.length_eq, List.length_append, HL1.out, HL2.out]; omega
            have HZL := Lib.hid hzl; clear hzl
            refine (HIH.out MID E b (p ++ z1) x2 y2 q w2 HBA.out.2 (HK0.out.trans HW4.out) (by simpa using HO4.out) (by rw [List.length_append, HP.out, HZL.out]; omega) (by rw [HL3.out]; omega) (by rw [HL4.out]; omega) (by rw [HL3.out]; omega) (by rw [HL4.out]; omega) HSX2.out HSY2.out HXY2.out HD2.out HD4.out).mono ?_; rintro e w4 ⟨rfl, z2, hz1, hz2, ho, hk⟩
            have HZ3 := Lib.hid hz1; have HZ4 := Lib.hid hz2
            have HO5 := Lib.hid ho
            have HW5 := Lib.hid (HW4.out.trans hk)
            clear hz1 hz2 ho hk HO4 HW4
            go_wp2_with fail
            go_end0
            exact ⟨rfl, z1 ++ z2, St.srt_append.2 ⟨HZ1.out, HZ3.out, fun u hu v hv => HCR.out u (HZ2.out.mem_iff.1 hu) v (HZ4.out.mem_iff.1 hv)⟩, by first | exact (HZ2.out.append HZ4.out).trans HPM.out | simpa using (HZ2.out.append HZ4.out).trans HPM.out, by simpa using HO5.out, HW5.out⟩
        by_cases hv : ¬ (a < i) ∧ (m < E) ∧ (i < m) ∧ ¬ (E < b)
        · obtain ⟨hA, hB, hC, hD⟩ := hv
          try (exfalso; omega)
          all_goals
            have hAi : ¬ (a : Int) < i := by omega
            have hBi : (m : Int) < E := by omega
            have hBj : (i : Int) < MID := by omega
            have hCi : (i : Int) < m := by omega
            have hCj : (MID : Int) < E := by omega
            have hDi : ¬ (E : Int) < b := by omega
            obtain rfl : y2 = [] := List.length_eq_zero_iff.1 (by rw [HL4.out]; omega)
            obtain rfl : x1 = [] := List.length_eq_zero_iff.1 (by rw [HL1.out]; omega)
            go_wp2_with fail
            refine (CR.out i m E (p ++ ([] : List Int)) x2 y1 (([] : List Int) ++ q) wr (by simpa using HO2.out) (by rw [List.length_append, HP.out, HL1.out]; omega) (by rw [List.length_append, List.length_append, HP.out, HL1.out, HL3.out]; omega) (by rw [List.length_append, List.length_append, List.length_append, HP.out, HL1.out, HL3.out, HL2.out]; omega) (by rw [HL3.out]; omega) (by rw [HL2.out]; omega)).mono ?_; rintro e w2 ⟨rfl, ho, hk⟩
            have HO3 := Lib.hid (show OwnI B w2 (.slice (some ⟨g, 0, none⟩) n cap) (p ++ (([] : List Int) ++ y1) ++ ((x2 ++ ([] : List Int)) ++ q)) by simpa using ho)
            have HW3 := Lib.hid (HW.out.trans hk)
            clear ho hk HO2 HW
            go_wp2_with fail
            obtain ⟨z1, hz⟩ : ∃ z1, z1 = y1 := ⟨_, rfl⟩
            have HZ1 := Lib.hid (show St.Srt fr z1 by rw [hz]; exact HSY1.out)
            have HZ2 := Lib.hid (show z1.Perm (([] : List Int) ++ y1) by rw [hz]; simp)
            have HO4 := Lib.hid (show OwnI B w2 (.slice (some ⟨g, 0, none⟩) n cap) (p ++ z1 ++ ((x2 ++ ([] : List Int)) ++ q)) by rw [hz]; simpa using HO3.out)
            have HW4 := HW3
            clear hz HO3 HW3
            have hzl : z1.length = MID - a := by rw [HZ2.out.length_eq, List.length_append, HL1.out, HL2.out]; omega
            have HZL := Lib.hid hzl; clear hzl
            obtain ⟨z2, hz⟩ : ∃ z2, z2 = x2 := ⟨_, rfl⟩
            have HZ3 := Lib.hid (show St.Srt fr z2 by rw [hz]; exact HSX2.out)
            have HZ4 := Lib.hid (show z2.Perm (x2 ++ ([] : List Int)) by rw [hz]; simp)
            have HO5 := Lib.hid (show OwnI B w2 (.slice (some ⟨g, 0, none⟩) n cap) ((p ++ z1) ++ z2 ++ q) by rw [hz]; simpa using HO4.out)
            have HW5 := HW4
            clear hz HO4 HW4
            go_end0
            exact ⟨rfl, z1 ++ z2, St.srt_append.2 ⟨HZ1.out, HZ3.out, fun u hu v hv => HCR.out u (HZ2.out.mem_iff.1 hu) v (HZ4.out.mem_iff.1 hv)⟩, by first | exact (HZ2.out.append HZ4.out).trans HPM.out | simpa using (HZ2.out.append HZ4.out).trans HPM.out, by simpa using HO5.out, HW5.out⟩
        omega
end Go.Proofs.YtipcdkemokkdfaaGreat
