import Derived.Test.YtmhjmoeeahepaaaGreatPP02
import Derived.BigQuiet
import Derived.Deep.QuietTactic
/- The library's stable sort: insertion. -/
namespace Go.Proofs.YtmhjmoeeahepaaaGreat
open Go.ChangeShapes Go.WideShapes Go.ChangeAt Go.RowKit
set_option linter.unusedVariables false
set_option linter.unusedSimpArgs false
set_option maxRecDepth 100000
/-- What the closure says, wherever nothing but the row has turned. -/
def CmpC (w0 : World) (g bx : Nat) (fr : Int → Int) (D : Int → Prop) : Prop := ∀ W, Keeps (fun k => k = g) w0 W → ∀ x y, D x → D y → Calls Tryz.prog 94 #[.int .i64 x, .int .i64 y, .pointer (some ⟨bx, 0, none⟩)] W fun e w' => e = .returned (.int .i64 (St.cmpV (fr x) (fr y))) ∧ w' = W.drew
abbrev FV (bx : Nat) : Value := .func (Fn.func 94) #[] #[.pointer (some ⟨bx, 0, none⟩)]
def Inn (fr : Int → Int) (a i : Nat) (u : Int) (t : List Int) (p R L : List Int) (j : Nat) : Prop := ∃ s1 s2, t = s1 ++ s2 ∧ j = a + s1.length ∧ (∀ v ∈ s2, St.lx fr u v) ∧ L = p ++ s1 ++ u :: s2 ++ R
theorem ins_end {fr : Int → Int} {s1 s2 : List Int} {u : Int} (ht : St.Srt fr (s1 ++ s2)) (h2 : ∀ v ∈ s2, St.lx fr u v) (h1 : ∀ s v, s1 = s ++ [v] → St.lx fr v u) : St.Srt fr (s1 ++ u :: s2) := by
  obtain ⟨a, b, c⟩ := St.srt_append.1 ht
  refine St.srt_append.2 ⟨a, List.pairwise_cons.2 ⟨h2, b⟩, fun x hx y hy => ?_⟩
  rcases List.mem_cons.1 hy with rfl | hy
  · rcases List.eq_nil_or_concat s1 with rfl | ⟨s, v, rfl⟩
    · simp at hx
    · rw [List.concat_eq_append] at *
      have hv := h1 s v rfl
      rcases List.mem_append.1 hx with hx | hx
      · exact St.lx_trans ((St.srt_append.1 a).2.2 x hx v (by simp)) hv
      · obtain rfl : x = v := by simpa using hx
        exact hv
  · exact c x hx y hy
theorem ins_swap (p s R : List Int) (u v : Int) (s2 : List Int) (J : Nat) (hJ : J = (p ++ s).length + 1) :
    ((p ++ (s ++ [v]) ++ u :: s2 ++ R).set J v).set (J - 1) u = p ++ s ++ u :: (v :: s2) ++ R ∧ (p ++ (s ++ [v]) ++ u :: s2 ++ R).getD J 0 = u ∧ (p ++ (s ++ [v]) ++ u :: s2 ++ R).getD (J - 1) 0 = v := by
  subst hJ
  have e : p ++ (s ++ [v]) ++ u :: s2 ++ R = (p ++ s) ++ v :: ([] ++ u :: (s2 ++ R)) := by simp
  have h1 := St.set_two (p ++ s) [] (s2 ++ R) v u
  have h2 := St.get_far (p ++ s) [] (s2 ++ R) v u
  have h3 := St.get_mid (p ++ s) ([] ++ u :: (s2 ++ R)) v
  rw [List.length_nil, Nat.add_zero] at h1 h2
  rw [e, Nat.add_sub_cancel]
  refine ⟨?_, h2, h3⟩
  rw [List.set_comm _ _ (by omega), h1]; simp
set_option maxHeartbeats 3200000 in
theorem sInsert (bx B g n cap a b : Nat) (fr : Int → Int) (D : Int → Prop) (p s q : List Int) (w0 w : World) (CC : CmpC w0 g bx fr D) (hK : Keeps (fun j => j = g) w0 w) (hO : OwnI B w (.slice (some ⟨g, 0, none⟩) n cap) (p ++ s ++ q)) (ha : p.length = a) (hb : (p ++ s).length = b) (hs : s.Pairwise (· < ·)) (hD : ∀ u ∈ s, D u) (hn : n ≤ 1000000) :
    Calls Tryz.prog 128 #[.slice (some ⟨g, 0, none⟩) n cap, .int .i64 a, .int .i64 b, FV bx] w fun e w' => e = .returned (.tuple #[]) ∧ OwnI B w' (.slice (some ⟨g, 0, none⟩) n cap) (p ++ St.sortF fr s ++ q) ∧ Keeps (fun j => j = g) w w' := by
  have hN := own_n hO
  simp only [List.length_append] at hN hb
  have hbn : b ≤ n := by omega
  have hab : a ≤ b := by omega
  have HO := Lib.hid hO
  have HC := Lib.hid CC; have HK0 := Lib.hid hK
  have HP := Lib.hid ha; have HS := Lib.hid (show s.length = b - a by omega); have HD := Lib.hid hD; have HAS := Lib.hid hs
  have HW := Lib.hid (Keeps.refl (fun j => j = g) w)
  clear hO ha hb hs hD CC hK hN
  go_enter Tryz.func128, Tryz.ntmps128
  go_wp2_with fail
  go_loopw [8] (fun iv wr => ∃ (i : Nat) (t : List Int), a + 1 ≤ i ∧ (i ≤ b ∨ i = a + 1) ∧ iv = .int .i64 i ∧ Hid (t.Perm (s.take (i - a)) ∧ St.Srt fr t) ∧ Hid (OwnI B wr (.slice (some ⟨g, 0, none⟩) n cap) (p ++ t ++ s.drop (i - a) ++ q)) ∧ Hid (Keeps (fun j => j = g) w wr)) (fun iv _ => b - (intOf iv).toNat)
  case atStart =>
    refine ⟨a + 1, s.take 1, Nat.le_refl _, .inr rfl, by go_num, Lib.hid ⟨?_, ?_⟩, Lib.hid ?_, HW⟩
    · rw [Nat.add_sub_cancel_left]
    · cases s with
      | nil => simp [St.Srt]
      | cons x s => simp [St.Srt]
    · rw [Nat.add_sub_cancel_left, List.append_assoc p, List.take_append_drop]; exact HO.out
  case round =>
    clear HO HW
    obtain ⟨i, t, hi1, hi2, rfl, HT, HO, HW⟩ := hrel
    by_cases hlt : i < b
    · have hii : (i : Int) < b := by omega
      have his : i - a < s.length := by rw [HS.out]; omega
      obtain ⟨u, hu⟩ : ∃ u, s[i - a] = u := ⟨_, rfl⟩
      have es : s.drop (i - a) = u :: s.drop (i + 1 - a) := by rw [List.drop_eq_getElem_cons his, hu, show i - a + 1 = i + 1 - a by omega]
      have ts : s.take (i + 1 - a) = s.take (i - a) ++ [u] := by rw [show i + 1 - a = i - a + 1 by omega, List.take_succ_eq_append_getElem his, hu]
      have hmu : u ∈ s := by rw [← hu]; exact List.getElem_mem his
      have hDu := HD.out u hmu
      have HDt := Lib.hid (show ∀ v ∈ t, D v ∧ v < u from fun v hv => by
        have hv' : v ∈ s.take (i - a) := HT.out.1.mem_iff.1 hv
        refine ⟨HD.out v (List.mem_of_mem_take hv'), ?_⟩
        have h := HAS.out
        rw [← List.take_append_drop (i - a) s, es] at h
        exact (List.pairwise_append.1 h).2.2 v hv' u (by simp))
      have htl : t.length = i - a := by rw [HT.out.1.length_eq, List.length_take_of_le (Nat.le_of_lt his)]
      obtain ⟨R, hR⟩ : ∃ R, s.drop (i + 1 - a) ++ q = R := ⟨_, rfl⟩
      have HO1 := HO.out
      rw [es, List.append_assoc _ _ q, List.cons_append, hR] at HO1
      have hpl := HP.out
      have HI0 := Lib.hid (show ∃ L, Inn fr a i u t p R L i ∧ OwnI B wr (.slice (some ⟨g, 0, none⟩) n cap) L from ⟨p ++ t ++ u :: R, ⟨t, [], by simp, by omega, by simp, by simp⟩, HO1⟩)
      have HTS := Lib.hid ts
      have HR := Lib.hid hR
      clear es ts HO1 hR hu hmu his hpl HO
      obtain ⟨wo, hwo⟩ : ∃ wo, wo = wr := ⟨_, rfl⟩
      go_wp2_with fail
      go_loopw [9] (fun jv wr => ∃ (j : Nat), a ≤ j ∧ j ≤ i ∧ jv = .int .i64 j ∧ Hid (∃ L, Inn fr a i u t p R L j ∧ OwnI B wr (.slice (some ⟨g, 0, none⟩) n cap) L) ∧ Hid (Keeps (fun j => j = g) w wr)) (fun jv _ => (intOf jv).toNat)
      case atStart => exact ⟨i, by omega, Nat.le_refl _, rfl, HI0, HW⟩
      case round =>
        clear HI0 HW hwo
        obtain ⟨j, hj1, hj2, rfl, HI, HW⟩ := hrel
        obtain ⟨L, ⟨s1, s2, h1, h2, h3, h4⟩, hO⟩ := HI.out
        rcases List.eq_nil_or_concat s1 with rfl | ⟨s1', v, rfl⟩
        · have hja : j = a := by simpa using h2
          have hjd : decide ((a : Int) < j) = false := decide_eq_false (by omega)
          have hjd' : decide (a < j) = false := decide_eq_false (by omega)
          have HE := Lib.hid (show (([] : List Int) ++ u :: s2).Perm (s.take (i + 1 - a)) ∧ St.Srt fr ([] ++ u :: s2) from by
            refine ⟨?_, ins_end (h1 ▸ HT.out.2) h3 (fun s v h => by simp at h)⟩
            rw [HTS.out]
            have := HT.out.1
            rw [h1] at this
            exact (List.Perm.cons u (by simpa using this)).trans (List.perm_append_comm (l₁ := [u])))
          have HO2 := Lib.hid (show OwnI B wr (.slice (some ⟨g, 0, none⟩) n cap) (p ++ ([] ++ u :: s2) ++ s.drop (i + 1 - a) ++ q) from by
            rw [h4, ← HR.out] at hO
            simpa using hO)
          clear h1 h2 h3 h4 hO HI
          go_wp2_with fail
          go_quiet (fail)
          go_wp2_with fail
          go_roundw
          case rel => exact ⟨i + 1, _, by omega, .inl (by omega), by go_num, HE, HO2, by first | exact HW | exact Lib.hid (HW.out.drewN _)⟩
          case measure => simp [intOf] <;> omega
        · rw [List.concat_eq_append] at *
          have hs1 : (s1' ++ [v]).length = s1'.length + 1 := by simp
          have hja : a < j := by omega
          have hJ : j = (p ++ s1').length + 1 := by rw [List.length_append, HP.out]; omega
          obtain ⟨w1, w2, w3⟩ := ins_swap p s1' R u v s2 j hJ
          rw [← h4] at w1 w2 w3
          have hLn := own_n hO
          have hjL : j < L.length := by rw [h4]; simp only [List.length_append, List.length_cons] at *; omega
          have hvt : v ∈ t := by rw [h1]; simp
          obtain ⟨hDv, hvu⟩ := HDt.out v hvt
          have c1 := hO.int_cell j hjL
          have c2 := hO.int_cell (j - 1) (by omega)
          rw [w2] at c1
          rw [w3] at c2
          have f1 := hO.free j
          have f2 := hO.free (j - 1)
          have lg := (hO.lt _ rfl).2
          obtain ⟨J1, hJ1⟩ : ∃ J1 : Nat, j - 1 = J1 := ⟨_, rfl⟩
          have eJ : (j : Int) - 1 = J1 := by omega
          rw [hJ1] at c2 f2 w1
          have wJ : IntKind.i64.wrap (J1 : Int) = J1 := IntWalk.i64_in _ (by omega)
          have hjn : (j : Int) < n := by omega
          have hJn : (J1 : Int) < n := by omega
          have hgd : decide ((a : Int) < j) = true := decide_eq_true (by omega)
          have hgd' : decide (a < j) = true := decide_eq_true hja
          have CP := Lib.hid (HC.out wr.drew (HK0.out.trans HW.out.drew) u v hDu hDv)
          have hcv := St.cmpV_neg (fr u) (fr v)
          obtain ⟨CV, hCV⟩ : ∃ CV, St.cmpV (fr u) (fr v) = CV := ⟨_, rfl⟩
          rw [hCV] at CP hcv
          have HS0 := Lib.hid (show wr.drew.cell? ⟨g, j, none⟩ = some (.int .i64 u) ∧ wr.drew.cell? ⟨g, J1, none⟩ = some (.int .i64 v) from ⟨c1, c2⟩)
          have HS1 := Lib.hid (show wr.drew.drew.cell? ⟨g, j, none⟩ = some (.int .i64 u) ∧ wr.drew.drew.cell? ⟨g, J1, none⟩ = some (.int .i64 v) from ⟨c1, c2⟩)
          have HO2 := Lib.hid hO
          have HW1 := Lib.hid w1; have HV2 := Lib.hid w2
          have HV3 := Lib.hid (show L.getD J1 0 = v by rw [← hJ1]; exact w3)
          have H1 := Lib.hid h1; have H3 := Lib.hid h3; have H4 := Lib.hid h4; have H2 := Lib.hid h2
          have HLN := Lib.hid hLn; have HJL := Lib.hid hjL
          clear h1 h2 h3 h4 hO HI hs1 hJ w1 w2 w3 hLn hjL hvt hCV hJ1 htl
          by_cases hcmp : fr u < fr v
          · rw [decide_eq_true hcmp] at hcv
            go_wp2_with fail
            go_region_held3 (fun V => V.cell? ⟨g, j, none⟩ = some (.int .i64 u) ∧ V.cell? ⟨g, J1, none⟩ = some (.int .i64 v)) (first | exact HS0.out | exact HS1.out) (first | (go_at_call 94; (with_reducible refine CP.out.mono ?_; rintro e wx ⟨rfl, rfl⟩)) | fail)
            simp only [Exit.then]
            rename_i hK hHeld
            refine hK _ _ ?_
            clear hK hHeld HS0 HS1 CP
            have HO5 := Lib.hid (HO2.out.drewN 2)
            have HW5 := Lib.hid (HW.out.drewN 2)
            clear c1 c2 f1 f2 lg HO2 HW hcv
            change Code.wp Tryz.prog _ _ _ (wr.drewN 2)
            generalize wr.drewN 2 = w6 at *
            have c1 := HO5.out.int_cell j HJL.out
            have c2 := HO5.out.int_cell J1 (by have := HJL.out; omega)
            rw [HV2.out] at c1
            rw [HV3.out] at c2
            have f1 := HO5.out.free j
            have f2 := HO5.out.free J1
            have lg := (HO5.out.lt _ rfl).2
            have HO6 := Lib.hid ((HO5.out.set_int j v HJL.out).set_int J1 u (by rw [List.length_set]; have := HJL.out; omega))
            have HW6 := Lib.hid ((HW5.out.setCell (p := ⟨g, j, none⟩) (.inr rfl) (.int .i64 v)).setCell (p := ⟨g, J1, none⟩) (.inr rfl) (.int .i64 u))
            rw [HW1.out] at HO6
            have HI6 := Lib.hid (show Inn fr a i u t p R (p ++ s1' ++ u :: (v :: s2) ++ R) J1 from ⟨s1', v :: s2, by rw [H1.out]; simp, by have := H2.out; rw [List.length_append, List.length_singleton] at this; omega, fun z hz => by
              rcases List.mem_cons.1 hz with rfl | hz
              · exact .inl hcmp
              · exact H3.out z hz, rfl⟩)
            have hne : j ≠ J1 := by omega
            clear HO5 HW5
            go_wp2_with fail
            go_region
            go_wp2_with fail
            go_roundw
            case rel => exact ⟨J1, by omega, by omega, by go_num, Lib.hid ⟨_, HI6.out, HO6.out.drewN _⟩, Lib.hid HW6.out.drew⟩
            case measure => simp [intOf] <;> omega
          · rw [decide_eq_false hcmp] at hcv
            have HE := Lib.hid (show ((s1' ++ [v]) ++ u :: s2).Perm (s.take (i + 1 - a)) ∧ St.Srt fr ((s1' ++ [v]) ++ u :: s2) from by
              refine ⟨?_, ins_end (H1.out ▸ HT.out.2) H3.out (fun s w h => ?_)⟩
              · rw [HTS.out]
                have := HT.out.1
                rw [H1.out] at this
                exact (List.perm_middle.trans (List.Perm.cons u this)).trans (List.perm_append_comm (l₁ := [u]))
              · have := List.append_inj_right' h rfl
                obtain rfl : v = w := by simpa using this
                exact (St.lx_up hvu).2 hcmp)
            have HO3 := Lib.hid (show OwnI B (wr.drewN 2) (.slice (some ⟨g, 0, none⟩) n cap) (p ++ ((s1' ++ [v]) ++ u :: s2) ++ s.drop (i + 1 - a) ++ q) from by
              have hO := HO2.out
              rw [H4.out, ← HR.out] at hO
              simpa using hO.drewN 2)
            go_wp2_with fail
            go_region_held3 (fun V => V.cell? ⟨g, j, none⟩ = some (.int .i64 u) ∧ V.cell? ⟨g, J1, none⟩ = some (.int .i64 v)) (first | exact HS0.out | exact HS1.out) (first | (go_at_call 94; (with_reducible refine CP.out.mono ?_; rintro e wx ⟨rfl, rfl⟩)) | fail)
            simp only [Exit.then]
            rename_i hK hHeld
            refine hK _ _ ?_
            clear hK hHeld HS0 HS1 CP
            have HW5 := Lib.hid (HW.out.drewN 2)
            clear c1 c2 f1 f2 lg HO2 HW hcv
            change Code.wp Tryz.prog _ _ _ (wr.drewN 2)
            generalize wr.drewN 2 = w6 at *
            go_wp2_with fail
            go_roundw
            case rel => exact ⟨i + 1, _, by omega, .inl (by omega), by go_num, HE, HO3, HW5⟩
            case measure => simp [intOf] <;> omega
    · have HF := Lib.hid (show St.sortF fr s = t ∧ s.drop (i - a) = [] from by
        have h1 : s.take (i - a) = s := List.take_of_length_le (by have := HS.out; omega)
        have h2 := HT.out.1
        rw [h1] at h2
        exact ⟨St.srt_unique _ _ (St.sortF_srt fr s (St.asc_nodup HAS.out)) HT.out.2 ((St.sortF_perm fr s).trans h2.symm), List.drop_of_length_le (by have := HS.out; omega)⟩)
      have hO2 := HO.out
      rw [HF.out.2, List.append_nil, ← HF.out.1] at hO2
      have HO2 := Lib.hid hO2
      have hii : ¬ (i : Int) < b := by omega
      clear hO2 HO
      go_wp2_with fail
      go_end0
      exact ⟨rfl, by first | exact HO2.out | (rw [← List.append_assoc]; exact HO2.out), HW.out⟩
end Go.Proofs.YtmhjmoeeahepaaaGreat

/- The library's stable sort: a row of one number merged into the one behind it. -/
namespace Go.Proofs.YtmhjmoeeahepaaaGreat
open Go.ChangeShapes Go.WideShapes Go.ChangeAt Go.RowKit
set_option linter.unusedVariables false
set_option linter.unusedSimpArgs false
set_option maxRecDepth 100000
theorem srt_get {fr : Int → Int} {y : List Int} (h : St.Srt fr y) (i j : Nat) (hij : i < j) (hj : j < y.length) : St.lx fr (y.getD i 0) (y.getD j 0) := by
  have := (List.pairwise_iff_getElem.1 h) i j (by omega) hj hij
  rw [List.getD_eq_getElem?_getD, List.getD_eq_getElem?_getD, List.getElem?_eq_getElem (by omega), List.getElem?_eq_getElem hj]
  exact this
theorem getD_mid (p y q : List Int) (h m : Nat) (hp : p.length = m) (h1 : m ≤ h) (h2 : h < m + y.length) : (p ++ y ++ q).getD h 0 = y.getD (h - m) 0 := by
  rw [List.getD_eq_getElem?_getD, List.getD_eq_getElem?_getD, List.append_assoc, List.getElem?_append_right (by omega), List.getElem?_append_left (by omega), hp]
theorem mem_getD {y : List Int} {i : Nat} (h : i < y.length) : y.getD i 0 ∈ y := by
  rw [List.getD_eq_getElem?_getD, List.getElem?_eq_getElem h]; exact List.getElem_mem h
theorem take_lx {fr : Int → Int} {y : List Int} {u : Int} {i : Nat} (h : ∀ t, t < i → t < y.length → St.lx fr (y.getD t 0) u) : ∀ v ∈ y.take i, St.lx fr v u := by
  intro v hv
  obtain ⟨t, ht, rfl⟩ := List.mem_take_iff_getElem.1 hv
  have := h t (by omega) (by omega)
  rw [List.getD_eq_getElem?_getD, List.getElem?_eq_getElem (by omega)] at this
  exact this
theorem drop_lx {fr : Int → Int} {y : List Int} {u : Int} {i : Nat} (h : ∀ t, i ≤ t → t < y.length → St.lx fr u (y.getD t 0)) : ∀ v ∈ y.drop i, St.lx fr u v := by
  intro v hv
  obtain ⟨t, ht, rfl⟩ := List.mem_drop_iff_getElem.1 hv
  have := h (i + t) (by omega) (by omega)
  rw [List.getD_eq_getElem?_getD, List.getElem?_eq_getElem (by omega)] at this
  exact this
theorem mid_srt {fr : Int → Int} {y : List Int} {u : Int} {i : Nat} (hy : St.Srt fr y) (h1 : ∀ t, t < i → t < y.length → St.lx fr (y.getD t 0) u) (h2 : ∀ t, i ≤ t → t < y.length → St.lx fr u (y.getD t 0)) : St.Srt fr (y.take i ++ u :: y.drop i) ∧ (y.take i ++ u :: y.drop i).Perm (u :: y) := by
  refine ⟨ins_end (by rw [List.take_append_drop]; exact hy) (drop_lx h2) (fun s v h => take_lx h1 v (by rw [h]; simp)), ?_⟩
  have := List.perm_middle (a := u) (l₁ := y.take i) (l₂ := y.drop i)
  rwa [List.take_append_drop] at this
theorem mv_step (p y q : List Int) (u : Int) (a k : Nat) (hp : p.length = a) (hk : k < y.length) :
    ((p ++ (y.take k ++ u :: y.drop k) ++ q).set (a + k) (y.getD k 0)).set (a + k + 1) u = p ++ (y.take (k + 1) ++ u :: y.drop (k + 1)) ++ q ∧
      (p ++ (y.take k ++ u :: y.drop k) ++ q).getD (a + k) 0 = u ∧ (p ++ (y.take k ++ u :: y.drop k) ++ q).getD (a + k + 1) 0 = y.getD k 0 := by
  have ey : y.drop k = y.getD k 0 :: y.drop (k + 1) := drop_getD y k hk
  have ty : y.take (k + 1) = y.take k ++ [y.getD k 0] := take_getD y k hk
  have e : p ++ (y.take k ++ u :: y.drop k) ++ q = (p ++ y.take k) ++ u :: ([] ++ y.getD k 0 :: (y.drop (k + 1) ++ q)) := by rw [ey]; simp
  have hA : (p ++ y.take k).length = a + k := by rw [List.length_append, hp, List.length_take_of_le (by omega)]
  have h1 := St.set_two (p ++ y.take k) [] (y.drop (k + 1) ++ q) u (y.getD k 0)
  have h2 := St.get_far (p ++ y.take k) [] (y.drop (k + 1) ++ q) u (y.getD k 0)
  have h3 := St.get_mid (p ++ y.take k) ([] ++ y.getD k 0 :: (y.drop (k + 1) ++ q)) u
  rw [List.length_nil, Nat.add_zero, hA] at h1 h2
  rw [hA] at h3
  rw [e]
  refine ⟨?_, h3, h2⟩
  rw [h1, ty]; simp
set_option maxHeartbeats 3200000 in
theorem sMerge1 (bx B g n cap a m b : Nat) (fr : Int → Int) (D : Int → Prop) (p y q : List Int) (u : Int) (w0 w : World) (CC : CmpC w0 g bx fr D) (hK : Keeps (fun j => j = g) w0 w) (hO : OwnI B w (.slice (some ⟨g, 0, none⟩) n cap) (p ++ (u :: y) ++ q)) (ha : p.length = a) (hm : a + 1 = m) (hb : m + y.length = b) (hs : St.Srt fr y) (huy : ∀ v ∈ y, u < v) (hDu : D u) (hD : ∀ v ∈ y, D v) (hn : n ≤ 1000000) :
    Calls Tryz.prog 129 #[.slice (some ⟨g, 0, none⟩) n cap, .int .i64 a, .int .i64 m, .int .i64 b, FV bx] w fun e w' => e = .returned (.tuple #[]) ∧ ∃ z, St.Srt fr z ∧ z.Perm (u :: y) ∧ OwnI B w' (.slice (some ⟨g, 0, none⟩) n cap) (p ++ z ++ q) ∧ Keeps (fun j => j = g) w w' := by
  have hN := own_n hO
  simp only [List.length_append, List.length_cons] at hN
  have hbn : b ≤ n := by omega
  have hmb : m ≤ b := by omega
  have eN : (m : Int) - a = 1 := by omega
  have hu : (p ++ (u :: y) ++ q).getD a 0 = u := by
    have := getD_mid p (u :: y) q a a ha (Nat.le_refl _) (by simp only [List.length_cons]; omega)
    rw [this]; simp
  have hv : ∀ h, m ≤ h → h < b → (p ++ (u :: y) ++ q).getD h 0 = y.getD (h - m) 0 := fun h h1 h2 => by
    have := getD_mid p (u :: y) q h a ha (by omega) (by simp only [List.length_cons]; omega)
    rw [this, show h - a = h - m + 1 by omega]; simp
  obtain ⟨L, hL⟩ : ∃ L, p ++ (u :: y) ++ q = L := ⟨_, rfl⟩
  have hLn : L.length = n := by rw [← hL]; simp only [List.length_append, List.length_cons]; omega
  rw [hL] at hO hu hv
  have HO := Lib.hid hO; have HU := Lib.hid hu; have HV := Lib.hid hv; have HL := Lib.hid hL; have HLN := Lib.hid hLn
  have HC := Lib.hid CC; have HK0 := Lib.hid hK
  have HP := Lib.hid ha; have HS := Lib.hid hs; have HUY := Lib.hid huy; have HD := Lib.hid hD; have HYB := Lib.hid hb; have HM := Lib.hid hm
  clear hO ha hb hs hD CC hK hN hu hv hL hLn huy hm
  go_enter Tryz.func129, Tryz.ntmps129
  go_wp2_with fail
  clear eN
  have HW := Lib.hid (Keeps.refl (fun j => j = g) w)
  go_loopw [10, 11] (fun iv jv wr => ∃ (i j : Nat), iv = .int .i64 i ∧ jv = .int .i64 j ∧ m ≤ i ∧ i ≤ j ∧ j ≤ b ∧ Hid ((∀ t, t < i - m → t < y.length → St.lx fr (y.getD t 0) u) ∧ (∀ t, j - m ≤ t → t < y.length → St.lx fr u (y.getD t 0))) ∧ Hid (OwnI B wr (.slice (some ⟨g, 0, none⟩) n cap) L) ∧ Hid (Keeps (fun j => j = g) w wr)) (fun iv jv _ => (intOf jv).toNat - (intOf iv).toNat)
  case atStart => exact ⟨m, b, rfl, rfl, Nat.le_refl _, hmb, Nat.le_refl _, Lib.hid ⟨fun t h => by omega, fun t h1 h2 => by have := HYB.out; omega⟩, HO, HW⟩
  case round =>
    clear HO HW
    obtain ⟨i, j, rfl, rfl, hi, hij, hj, HR, HO, HW⟩ := hrel
    by_cases hlt : i < j
    · have hlti : (i : Int) < j := by omega
      obtain ⟨H, hH⟩ : ∃ H, (i + j) / 2 = H := ⟨_, rfl⟩
      have hH1 : i ≤ H := by omega
      have hH2 : H < j := by omega
      have eH : ((i : Int) + j) / 2 = H := by omega
      obtain ⟨v, hve⟩ : ∃ v, y.getD (H - m) 0 = v := ⟨_, rfl⟩
      have c1 := HO.out.int_cell H (by rw [HLN.out]; omega)
      rw [HV.out H (by omega) (by omega), hve] at c1
      have c2 := HO.out.int_cell a (by have := HLN.out; have := HM.out; omega)
      rw [HU.out] at c2
      have hvm : v ∈ y := by rw [← hve]; exact mem_getD (by have := HYB.out; omega)
      have huv := HUY.out v hvm
      have hHn : (H : Int) < n := by omega
      have han : (a : Int) < n := by have := HM.out; omega
      have HVE := Lib.hid hve
      have CP := Lib.hid (HC.out wr.drew (HK0.out.trans HW.out.drew) v u (HD.out v hvm) hDu)
      have hcv := St.cmpV_neg (fr v) (fr u)
      obtain ⟨CV, hCV⟩ : ∃ CV, St.cmpV (fr v) (fr u) = CV := ⟨_, rfl⟩
      rw [hCV] at CP hcv
      have HS0 := Lib.hid (show wr.drew.cell? ⟨g, H, none⟩ = some (.int .i64 v) ∧ wr.drew.cell? ⟨g, a, none⟩ = some (.int .i64 u) from ⟨c1, c2⟩)
      have HS1 := Lib.hid (show wr.drew.drew.cell? ⟨g, H, none⟩ = some (.int .i64 v) ∧ wr.drew.drew.cell? ⟨g, a, none⟩ = some (.int .i64 u) from ⟨c1, c2⟩)
      have HO5 := Lib.hid (HO.out.drewN 2)
      have HW5 := Lib.hid (HW.out.drewN 2)
      clear hve hvm hH hCV
      by_cases hcmp : fr v < fr u
      · rw [decide_eq_true hcmp] at hcv
        go_wp2_with fail
        go_region_held3 (fun V => V.cell? ⟨g, H, none⟩ = some (.int .i64 v) ∧ V.cell? ⟨g, a, none⟩ = some (.int .i64 u)) (first | exact HS0.out | exact HS1.out) (first | (go_at_call 94; (with_reducible refine CP.out.mono ?_; rintro e wx ⟨rfl, rfl⟩)) | fail)
        simp only [Exit.then]
        rename_i hK hHeld
        refine hK _ _ ?_
        clear hK hHeld HS0 HS1 CP c1 c2 hcv HO HW
        change Code.wp Tryz.prog _ _ _ (wr.drewN 2)
        generalize wr.drewN 2 = w6 at *
        have HR2 := Lib.hid (show (∀ t, t < H + 1 - m → t < y.length → St.lx fr (y.getD t 0) u) ∧ (∀ t, j - m ≤ t → t < y.length → St.lx fr u (y.getD t 0)) from ⟨fun t h1 h2 => by
          have hq : St.lx fr (y.getD (H - m) 0) u := by rw [HVE.out]; exact .inl hcmp
          by_cases e : t = H - m
          · rw [e]; exact hq
          · exact St.lx_trans (srt_get HS.out t (H - m) (by omega) (by have := HYB.out; omega)) hq, HR.out.2⟩)
        go_wp2_with fail
        go_roundw
        case rel => exact ⟨H + 1, j, by go_num, by go_num, by omega, by omega, by omega, HR2, HO5, HW5⟩
        case measure => simp [intOf] <;> omega
      · rw [decide_eq_false hcmp] at hcv
        go_wp2_with fail
        go_region_held3 (fun V => V.cell? ⟨g, H, none⟩ = some (.int .i64 v) ∧ V.cell? ⟨g, a, none⟩ = some (.int .i64 u)) (first | exact HS0.out | exact HS1.out) (first | (go_at_call 94; (with_reducible refine CP.out.mono ?_; rintro e wx ⟨rfl, rfl⟩)) | fail)
        simp only [Exit.then]
        rename_i hK hHeld
        refine hK _ _ ?_
        clear hK hHeld HS0 HS1 CP c1 c2 hcv HO HW
        change Code.wp Tryz.prog _ _ _ (wr.drewN 2)
        generalize wr.drewN 2 = w6 at *
        have HR2 := Lib.hid (show (∀ t, t < i - m → t < y.length → St.lx fr (y.getD t 0) u) ∧ (∀ t, H - m ≤ t → t < y.length → St.lx fr u (y.getD t 0)) from ⟨HR.out.1, fun t h1 h2 => by
          have hq : St.lx fr u (y.getD (H - m) 0) := by rw [HVE.out]; exact (St.lx_up huv).2 (by omega)
          by_cases e : t = H - m
          · rw [e]; exact hq
          · exact St.lx_trans hq (srt_get HS.out (H - m) t (by omega) h2)⟩)
        go_wp2_with fail
        go_roundw
        case rel => exact ⟨i, H, by go_num, by go_num, by omega, by omega, by omega, HR2, HO5, HW5⟩
        case measure => simp [intOf] <;> omega
    · obtain rfl : i = j := by omega
      have HZ := Lib.hid (mid_srt HS.out HR.out.1 HR.out.2)
      obtain ⟨K, hKd⟩ : ∃ K, i - m = K := ⟨_, rfl⟩
      rw [hKd] at HZ
      have hKy : K ≤ y.length := by have := HYB.out; omega
      have hKi : (i : Int) - 1 = (a + K : Nat) := by have := HM.out; omega
      have hO2 := HO.out
      rw [← HL.out] at hO2
      have HO2 := Lib.hid (show OwnI B wr (.slice (some ⟨g, 0, none⟩) n cap) (p ++ (y.take 0 ++ u :: y.drop 0) ++ q) from hO2)
      obtain ⟨E, hE⟩ : ∃ E : Nat, a + K = E := ⟨_, rfl⟩
      rw [hE] at hKi
      have hEn : E < n := by have := HM.out; have := HYB.out; omega
      have hii : ¬ (i : Int) < i := by omega
      clear hO2 HO
      go_wp2_with fail
      clear hii
      obtain ⟨w1, hw1⟩ : ∃ w1, w1 = wr := ⟨_, rfl⟩
      rw [← hw1] at HO2 HW ⊢
      clear hw1
      go_loopw [13] (fun kv wr => ∃ (k : Nat), a + k ≤ E ∧ kv = .int .i64 ((a + k : Nat) : Int) ∧ Hid (OwnI B wr (.slice (some ⟨g, 0, none⟩) n cap) (p ++ (y.take k ++ u :: y.drop k) ++ q)) ∧ Hid (Keeps (fun j => j = g) w wr)) (fun kv _ => E - (intOf kv).toNat)
      case atStart => exact ⟨0, by omega, by go_num, HO2, HW⟩
      case round =>
        clear HO2 HW
        obtain ⟨k, hk, rfl, HO, HW⟩ := hrel
        obtain ⟨A, hA⟩ : ∃ A, a + k = A := ⟨_, rfl⟩
        rw [hA]
        by_cases hlt : A < E
        · have hlti : (A : Int) < E := by omega
          have hky : k < y.length := by omega
          obtain ⟨q1, q2, q3⟩ := mv_step p y q u a k HP.out hky
          obtain ⟨v, hve⟩ : ∃ v, y.getD k 0 = v := ⟨_, rfl⟩
          rw [hA] at q1 q2 q3
          rw [hve] at q1 q3
          have hLn := own_n HO.out
          obtain ⟨L2, hL2⟩ : ∃ L2, p ++ (y.take k ++ u :: y.drop k) ++ q = L2 := ⟨_, rfl⟩
          have hO3 := HO.out
          rw [hL2] at q1 q2 q3 hO3 hLn
          have c1 := hO3.int_cell A (by omega)
          have c2 := hO3.int_cell (A + 1) (by omega)
          rw [q2] at c1
          rw [q3] at c2
          have f1 := hO3.free A
          have f2 := hO3.free (A + 1)
          have lg := (hO3.lt _ rfl).2
          have hO4 := (hO3.set_int A v (by omega)).set_int (A + 1) u (by rw [List.length_set]; omega)
          rw [q1] at hO4
          have HO4 := Lib.hid hO4
          have HW4 := Lib.hid ((HW.out.setCell (p := ⟨g, A, none⟩) (.inr rfl) (.int .i64 v)).setCell (p := ⟨g, A + 1, none⟩) (.inr rfl) (.int .i64 u))
          obtain ⟨A1, hA1⟩ : ∃ A1, A + 1 = A1 := ⟨_, rfl⟩
          rw [hA1] at c2 f2 HO4 HW4
          have eA : (A : Int) + 1 = A1 := by omega
          have wA : IntKind.i64.wrap (A1 : Int) = A1 := IntWalk.i64_in _ (by omega)
          have hne : A ≠ A1 := by omega
          have hAn : (A : Int) < n := by omega
          have hA1n : (A1 : Int) < n := by omega
          clear q1 q2 q3 hve hLn hL2 hO3 hO4 HO HW
          go_wp2_with fail
          go_region
          go_wp2_with fail
          go_roundw
          case rel => exact ⟨k + 1, by omega, by rw [show a + (k + 1) = A1 by omega], HO4, Lib.hid HW4.out.drew⟩
          case measure => simp [intOf] <;> omega
        · have hlti : ¬ (A : Int) < E := by omega
          obtain rfl : k = K := by omega
          go_wp2_with fail
          refine bodyPost_ret (results_none (by rfl) _ _ _) (by rfl) ?_
          exact ⟨rfl, _, HZ.out.1, HZ.out.2, by first | exact HO.out | simpa using HO.out, HW.out⟩
end Go.Proofs.YtmhjmoeeahepaaaGreat

/- The library's stable sort: a row merged with the one number behind it. -/
namespace Go.Proofs.YtmhjmoeeahepaaaGreat
open Go.ChangeShapes Go.WideShapes Go.ChangeAt Go.RowKit
set_option linter.unusedVariables false
set_option linter.unusedSimpArgs false
set_option maxRecDepth 100000
theorem mv_back (p y q : List Int) (u : Int) (a k : Nat) (hp : p.length = a) (hk : k < y.length) :
    ((p ++ (y.take (k + 1) ++ u :: y.drop (k + 1)) ++ q).set (a + k + 1) (y.getD k 0)).set (a + k) u = p ++ (y.take k ++ u :: y.drop k) ++ q ∧
      (p ++ (y.take (k + 1) ++ u :: y.drop (k + 1)) ++ q).getD (a + k) 0 = y.getD k 0 ∧ (p ++ (y.take (k + 1) ++ u :: y.drop (k + 1)) ++ q).getD (a + k + 1) 0 = u := by
  have ey : y.drop k = y.getD k 0 :: y.drop (k + 1) := drop_getD y k hk
  have ty : y.take (k + 1) = y.take k ++ [y.getD k 0] := take_getD y k hk
  have e : p ++ (y.take (k + 1) ++ u :: y.drop (k + 1)) ++ q = (p ++ y.take k) ++ y.getD k 0 :: ([] ++ u :: (y.drop (k + 1) ++ q)) := by rw [ty]; simp
  have hA : (p ++ y.take k).length = a + k := by rw [List.length_append, hp, List.length_take_of_le (by omega)]
  have h1 := St.set_two (p ++ y.take k) [] (y.drop (k + 1) ++ q) (y.getD k 0) u
  have h2 := St.get_far (p ++ y.take k) [] (y.drop (k + 1) ++ q) (y.getD k 0) u
  have h3 := St.get_mid (p ++ y.take k) ([] ++ u :: (y.drop (k + 1) ++ q)) (y.getD k 0)
  rw [List.length_nil, Nat.add_zero, hA] at h1 h2
  rw [hA] at h3
  rw [e]
  refine ⟨?_, h3, h2⟩
  rw [List.set_comm _ _ (by omega), h1, ey]; simp
set_option maxHeartbeats 3200000 in
theorem sMerge2 (bx B g n cap a m b : Nat) (fr : Int → Int) (D : Int → Prop) (p y q : List Int) (u : Int) (w0 w : World) (CC : CmpC w0 g bx fr D) (hK : Keeps (fun j => j = g) w0 w) (hO : OwnI B w (.slice (some ⟨g, 0, none⟩) n cap) (p ++ (y ++ [u]) ++ q)) (ha : p.length = a) (hm : a + y.length = m) (hb : m + 1 = b) (h2 : 2 ≤ y.length) (hs : St.Srt fr y) (huy : ∀ v ∈ y, v < u) (hDu : D u) (hD : ∀ v ∈ y, D v) (hn : n ≤ 1000000) :
    Calls Tryz.prog 129 #[.slice (some ⟨g, 0, none⟩) n cap, .int .i64 a, .int .i64 m, .int .i64 b, FV bx] w fun e w' => e = .returned (.tuple #[]) ∧ ∃ z, St.Srt fr z ∧ z.Perm (y ++ [u]) ∧ OwnI B w' (.slice (some ⟨g, 0, none⟩) n cap) (p ++ z ++ q) ∧ Keeps (fun j => j = g) w w' := by
  have hN := own_n hO
  simp only [List.length_append, List.length_cons, List.length_nil] at hN
  have hbn : b ≤ n := by omega
  have hmb : m ≤ b := by omega
  have ham : a ≤ m := by omega
  have eN : ((m : Int) - a == 1) = false := by rw [beq_eq_false_iff_ne]; omega
  have eM : (b : Int) - m = 1 := by omega
  have hu : (p ++ (y ++ [u]) ++ q).getD m 0 = u := by
    have := getD_mid p (y ++ [u]) q m a ha (by omega) (by simp only [List.length_append, List.length_singleton]; omega)
    rw [this, show m - a = y.length by omega]; simp
  have hv : ∀ h, a ≤ h → h < m → (p ++ (y ++ [u]) ++ q).getD h 0 = y.getD (h - a) 0 := fun h h1 h2 => by
    have := getD_mid p (y ++ [u]) q h a ha (by omega) (by simp only [List.length_append, List.length_singleton]; omega)
    rw [this, List.getD_eq_getElem?_getD, List.getD_eq_getElem?_getD, List.getElem?_append_left (by omega)]
  obtain ⟨L, hL⟩ : ∃ L, p ++ (y ++ [u]) ++ q = L := ⟨_, rfl⟩
  have hLn : L.length = n := by rw [← hL]; simp only [List.length_append, List.length_singleton]; omega
  rw [hL] at hO hu hv
  have HO := Lib.hid hO; have HU := Lib.hid hu; have HV := Lib.hid hv; have HL := Lib.hid hL; have HLN := Lib.hid hLn
  have HC := Lib.hid CC; have HK0 := Lib.hid hK
  have HP := Lib.hid ha; have HS := Lib.hid hs; have HUY := Lib.hid huy; have HD := Lib.hid hD; have HYB := Lib.hid hb; have HM := Lib.hid hm
  clear hO ha hb hs hD CC hK hN hu hv hL hLn huy hm h2
  go_enter Tryz.func129, Tryz.ntmps129
  go_wp2_with fail
  clear eN eM
  have HW := Lib.hid (Keeps.refl (fun j => j = g) w)
  go_loopw [14, 15] (fun iv jv wr => ∃ (i j : Nat), iv = .int .i64 i ∧ jv = .int .i64 j ∧ a ≤ i ∧ i ≤ j ∧ j ≤ m ∧ Hid ((∀ t, t < i - a → t < y.length → St.lx fr (y.getD t 0) u) ∧ (∀ t, j - a ≤ t → t < y.length → St.lx fr u (y.getD t 0))) ∧ Hid (OwnI B wr (.slice (some ⟨g, 0, none⟩) n cap) L) ∧ Hid (Keeps (fun j => j = g) w wr)) (fun iv jv _ => (intOf jv).toNat - (intOf iv).toNat)
  case atStart => exact ⟨a, m, rfl, rfl, Nat.le_refl _, ham, Nat.le_refl _, Lib.hid ⟨fun t h => by omega, fun t h1 h2 => by have := HM.out; omega⟩, HO, HW⟩
  case round =>
    clear HO HW
    obtain ⟨i, j, rfl, rfl, hi, hij, hj, HR, HO, HW⟩ := hrel
    by_cases hlt : i < j
    · have hlti : (i : Int) < j := by omega
      obtain ⟨H, hH⟩ : ∃ H, (i + j) / 2 = H := ⟨_, rfl⟩
      have hH1 : i ≤ H := by omega
      have hH2 : H < j := by omega
      have eH : ((i : Int) + j) / 2 = H := by omega
      obtain ⟨v, hve⟩ : ∃ v, y.getD (H - a) 0 = v := ⟨_, rfl⟩
      have c1 := HO.out.int_cell H (by have := HLN.out; have := HM.out; omega)
      rw [HV.out H (by omega) (by omega), hve] at c1
      have c2 := HO.out.int_cell m (by have := HLN.out; have := HYB.out; omega)
      rw [HU.out] at c2
      have hvm : v ∈ y := by rw [← hve]; exact mem_getD (by have := HM.out; omega)
      have huv := HUY.out v hvm
      have hHn : (H : Int) < n := by omega
      have hmn : (m : Int) < n := by have := HYB.out; omega
      have HVE := Lib.hid hve
      have CP := Lib.hid (HC.out wr.drew (HK0.out.trans HW.out.drew) u v hDu (HD.out v hvm))
      have hcv := St.cmpV_neg (fr u) (fr v)
      obtain ⟨CV, hCV⟩ : ∃ CV, St.cmpV (fr u) (fr v) = CV := ⟨_, rfl⟩
      rw [hCV] at CP hcv
      have HS0 := Lib.hid (show wr.drew.cell? ⟨g, H, none⟩ = some (.int .i64 v) ∧ wr.drew.cell? ⟨g, m, none⟩ = some (.int .i64 u) from ⟨c1, c2⟩)
      have HS1 := Lib.hid (show wr.drew.drew.cell? ⟨g, H, none⟩ = some (.int .i64 v) ∧ wr.drew.drew.cell? ⟨g, m, none⟩ = some (.int .i64 u) from ⟨c1, c2⟩)
      have HO5 := Lib.hid (HO.out.drewN 2)
      have HW5 := Lib.hid (HW.out.drewN 2)
      clear hve hvm hH hCV
      by_cases hcmp : ¬ fr u < fr v
      · rw [decide_eq_false hcmp] at hcv
        go_wp2_with fail
        go_region_held3 (fun V => V.cell? ⟨g, H, none⟩ = some (.int .i64 v) ∧ V.cell? ⟨g, m, none⟩ = some (.int .i64 u)) (first | exact HS0.out | exact HS1.out) (first | (go_at_call 94; (with_reducible refine CP.out.mono ?_; rintro e wx ⟨rfl, rfl⟩)) | fail)
        simp only [Exit.then]
        rename_i hK hHeld
        refine hK _ _ ?_
        clear hK hHeld HS0 HS1 CP c1 c2 hcv HO HW
        change Code.wp Tryz.prog _ _ _ (wr.drewN 2)
        generalize wr.drewN 2 = w6 at *
        have HR2 := Lib.hid (show (∀ t, t < H + 1 - a → t < y.length → St.lx fr (y.getD t 0) u) ∧ (∀ t, j - a ≤ t → t < y.length → St.lx fr u (y.getD t 0)) from ⟨fun t h1 h2 => by
          have hq : St.lx fr (y.getD (H - a) 0) u := by rw [HVE.out]; exact (St.lx_up huv).2 (by omega)
          by_cases e : t = H - a
          · rw [e]; exact hq
          · exact St.lx_trans (srt_get HS.out t (H - a) (by omega) (by have := HM.out; omega)) hq, HR.out.2⟩)
        go_wp2_with fail
        go_roundw
        case rel => exact ⟨H + 1, j, by go_num, by go_num, by omega, by omega, by omega, HR2, HO5, HW5⟩
        case measure => simp [intOf] <;> omega
      · rw [decide_eq_true (Classical.not_not.1 hcmp)] at hcv
        go_wp2_with fail
        go_region_held3 (fun V => V.cell? ⟨g, H, none⟩ = some (.int .i64 v) ∧ V.cell? ⟨g, m, none⟩ = some (.int .i64 u)) (first | exact HS0.out | exact HS1.out) (first | (go_at_call 94; (with_reducible refine CP.out.mono ?_; rintro e wx ⟨rfl, rfl⟩)) | fail)
        simp only [Exit.then]
        rename_i hK hHeld
        refine hK _ _ ?_
        clear hK hHeld HS0 HS1 CP c1 c2 hcv HO HW
        change Code.wp Tryz.prog _ _ _ (wr.drewN 2)
        generalize wr.drewN 2 = w6 at *
        have HR2 := Lib.hid (show (∀ t, t < i - a → t < y.length → St.lx fr (y.getD t 0) u) ∧ (∀ t, H - a ≤ t → t < y.length → St.lx fr u (y.getD t 0)) from ⟨HR.out.1, fun t h1 h2 => by
          have hq : St.lx fr u (y.getD (H - a) 0) := by rw [HVE.out]; exact .inl (by omega)
          by_cases e : t = H - a
          · rw [e]; exact hq
          · exact St.lx_trans hq (srt_get HS.out (H - a) t (by omega) h2)⟩)
        go_wp2_with fail
        go_roundw
        case rel => exact ⟨i, H, by go_num, by go_num, by omega, by omega, by omega, HR2, HO5, HW5⟩
        case measure => simp [intOf] <;> omega
    · obtain rfl : i = j := by omega
      have HZ := Lib.hid (mid_srt HS.out HR.out.1 HR.out.2)
      obtain ⟨K, hKd⟩ : ∃ K, i - a = K := ⟨_, rfl⟩
      rw [hKd] at HZ
      have hKy : K ≤ y.length := by have := HM.out; omega
      have hO2 := HO.out
      rw [← HL.out] at hO2
      have HO2 := Lib.hid (show OwnI B wr (.slice (some ⟨g, 0, none⟩) n cap) (p ++ (y.take y.length ++ u :: y.drop y.length) ++ q) from by rw [List.take_length, List.drop_length]; exact hO2)
      have hii : ¬ (i : Int) < i := by omega
      have hmy : a + y.length = m := HM.out
      have hmn : m < n := by have := HYB.out; omega
      clear hO2 HO
      go_wp2_with fail
      clear hii
      obtain ⟨w1, hw1⟩ : ∃ w1, w1 = wr := ⟨_, rfl⟩
      rw [← hw1] at HO2 HW ⊢
      clear hw1
      go_loopw [17] (fun kv wr => ∃ (k A : Nat), K ≤ k ∧ k ≤ y.length ∧ a + k = A ∧ kv = .int .i64 (A : Int) ∧ Hid (OwnI B wr (.slice (some ⟨g, 0, none⟩) n cap) (p ++ (y.take k ++ u :: y.drop k) ++ q)) ∧ Hid (Keeps (fun j => j = g) w wr)) (fun kv _ => (intOf kv).toNat)
      case atStart => exact ⟨y.length, m, hKy, Nat.le_refl _, hmy, rfl, HO2, HW⟩
      case round =>
        clear HO2 HW
        obtain ⟨k1, A, hk, hkl, hA, rfl, HO, HW⟩ := hrel
        by_cases hlt : K < k1
        · have hlti : (i : Int) < A := by omega
          obtain ⟨k, rfl⟩ : ∃ k, k1 = k + 1 := ⟨k1 - 1, by omega⟩
          have hky : k < y.length := by omega
          obtain ⟨q1, q2, q3⟩ := mv_back p y q u a k HP.out hky
          obtain ⟨v, hve⟩ : ∃ v, y.getD k 0 = v := ⟨_, rfl⟩
          obtain ⟨A1, hA1⟩ : ∃ A1, a + k = A1 := ⟨_, rfl⟩
          rw [hA1, show A1 + 1 = A by omega] at q1 q3
          rw [hA1] at q2
          rw [hve] at q1 q2
          have hLn := own_n HO.out
          obtain ⟨L2, hL2⟩ : ∃ L2, p ++ (y.take (k + 1) ++ u :: y.drop (k + 1)) ++ q = L2 := ⟨_, rfl⟩
          have hO3 := HO.out
          rw [hL2] at q1 q2 q3 hO3 hLn
          have c1 := hO3.int_cell A (by omega)
          have c2 := hO3.int_cell A1 (by omega)
          rw [q3] at c1
          rw [q2] at c2
          have f1 := hO3.free A
          have f2 := hO3.free A1
          have lg := (hO3.lt _ rfl).2
          have hO4 := (hO3.set_int A v (by omega)).set_int A1 u (by rw [List.length_set]; omega)
          rw [q1] at hO4
          have HO4 := Lib.hid hO4
          have HW4 := Lib.hid ((HW.out.setCell (p := ⟨g, A, none⟩) (.inr rfl) (.int .i64 v)).setCell (p := ⟨g, A1, none⟩) (.inr rfl) (.int .i64 u))
          have eA : (A : Int) - 1 = A1 := by omega
          have wA : IntKind.i64.wrap (A1 : Int) = A1 := IntWalk.i64_in _ (by omega)
          have hne : A ≠ A1 := by omega
          have hAn : (A : Int) < n := by omega
          have hA1n : (A1 : Int) < n := by omega
          clear q1 q2 q3 hve hLn hL2 hO3 hO4 HO HW
          go_wp2_with fail
          go_region
          go_wp2_with fail
          go_roundw
          case rel => exact ⟨k, A1, by omega, by omega, hA1, by go_num, HO4, Lib.hid HW4.out.drew⟩
          case measure => simp [intOf] <;> omega
        · have hlti : ¬ (i : Int) < A := by omega
          obtain rfl : k1 = K := by omega
          go_wp2_with fail
          refine bodyPost_ret (results_none rfl _ _ _) rfl ?_
          exact ⟨rfl, _, HZ.out.1, HZ.out.2.trans (List.perm_append_comm (l₁ := [u])), by first | exact HO.out | simpa using HO.out, HW.out⟩
end Go.Proofs.YtmhjmoeeahepaaaGreat
