/- The library's stable sort: insertion. -/
import Derived.Test.YtofmjcelmbkebaaAH3
import Derived.BigQuiet
import Derived.Deep.QuietTactic
namespace Go.Proofs.Ytofmjcelmbkebaa
open Go.ChangeShapes Go.WideShapes Go.ChangeAt Go.RowKit
set_option linter.unusedVariables false
set_option linter.unusedSimpArgs false
set_option maxRecDepth 100000
/-- What the closure says, wherever nothing but the row has turned. -/
def CmpC (w0 : World) (g bx : Nat) (fr : Int → Int) (D : Int → Prop) : Prop := ∀ W, Keeps (fun k => k = g) w0 W → ∀ x y, D x → D y → Calls Try.prog 35 #[.int .i64 x, .int .i64 y, .pointer (some ⟨bx, 0, none⟩)] W fun e w' => e = .returned (.int .i64 (St.cmpV (fr x) (fr y))) ∧ w' = W.drew
abbrev FV (bx : Nat) : Value := .func (Fn.func 35) #[] #[.pointer (some ⟨bx, 0, none⟩)]
def Inn (fr : Int → Int) (a i : Nat) (u : Int) (t : List Int) (p R L : List Int) (j : Nat) : Prop := ∃ s1 s2, t = s1 ++ s2 ∧ j = a + s1.length ∧ (∀ v ∈ s2, St.lx fr u v) ∧ L = p ++ s1 ++ u :: s2 ++ R
theorem ins_end {fr : Int → Int} {s1 s2 : List Int} {u : Int} (ht : St.Srt fr (s1 ++ s2)) (h2 : ∀ v ∈ s2, St.lx fr u v) (h1 : ∀ s v, s1 = s ++ [v] → St.lx fr v u) : St.Srt fr (s1 ++ u :: s2) := by
  obtain ⟨a, b, c⟩ := St.srt_append.1 ht
  refine St.srt_append.2 ⟨a, List.pairwise_cons.2 ⟨h2, b⟩, fun x hx y hy => ?_⟩
  rcases List.mem_cons.1 hy with rfl | hy
  · rcases List.eq_nil_or_concat s1 with rfl | ⟨s, v, rfl⟩
    · simp at hx
    · rw [List.concat_eq_append] at *
      have hv := h1 s v rfl
      rcases List.mem_append.1 hx with hx | hx
      · exact St.lx_trans ((St.srt_append.1 a).2.2 x hx v (by simp)) hv
      · obtain rfl : x = v := by simpa using hx
        exact hv
  · exact c x hx y hy
theorem ins_swap (p s R : List Int) (u v : Int) (s2 : List Int) (J : Nat) (hJ : J = (p ++ s).length + 1) :
    ((p ++ (s ++ [v]) ++ u :: s2 ++ R).set J v).set (J - 1) u = p ++ s ++ u :: (v :: s2) ++ R ∧ (p ++ (s ++ [v]) ++ u :: s2 ++ R).getD J 0 = u ∧ (p ++ (s ++ [v]) ++ u :: s2 ++ R).getD (J - 1) 0 = v := by
  subst hJ
  have e : p ++ (s ++ [v]) ++ u :: s2 ++ R = (p ++ s) ++ v :: ([] ++ u :: (s2 ++ R)) := by simp
  have h1 := St.set_two (p ++ s) [] (s2 ++ R) v u
  have h2 := St.get_far (p ++ s) [] (s2 ++ R) v u
  have h3 := St.get_mid (p ++ s) ([] ++ u :: (s2 ++ R)) v
  rw [List.length_nil, Nat.add_zero] at h1 h2
  rw [e, Nat.add_sub_cancel]
  refine ⟨?_, h2, h3⟩
  rw [List.set_comm _ _ (by omega), h1]; simp
set_option maxHeartbeats 3200000 in
theorem sInsert (bx B g n cap a b : Nat) (fr : Int → Int) (D : Int → Prop) (p s q : List Int) (w0 w : World) (CC : CmpC w0 g bx fr D) (hK : Keeps (fun j => j = g) w0 w) (hO : OwnI B w (.slice (some ⟨g, 0, none⟩) n cap) (p ++ s ++ q)) (ha : p.length = a) (hb : (p ++ s).length = b) (hs : s.Pairwise (· < ·)) (hD : ∀ u ∈ s, D u) (hn : n ≤ 1000000) :
    Calls Try.prog 59 #[.slice (some ⟨g, 0, none⟩) n cap, .int .i64 a, .int .i64 b, FV bx] w fun e w' => e = .returned (.tuple #[]) ∧ OwnI B w' (.slice (some ⟨g, 0, none⟩) n cap) (p ++ St.sortF fr s ++ q) ∧ Keeps (fun j => j = g) w w' := by
  have hN := own_n hO
  simp only [List.length_append] at hN hb
  have hbn : b ≤ n := by omega
  have hab : a ≤ b := by omega
  have HO := Lib.hid hO
  have HC := Lib.hid CC; have HK0 := Lib.hid hK
  have HP := Lib.hid ha; have HS := Lib.hid (show s.length = b - a by omega); have HD := Lib.hid hD; have HAS := Lib.hid hs
  have HW := Lib.hid (Keeps.refl (fun j => j = g) w)
  clear hO ha hb hs hD CC hK hN
  go_enter Try.func59, Try.ntmps59
  go_wp2_with fail
  go_loopw [8] (fun iv wr => ∃ (i : Nat) (t : List Int), a + 1 ≤ i ∧ (i ≤ b ∨ i = a + 1) ∧ iv = .int .i64 i ∧ Hid (t.Perm (s.take (i - a)) ∧ St.Srt fr t) ∧ Hid (OwnI B wr (.slice (some ⟨g, 0, none⟩) n cap) (p ++ t ++ s.drop (i - a) ++ q)) ∧ Hid (Keeps (fun j => j = g) w wr)) (fun iv _ => b - (intOf iv).toNat)
  case atStart =>
    refine ⟨a + 1, s.take 1, Nat.le_refl _, .inr rfl, by go_num, Lib.hid ⟨?_, ?_⟩, Lib.hid ?_, HW⟩
    · rw [Nat.add_sub_cancel_left]
    · cases s with
      | nil => simp [St.Srt]
      | cons x s => simp [St.Srt]
    · rw [Nat.add_sub_cancel_left, List.append_assoc p, List.take_append_drop]; exact HO.out
  case round =>
    clear HO HW
    obtain ⟨i, t, hi1, hi2, rfl, HT, HO, HW⟩ := hrel
    by_cases hlt : i < b
    · have hii : (i : Int) < b := by omega
      have his : i - a < s.length := by rw [HS.out]; omega
      obtain ⟨u, hu⟩ : ∃ u, s[i - a] = u := ⟨_, rfl⟩
      have es : s.drop (i - a) = u :: s.drop (i + 1 - a) := by rw [List.drop_eq_getElem_cons his, hu, show i - a + 1 = i + 1 - a by omega]
      have ts : s.take (i + 1 - a) = s.take (i - a) ++ [u] := by rw [show i + 1 - a = i - a + 1 by omega, List.take_succ_eq_append_getElem his, hu]
      have hmu : u ∈ s := by rw [← hu]; exact List.getElem_mem his
      have hDu := HD.out u hmu
      have HDt := Lib.hid (show ∀ v ∈ t, D v ∧ v < u from fun v hv => by
        have hv' : v ∈ s.take (i - a) := HT.out.1.mem_iff.1 hv
        refine ⟨HD.out v (List.mem_of_mem_take hv'), ?_⟩
        have h := HAS.out
        rw [← List.take_append_drop (i - a) s, es] at h
        exact (List.pairwise_append.1 h).2.2 v hv' u (by simp))
      have htl : t.length = i - a := by rw [HT.out.1.length_eq, List.length_take_of_le (Nat.le_of_lt his)]
      obtain ⟨R, hR⟩ : ∃ R, s.drop (i + 1 - a) ++ q = R := ⟨_, rfl⟩
      have HO1 := HO.out
      rw [es, List.append_assoc _ _ q, List.cons_append, hR] at HO1
      have hpl := HP.out
      have HI0 := Lib.hid (show ∃ L, Inn fr a i u t p R L i ∧ OwnI B wr (.slice (some ⟨g, 0, none⟩) n cap) L from ⟨p ++ t ++ u :: R, ⟨t, [], by simp, by omega, by simp, by simp⟩, HO1⟩)
      have HTS := Lib.hid ts
      have HR := Lib.hid hR
      clear es ts HO1 hR hu hmu his hpl HO
      obtain ⟨wo, hwo⟩ : ∃ wo, wo = wr := ⟨_, rfl⟩
      go_wp2_with fail
      go_loopw [9] (fun jv wr => ∃ (j : Nat), a ≤ j ∧ j ≤ i ∧ jv = .int .i64 j ∧ Hid (∃ L, Inn fr a i u t p R L j ∧ OwnI B wr (.slice (some ⟨g, 0, none⟩) n cap) L) ∧ Hid (Keeps (fun j => j = g) w wr)) (fun jv _ => (intOf jv).toNat)
      case atStart => exact ⟨i, by omega, Nat.le_refl _, rfl, HI0, HW⟩
      case round =>
        clear HI0 HW hwo
        obtain ⟨j, hj1, hj2, rfl, HI, HW⟩ := hrel
        obtain ⟨L, ⟨s1, s2, h1, h2, h3, h4⟩, hO⟩ := HI.out
        rcases List.eq_nil_or_concat s1 with rfl | ⟨s1', v, rfl⟩
        · have hja : j = a := by simpa using h2
          have hjd : decide ((a : Int) < j) = false := decide_eq_false (by omega)
          have hjd' : decide (a < j) = false := decide_eq_false (by omega)
          have HE := Lib.hid (show (([] : List Int) ++ u :: s2).Perm (s.take (i + 1 - a)) ∧ St.Srt fr ([] ++ u :: s2) from by
            refine ⟨?_, ins_end (h1 ▸ HT.out.2) h3 (fun s v h => by simp at h)⟩
            rw [HTS.out]
            have := HT.out.1
            rw [h1] at this
            exact (List.Perm.cons u (by simpa using this)).trans (List.perm_append_comm (l₁ := [u])))
          have HO2 := Lib.hid (show OwnI B wr (.slice (some ⟨g, 0, none⟩) n cap) (p ++ ([] ++ u :: s2) ++ s.drop (i + 1 - a) ++ q) from by
            rw [h4, ← HR.out] at hO
            simpa using hO)
          clear h1 h2 h3 h4 hO HI
          go_wp2_with fail
          go_quiet (fail)
          go_wp2_with fail
          go_roundw
          case rel => exact ⟨i + 1, _, by omega, .inl (by omega), by go_num, HE, HO2, by first | exact HW | exact Lib.hid (HW.out.drewN _)⟩
          case measure => simp [intOf] <;> omega
        · rw [List.concat_eq_append] at *
          have hs1 : (s1' ++ [v]).length = s1'.length + 1 := by simp
          have hja : a < j := by omega
          have hJ : j = (p ++ s1').length + 1 := by rw [List.length_append, HP.out]; omega
          obtain ⟨w1, w2, w3⟩ := ins_swap p s1' R u v s2 j hJ
          rw [← h4] at w1 w2 w3
          have hLn := own_n hO
          have hjL : j < L.length := by rw [h4]; simp only [List.length_append, List.length_cons] at *; omega
          have hvt : v ∈ t := by rw [h1]; simp
          obtain ⟨hDv, hvu⟩ := HDt.out v hvt
          have c1 := hO.int_cell j hjL
          have c2 := hO.int_cell (j - 1) (by omega)
          rw [w2] at c1
          rw [w3] at c2
          have f1 := hO.free j
          have f2 := hO.free (j - 1)
          have lg := (hO.lt _ rfl).2
          obtain ⟨J1, hJ1⟩ : ∃ J1 : Nat, j - 1 = J1 := ⟨_, rfl⟩
          have eJ : (j : Int) - 1 = J1 := by omega
          rw [hJ1] at c2 f2 w1
          have wJ : IntKind.i64.wrap (J1 : Int) = J1 := IntWalk.i64_in _ (by omega)
          have hjn : (j : Int) < n := by omega
          have hJn : (J1 : Int) < n := by omega
          have hgd : decide ((a : Int) < j) = true := decide_eq_true (by omega)
          have hgd' : decide (a < j) = true := decide_eq_true hja
          have CP := Lib.hid (HC.out wr.drew (HK0.out.trans HW.out.drew) u v hDu hDv)
          have hcv := St.cmpV_neg (fr u) (fr v)
          obtain ⟨CV, hCV⟩ : ∃ CV, St.cmpV (fr u) (fr v) = CV := ⟨_, rfl⟩
          rw [hCV] at CP hcv
          have HS0 := Lib.hid (show wr.drew.cell? ⟨g, j, none⟩ = some (.int .i64 u) ∧ wr.drew.cell? ⟨g, J1, none⟩ = some (.int .i64 v) from ⟨c1, c2⟩)
          have HS1 := Lib.hid (show wr.drew.drew.cell? ⟨g, j, none⟩ = some (.int .i64 u) ∧ wr.drew.drew.cell? ⟨g, J1, none⟩ = some (.int .i64 v) from ⟨c1, c2⟩)
          have HO2 := Lib.hid hO
          have HW1 := Lib.hid w1; have HV2 := Lib.hid w2
          have HV3 := Lib.hid (show L.getD J1 0 = v by rw [← hJ1]; exact w3)
          have H1 := Lib.hid h1; have H3 := Lib.hid h3; have H4 := Lib.hid h4; have H2 := Lib.hid h2
          have HLN := Lib.hid hLn; have HJL := Lib.hid hjL
          clear h1 h2 h3 h4 hO HI hs1 hJ w1 w2 w3 hLn hjL hvt hCV hJ1 htl
          by_cases hcmp : fr u < fr v
          · rw [decide_eq_true hcmp] at hcv
            go_wp2_with fail
            go_region_held3 (fun V => V.cell? ⟨g, j, none⟩ = some (.int .i64 u) ∧ V.cell? ⟨g, J1, none⟩ = some (.int .i64 v)) (first | exact HS0.out | exact HS1.out) (first | (go_at_call 35; (with_reducible refine CP.out.mono ?_; rintro e wx ⟨rfl, rfl⟩)) | fail)
            simp only [Exit.then]
            rename_i hK hHeld
            refine hK _ _ ?_
            clear hK hHeld HS0 HS1 CP
            have HO5 := Lib.hid (HO2.out.drewN 2)
            have HW5 := Lib.hid (HW.out.drewN 2)
            clear c1 c2 f1 f2 lg HO2 HW hcv
            change Code.wp Try.prog _ _ _ (wr.drewN 2)
            generalize wr.drewN 2 = w6 at *
            have c1 := HO5.out.int_cell j HJL.out
            have c2 := HO5.out.int_cell J1 (by have := HJL.out; omega)
            rw [HV2.out] at c1
            rw [HV3.out] at c2
            have f1 := HO5.out.free j
            have f2 := HO5.out.free J1
            have lg := (HO5.out.lt _ rfl).2
            have HO6 := Lib.hid ((HO5.out.set_int j v HJL.out).set_int J1 u (by rw [List.length_set]; have := HJL.out; omega))
            have HW6 := Lib.hid ((HW5.out.setCell (p := ⟨g, j, none⟩) (.inr rfl) (.int .i64 v)).setCell (p := ⟨g, J1, none⟩) (.inr rfl) (.int .i64 u))
            rw [HW1.out] at HO6
            have HI6 := Lib.hid (show Inn fr a i u t p R (p ++ s1' ++ u :: (v :: s2) ++ R) J1 from ⟨s1', v :: s2, by rw [H1.out]; simp, by have := H2.out; rw [List.length_append, List.length_singleton] at this; omega, fun z hz => by
              rcases List.mem_cons.1 hz with rfl | hz
              · exact .inl hcmp
              · exact H3.out z hz, rfl⟩)
            have hne : j ≠ J1 := by omega
            clear HO5 HW5
            go_wp2_with fail
            go_region
            go_wp2_with fail
            go_roundw
            case rel => exact ⟨J1, by omega, by omega, by go_num, Lib.hid ⟨_, HI6.out, HO6.out.drewN _⟩, Lib.hid HW6.out.drew⟩
            case measure => simp [intOf] <;> omega
          · rw [decide_eq_false hcmp] at hcv
            have HE := Lib.hid (show ((s1' ++ [v]) ++ u :: s2).Perm (s.take (i + 1 - a)) ∧ St.Srt fr ((s1' ++ [v]) ++ u :: s2) from by
              refine ⟨?_, ins_end (H1.out ▸ HT.out.2) H3.out (fun s w h => ?_)⟩
              · rw [HTS.out]
                have := HT.out.1
                rw [H1.out] at this
                exact (List.perm_middle.trans (List.Perm.cons u this)).trans (List.perm_append_comm (l₁ := [u]))
              · have := List.append_inj_right' h rfl
                obtain rfl : v = w := by simpa using this
                exact (St.lx_up hvu).2 hcmp)
            have HO3 := Lib.hid (show OwnI B (wr.drewN 2) (.slice (some ⟨g, 0, none⟩) n cap) (p ++ ((s1' ++ [v]) ++ u :: s2) ++ s.drop (i + 1 - a) ++ q) from by
              have hO := HO2.out
              rw [H4.out, ← HR.out] at hO
              simpa using hO.drewN 2)
            go_wp2_with fail
            go_region_held3 (fun V => V.cell? ⟨g, j, none⟩ = some (.int .i64 u) ∧ V.cell? ⟨g, J1, none⟩ = some (.int .i64 v)) (first | exact HS0.out | exact HS1.out) (first | (go_at_call 35; (with_reducible refine CP.out.mono ?_; rintro e wx ⟨rfl, rfl⟩)) | fail)
            simp only [Exit.then]
            rename_i hK hHeld
            refine hK _ _ ?_
            clear hK hHeld HS0 HS1 CP
            have HW5 := Lib.hid (HW.out.drewN 2)
            clear c1 c2 f1 f2 lg HO2 HW hcv
            change Code.wp Try.prog _ _ _ (wr.drewN 2)
            generalize wr.drewN 2 = w6 at *
            go_wp2_with fail
            go_roundw
            case rel => exact ⟨i + 1, _, by omega, .inl (by omega), by go_num, HE, HO3, HW5⟩
            case measure => simp [intOf] <;> omega
    · have HF := Lib.hid (show St.sortF fr s = t ∧ s.drop (i - a) = [] from by
        have h1 : s.take (i - a) = s := List.take_of_length_le (by have := HS.out; omega)
        have h2 := HT.out.1
        rw [h1] at h2
        exact ⟨St.srt_unique _ _ (St.sortF_srt fr s (St.asc_nodup HAS.out)) HT.out.2 ((St.sortF_perm fr s).trans h2.symm), List.drop_of_length_le (by have := HS.out; omega)⟩)
      have hO2 := HO.out
      rw [HF.out.2, List.append_nil, ← HF.out.1] at hO2
      have HO2 := Lib.hid hO2
      have hii : ¬ (i : Int) < b := by omega
      clear hO2 HO
      go_wp2_with fail
      go_end0
      exact ⟨rfl, by first | exact HO2.out | (rw [← List.append_assoc]; exact HO2.out), HW.out⟩
end Go.Proofs.Ytofmjcelmbkebaa
