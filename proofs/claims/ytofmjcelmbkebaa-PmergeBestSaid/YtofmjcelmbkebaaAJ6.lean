/- Layer 7, the document's: falling. -/
import Derived.Test.YtofmjcelmbkebaaAJ5
namespace Go.Proofs.Ytofmjcelmbkebaa
open Go.ChangeShapes Go.WideShapes Go.ChangeAt Go.RowKit
set_option linter.unusedVariables false
set_option linter.unusedSimpArgs false
set_option maxRecDepth 100000
open KraftMath Pm
theorem add_nought (x : Addr) : x.add 0 = x := by
  obtain ⟨b, o, e⟩ := x
  simp [Addr.add]
theorem add_addI (x : Addr) (t i : Nat) : (x.add t).add i = x.add (t + i) := by
  obtain ⟨b, o, e⟩ := x
  by_cases hi : i = 0 <;> by_cases ht : t = 0 <;> simp [Addr.add, hi, ht, Nat.add_assoc]
theorem slTake (va : Option Addr) (n vc k : Nat) (hk : k ≤ vc) (W : World) : (Instr.slice 22 (.slice va n vc) none (some (.int .i64 (k : Int))) none).run Try.prog W = .ok (.slice va k vc) W := by
  obtain ⟨i, hi, hz, hs, hb⟩ := info_get info_int
  have := run_slice_h (P := Try.prog) (w := W) 22 va n vc Try.underlying22 .i64 (k : Int) (by omega) (by omega)
  rw [this]
  have e : va.map (fun x => x.add 0) = va := by cases va <;> simp [add_nought]
  simp [go_sem, sliced, sizeOf, typeInfo, hi, hs, e]
theorem slDrop (va : Option Addr) (n vc k : Nat) (hk : k ≤ n) : ∃ vb, (∀ W : World, (Instr.slice 22 (.slice va n vc) (some (.int .i64 (k : Int))) none none).run Try.prog W = .ok (.slice vb (n - k) (vc - k)) W) ∧ ∀ (W : World) (l : List Int), l.length = n → n ≤ vc → IsInts W va l → IsInts W vb (l.drop k) := by
  obtain ⟨i, hi, hz, hs, hb⟩ := info_get info_int
  refine ⟨if vc = k then va else va.map (fun x => x.add k), fun W => ?_, fun W l hl hc h => ?_⟩
  · have := run_slice_l (P := Try.prog) (w := W) 22 va n vc Try.underlying22 .i64 (k : Int) (by omega) (by omega)
    rw [this]
    simp [go_sem, sliced, sizeOf, typeInfo, hi, hs]
  · refine ⟨by rw [List.length_drop]; have := h.1; omega, ?_⟩
    by_cases hz : l.drop k = []
    · exact .inl hz
    have hlt : k < l.length := by
      apply Classical.byContradiction
      intro hn
      exact hz (List.drop_eq_nil_of_le (by omega))
    rw [if_neg (by omega)]
    rcases h.2 with rfl | ⟨x, rfl, hcc⟩
    · simp at hlt
    · refine .inr ⟨_, rfl, fun i hi => ?_⟩
      rw [List.length_drop] at hi
      rw [add_addI x k i, hcc (k + i) (by omega)]
      simp [List.getD_eq_getElem?_getD]
theorem IsInts.take {W : World} {va : Option Addr} {l : List Int} (h : IsInts W va l) (k : Nat) : IsInts W va (l.take k) := by
  refine ⟨by rw [List.length_take]; have := h.1; omega, ?_⟩
  rcases h.2 with rfl | ⟨x, rfl, hc⟩
  · left; simp
  · refine .inr ⟨x, rfl, fun i hi => ?_⟩
    rw [List.length_take] at hi
    rw [hc i (by omega)]
    simp [List.getD_eq_getElem?_getD, List.getElem?_take, show i < k by omega]
theorem run_nilI {B : Nat} {W : World} {v : Value} {l : List Int} (h : OwnI B W v l) (ty : TypeId) (c : Nat) : (Builtin.append_ #[22, 22] ty #[v, .slice none 0 c]).run Try.prog W = .ok v W := by
  obtain ⟨i0, hi, h1, h2, h3⟩ := info_get info_int
  rcases h.2 with ⟨rfl, -⟩ | ⟨g, cap, cur, rfl, -, -, hnc, -⟩
  · simp [Builtin.append_, run_underlying Try.underlying22, sizeOf, typeInfo, hi, Builtin.lenOf, Builtin.firstCells]
  · simp [Builtin.append_, run_underlying Try.underlying22, sizeOf, typeInfo, hi, Builtin.lenOf, Builtin.firstCells, hnc, storeCells]
theorem app_rowI {W : World} {ops : Array Oper} {rest : List Oper} {o : Oper} {a : Act} {Q : Exit → Act → World → Prop} (hgd : o.guard = none) (s x : Operand)
    (ho : o.op = .call { callee := .builtin .append, args := #[s, x], argTypes := #[22, 22] })
    (B : Nat) (v : Value) (l ys : List Int) (hs : a.eval s = v) (hown : OwnI B W v l) (va : Option Addr) (m c : Nat) (hx : a.eval x = .slice va m c) (hm : m = ys.length) (hys : IsInts W va ys) (hl : l.length + ys.length ≤ 1000000) (hB : B ≤ W.heap.size)
    (h : ∀ v' w', OwnI B w' v' (l ++ ys) → Below B W w' → wpList Try.prog ops Q rest (a.put o.dst v') w') : wpList Try.prog ops Q (o :: rest) a W := by
  obtain ⟨i0, hi, h1, h2, h3⟩ := info_get info_int
  have hf : ∀ q : List Int, q.flatMap fI = q.map (Value.int .i64 ·) := fun q => flatMap_fI q
  have hown' : W.ownsRow B 3 1 v l.length (l.flatMap fI) := hown
  cases va with
  | none =>
    have hy : ys = [] := by
      rcases hys.2 with e | ⟨x, e, -⟩
      · exact e
      · cases e
    subst hy
    obtain rfl : m = 0 := by simpa using hm
    refine wpList_plain hgd fun K hK => ?_
    have hrun := run_nilI hown o.type c
    unfold Oper.wp
    simp only [execOp, ho, resolve, invoke, builtin, Sem.run_bind, Sem.run_pure, Result.andThen_ok, List.map_toArray, List.map_cons, List.map_nil, hs, hx, hrun]
    exact hK _ _ (h v W (by rw [List.append_nil]; exact hown) (Below.refl _ _))
  | some ad =>
    have hc : ∀ j u, (ys.map (Value.int .i64 ·))[j]? = some u → W.cell? (ad.add j) = some u := by
      intro j u hj
      rcases hys.2 with rfl | ⟨x, e, hc⟩
      · simp at hj
      · injection e with e; subst e
        rw [List.getElem?_map] at hj
        cases hq : ys[j]? with
        | none => rw [hq] at hj; simp at hj
        | some z =>
          rw [hq] at hj
          have hlt := (List.getElem?_eq_some_iff.1 hq).1
          simp only [Option.map_some, Option.some.injEq] at hj
          rw [hc j hlt, ← hj]
          simp [List.getD_eq_getElem?_getD, hq]
    refine wpList_append_own _ hgd s x 22 ho B 3 i0 (.int .i64 0) 1 8 Try.underlying22 hi h1 h2 h3 rfl (by decide) v l.length (l.flatMap fI) hs hown' ad m c (ys.map (Value.int .i64 ·)) hx (by rw [List.length_map, hm, Nat.mul_one]) hc (by intro u hu; obtain ⟨z, -, rfl⟩ := List.mem_map.1 hu; rfl) (by unfold maxLen; omega) (by omega) hB ?_
    intro v' w' ho' hg' _
    refine h v' w' ?_ ((Below.refl _ _).grown hg' hB (fun j hj => (World.ownsRow.lt hown' j hj).1))
    unfold OwnI OwnS
    rw [List.length_append, List.flatMap_append, hf ys, ← hm]
    exact ho'

theorem own_capI {B n vc : Nat} {w : World} {va : Option Addr} {l : List Int} (h : OwnI B w (.slice va n vc) l) : n = l.length ∧ n ≤ vc := by
  rcases h.2 with ⟨h0, h1⟩ | ⟨g', cap', cur, h0, _, _, hnc, _⟩
  · simp only [Value.slice.injEq] at h0
    obtain ⟨-, rfl, rfl⟩ := h0
    exact ⟨h1.symm, Nat.le_refl _⟩
  · simp only [Value.slice.injEq] at h0
    obtain ⟨-, rfl, rfl⟩ := h0
    exact ⟨rfl, hnc⟩
def Dsc (l : List Int) : Prop := l.Pairwise (fun x y => y ≤ x)
theorem dsc_get {l : List Int} (h : Dsc l) (i j : Nat) (hij : i < j) (hj : j < l.length) : l.getD j 0 ≤ l.getD i 0 := by
  have := (List.pairwise_iff_getElem.1 h) i j (by omega) hj hij
  rw [idx_get _ _ hj, idx_get _ _ (by omega)]; exact this
theorem dsc_put {F : List Int} {x : Int} {t : Nat} (h : Dsc F) (ht : t ≤ F.length) (h1 : ∀ j, t ≤ j → j < F.length → F.getD j 0 < x) (h2 : 0 < t → x ≤ F.getD (t - 1) 0) : Dsc ([] ++ F.take t ++ [x] ++ F.drop t) := by
  rw [List.nil_append, List.append_assoc]
  have hF := h
  rw [← List.take_append_drop t F] at hF
  obtain ⟨p1, p2, p3⟩ := List.pairwise_append.1 hF
  refine List.pairwise_append.2 ⟨p1, List.pairwise_append.2 ⟨by simp, p2, fun a ha b hb => ?_⟩, fun a ha b hb => ?_⟩
  · obtain rfl : a = x := by simpa using ha
    obtain ⟨j, hj, rfl⟩ := List.mem_drop_iff_getElem.1 hb
    have := h1 (t + j) (by omega) (by omega)
    rw [idx_get _ _ (by omega)] at this
    omega
  · rcases List.mem_append.1 hb with hb | hb
    · obtain rfl : b = x := by simpa using hb
      obtain ⟨j, hj, rfl⟩ := List.mem_take_iff_getElem.1 ha
      have hx := h2 (by omega)
      by_cases e : j = t - 1
      · subst e
        rw [idx_get _ _ (by omega)] at hx
        exact hx
      · have := dsc_get h j (t - 1) (by omega) (by omega)
        rw [idx_get F j (by omega)] at this
        omega
    · exact p3 a ha b hb
theorem put_perm {F q : List Int} {x : Int} {t : Nat} (h : F.Perm q) : ([] ++ F.take t ++ [x] ++ F.drop t).Perm (q ++ [x]) := by
  rw [List.nil_append, List.append_assoc]
  have h1 : (F.take t ++ ([x] ++ F.drop t)).Perm (x :: (F.take t ++ F.drop t)) := List.perm_middle
  rw [List.take_append_drop] at h1
  exact h1.trans ((List.Perm.cons x h).trans (List.perm_append_comm (l₁ := [x])))
def posF (l : List Int) (i : Nat) : List Int := (l.take i).filter (fun x => decide (0 < x))
theorem posF_succ (l : List Int) (i : Nat) (h : i < l.length) : posF l (i + 1) = if 0 < l.getD i 0 then posF l i ++ [l.getD i 0] else posF l i := by
  unfold posF
  rw [take_getD l i h, List.filter_append]
  by_cases e : 0 < l.getD i 0
  · have e2 : [l.getD i 0].filter (fun x => decide (0 < x)) = [l.getD i 0] := List.filter_cons_of_pos (p := fun x => decide (0 < x)) (decide_eq_true e)
    rw [if_pos e, e2]
  · have e2 : [l.getD i 0].filter (fun x => decide (0 < x)) = [] := List.filter_cons_of_neg (p := fun x => decide (0 < x)) (by rw [decide_eq_true_eq]; exact e)
    rw [if_neg e, e2, List.append_nil]
set_option maxHeartbeats 6400000 in
theorem dFalling (a : Option Addr) (c n : Nat) (l : List Int) (w : World) (hl : l.length = n) (h : IsInts w a l) (hn : n ≤ 100) (hb : ∀ i, 0 ≤ l.getD i 0) :
    Calls Try.prog 25 #[.slice a n c] w fun e w' => ∃ u F, e = .returned u ∧ OwnI w.heap.size w' u F ∧ Dsc F ∧ F.Perm (posF l n) ∧ Below w.heap.size w w' := by
  have HI := Lib.hid h; have HL := Lib.hid hl; have HBP := Lib.hid hb
  clear h hl hb
  go_enter Try.func25, Try.ntmps25
  go_wp2_with fail
  go_loopw [3, 4] (fun ov iv wr => ∃ (i : Nat) (F : List Int), i ≤ n ∧ iv = .int .i64 i ∧ F.length ≤ i ∧ Hid (OwnI w.heap.size wr ov F) ∧ Hid (Dsc F ∧ F.Perm (posF l i)) ∧ Hid (Below w.heap.size w wr)) (fun _ iv _ => n - (intOf iv).toNat)
  case atStart => exact ⟨0, [], Nat.zero_le _, by go_num, Nat.le_refl _, Lib.hid OwnS.nil, Lib.hid ⟨by simp [Dsc], by simp [posF]⟩, Lib.hid (Below.refl _ _)⟩
  case round =>
    obtain ⟨i, F, hi, rfl, hFl, HO, HF, HB⟩ := hrel
    by_cases hlt : i < n
    · have hii : (i : Int) < n := by omega
      have hil : i < l.length := by rw [HL.out]; exact hlt
      obtain ⟨x, rfl, hxb, hc⟩ := (HI.out.kept HB.out).at i hil
      have cx := hc i hil
      have HPS := Lib.hid (posF_succ l i hil)
      have hx0 := HBP.out i
      obtain ⟨X, hX⟩ : ∃ X, l.getD i 0 = X := ⟨_, rfl⟩
      rw [hX] at cx HPS hx0
      have HCX := Lib.hid cx
      clear hc hX hil
      by_cases hX0 : X = 0
      · have e0 : (X == 0) = true := by rw [beq_iff_eq]; exact hX0
        have HF2 := Lib.hid (show Dsc F ∧ F.Perm (posF l (i + 1)) from by rw [HPS.out, if_neg (by omega)]; exact HF.out)
        clear hX0
        go_wp2_with fail
        go_roundw
        case rel => exact ⟨i + 1, F, by omega, by go_num, by omega, HO, HF2, HB⟩
        case measure => simp [intOf] <;> omega
      · have e0 : (X == 0) = false := by rw [beq_eq_false_iff_ne]; exact hX0
        have hXp : 0 < X := by omega
        obtain ⟨va, vc, rfl⟩ := HO.out.slice
        obtain ⟨FL, hFL⟩ : ∃ FL, F.length = FL := ⟨_, rfl⟩
        have hcap := (own_capI HO.out).2
        have hIF := HO.out.isL (by omega)
        have HIF := Lib.hid (show IsInts wr va F by
          obtain ⟨a', c', e, h⟩ := hIF
          simp only [Value.slice.injEq] at e
          obtain ⟨rfl, -, -⟩ := e
          exact h)
        rw [hFL] at HO hcap hFl ⊢
        have HFL := Lib.hid hFL
        clear hFL hX0 hIF
        obtain ⟨wo, hwo⟩ : ∃ wo, wo = wr := ⟨_, rfl⟩
        rw [← hwo] at HO HIF HB HCX cx ⊢
        have hxb2 := cell_block cx
        clear hwo hxb
        go_wp2_with fail
        go_loopw [5] (fun tv wr => ∃ t : Nat, t ≤ FL ∧ tv = .int .i64 t ∧ Hid (∀ j, t ≤ j → j < F.length → F.getD j 0 < X) ∧ ∃ q, wr = wo.drewN q) (fun tv _ => (intOf tv).toNat)
        case atStart => exact ⟨FL, Nat.le_refl _, by go_num, Lib.hid (fun j h1 h2 => by have := HFL.out; omega), 0, rfl⟩
        case round =>
          obtain ⟨t, ht, rfl, HT, q, rfl⟩ := hrel
          have fin : Hid ((0 < t → X ≤ F.getD (t - 1) 0) → Dsc ([] ++ F.take t ++ [X] ++ F.drop t) ∧ ([] ++ F.take t ++ [X] ++ F.drop t).Perm (posF l (i + 1))) := Lib.hid (fun h2 => ⟨dsc_put HF.out.1 (by rw [HFL.out]; exact ht) HT.out h2, by rw [HPS.out, if_pos hXp]; exact put_perm HF.out.2⟩)
          by_cases ht0 : t = 0
          · have d1 : decide ((0 : Int) < t) = false := decide_eq_false (by omega)
            have d1n : decide (0 < t) = false := decide_eq_false (by omega)
            have HDS := Lib.hid (fin.out (fun h => by omega))
            obtain ⟨vb, hsd, hvb⟩ := slDrop va FL vc t ht
            have hst := slTake va FL vc t (by omega)
            have HVB := Lib.hid hvb
            have HTL := Lib.hid (show (F.take t).length = t by rw [List.length_take_of_le (by rw [HFL.out]; exact ht)])
            have HDL := Lib.hid (show (F.drop t).length = FL - t by rw [List.length_drop, HFL.out])
            clear hvb fin HT
            clear ht0
            go_wp2_with fail
            go_quiet (fail)
            have HIq := Lib.hid ((HIF.out.drewN q).drewN nq)
            have HBq := Lib.hid (below_dn (below_dn HB.out q) nq)
            have HCQ := Lib.hid (show ((wo.drewN q).drewN nq).cell? (x.add i) = some (.int .i64 X) from HCX.out)
            clear HIF HB HCX cx hxb2
            generalize (wo.drewN q).drewN nq = w5 at *
            have HI2 := Lib.hid (HIq.out.take t)
            have HS0 := Lib.hid (Nat.le_refl w5.heap.size)
            have hxq := cell_block HCQ.out
            go_wp2_with (first | (at_builtin; refine app_rowI rfl (.tmp 36) (.tmp 39) rfl w5.heap.size _ [] (F.take t) rfl OwnS.nil va t vc rfl HTL.out.symm HI2.out (by rw [HTL.out]; simp; omega) HS0.out ?_; intro v1 w1 ho1 hb1; have HB1 := Lib.hid hb1; have HO1 := Lib.hid ho1; have HS1 := Lib.hid HB1.out.size; have cx1 := (hb1.cell hxq).trans HCQ.out; have HL2 := Lib.hid (show ([] ++ F.take t).length ≤ 1099511627776 by rw [List.nil_append, HTL.out]; omega); clear ho1 hb1) | (at_builtin; refine app_int rfl (.tmp 41) (.tmp 46) rfl w5.heap.size _ v1 _ X rfl HO1.out w1.heap.size 1 rfl rfl HL2.out HS1.out ?_; intro v2 w2 ho2 hb2 hg2; have HB2 := Lib.hid (HB1.out.trans hb2); have HO2 := Lib.hid ho2; have HS3 := Lib.hid HB2.out.size; have HI3 := Lib.hid (HVB.out w2 F HFL.out hcap (HIq.out.kept HB2.out)); have HL3 := Lib.hid (show ([] ++ F.take t ++ [X]).length + (F.drop t).length ≤ 1000000 by rw [List.nil_append, List.length_append, HTL.out, HDL.out]; simp; omega); have HL4 := Lib.hid HDL.out.symm; clear ho2 hb2 hg2) | (at_builtin; refine app_rowI rfl (.tmp 48) (.tmp 51) rfl w5.heap.size _ _ (F.drop t) rfl HO2.out vb (FL - t) (vc - t) rfl HL4.out HI3.out HL3.out HS3.out ?_; intro v3 w3 ho3 hb3; have HB3 := Lib.hid (HBq.out.trans ((HB2.out.trans hb3).mono HBq.out.size)); have HO3 := Lib.hid (ho3.base HBq.out.size); clear ho3 hb3))
            go_roundw
            case rel => exact ⟨i + 1, _, by omega, by go_num, by rw [List.nil_append, List.length_append, List.length_append, HTL.out, HDL.out]; simp; omega, HO3, HDS, HB3⟩
            case measure => simp [intOf] <;> omega
          · have htp : t - 1 < F.length := by rw [HFL.out]; omega
            obtain ⟨y, rfl, hyb, hcy⟩ := HIF.out.at (t - 1) htp
            have cy := hcy (t - 1) htp
            obtain ⟨T1, hT1⟩ : ∃ T1, t - 1 = T1 := ⟨_, rfl⟩
            have eT : (t : Int) - 1 = T1 := by omega
            have wT : IntKind.i64.wrap (T1 : Int) = T1 := IntWalk.i64_in _ (by omega)
            have hT1n : (T1 : Int) < FL := by omega
            have d1 : decide ((0 : Int) < t) = true := decide_eq_true (by omega)
            have d1n : decide (0 < t) = true := decide_eq_true (by omega)
            obtain ⟨Y, hY⟩ : ∃ Y, F.getD (t - 1) 0 = Y := ⟨_, rfl⟩
            rw [hY, hT1] at cy
            have HY := Lib.hid hY
            by_cases hlt2 : Y < X
            · have d2 : decide (Y < X) = true := decide_eq_true hlt2
              have HT2 := Lib.hid (show ∀ j, T1 ≤ j → j < F.length → F.getD j 0 < X from fun j h1 h2 => by
                by_cases e : j = t - 1
                · subst e; rw [HY.out]; exact hlt2
                · exact HT.out j (by omega) h2)
              clear hcy hT1 hY fin
              go_wp2_with fail
              go_quiet (fail)
              go_wp2_with fail
              go_roundw
              case rel => exact ⟨T1, by omega, by go_num, HT2, _, rfl⟩
              case measure => simp [intOf] <;> omega
            · have d2 : decide (Y < X) = false := decide_eq_false hlt2
              clear hcy
              have HDS := Lib.hid (fin.out (fun _ => by rw [HY.out]; omega))
              obtain ⟨vb, hsd, hvb⟩ := slDrop (some y) FL vc t ht
              have hst := slTake (some y) FL vc t (by omega)
              have HVB := Lib.hid hvb
              have HTL := Lib.hid (show (F.take t).length = t by rw [List.length_take_of_le (by rw [HFL.out]; exact ht)])
              have HDL := Lib.hid (show (F.drop t).length = FL - t by rw [List.length_drop, HFL.out])
              clear hvb fin HT
              clear ht0 hY hT1
              go_wp2_with fail
              go_quiet (fail)
              have HIq := Lib.hid ((HIF.out.drewN q).drewN nq)
              have HBq := Lib.hid (below_dn (below_dn HB.out q) nq)
              have HCQ := Lib.hid (show ((wo.drewN q).drewN nq).cell? (x.add i) = some (.int .i64 X) from HCX.out)
              clear HIF HB HCX cx hxb2
              generalize (wo.drewN q).drewN nq = w5 at *
              have HI2 := Lib.hid (HIq.out.take t)
              have HS0 := Lib.hid (Nat.le_refl w5.heap.size)
              have hxq := cell_block HCQ.out
              go_wp2_with (first | (at_builtin; refine app_rowI rfl (.tmp 36) (.tmp 39) rfl w5.heap.size _ [] (F.take t) rfl OwnS.nil (some y) t vc rfl HTL.out.symm HI2.out (by rw [HTL.out]; simp; omega) HS0.out ?_; intro v1 w1 ho1 hb1; have HB1 := Lib.hid hb1; have HO1 := Lib.hid ho1; have HS1 := Lib.hid HB1.out.size; have cx1 := (hb1.cell hxq).trans HCQ.out; have HL2 := Lib.hid (show ([] ++ F.take t).length ≤ 1099511627776 by rw [List.nil_append, HTL.out]; omega); clear ho1 hb1) | (at_builtin; refine app_int rfl (.tmp 41) (.tmp 46) rfl w5.heap.size _ v1 _ X rfl HO1.out w1.heap.size 1 rfl rfl HL2.out HS1.out ?_; intro v2 w2 ho2 hb2 hg2; have HB2 := Lib.hid (HB1.out.trans hb2); have HO2 := Lib.hid ho2; have HS3 := Lib.hid HB2.out.size; have HI3 := Lib.hid (HVB.out w2 F HFL.out hcap (HIq.out.kept HB2.out)); have HL3 := Lib.hid (show ([] ++ F.take t ++ [X]).length + (F.drop t).length ≤ 1000000 by rw [List.nil_append, List.length_append, HTL.out, HDL.out]; simp; omega); have HL4 := Lib.hid HDL.out.symm; clear ho2 hb2 hg2) | (at_builtin; refine app_rowI rfl (.tmp 48) (.tmp 51) rfl w5.heap.size _ _ (F.drop t) rfl HO2.out vb (FL - t) (vc - t) rfl HL4.out HI3.out HL3.out HS3.out ?_; intro v3 w3 ho3 hb3; have HB3 := Lib.hid (HBq.out.trans ((HB2.out.trans hb3).mono HBq.out.size)); have HO3 := Lib.hid (ho3.base HBq.out.size); clear ho3 hb3))
              go_roundw
              case rel => exact ⟨i + 1, _, by omega, by go_num, by rw [List.nil_append, List.length_append, List.length_append, HTL.out, HDL.out]; simp; omega, HO3, HDS, HB3⟩
              case measure => simp [intOf] <;> omega
    · obtain rfl : n = i := by omega
      have hii : ¬ (n : Int) < n := by omega
      go_wp2_with fail
      go_ret
      exact ⟨_, rfl, F, HO.out, HF.out.1, HF.out.2, HB.out⟩
end Go.Proofs.Ytofmjcelmbkebaa
