/- Layer 19, the document's: Sort. Words on rows of numbers that are cut and put together. -/
import Derived.Test.YtpkidedepcnoaaaU10
namespace Go.Proofs.Ytpkidedepcnoaaa
open Go.ChangeShapes Go.WideShapes Go.ChangeAt Go.RowKit
set_option linter.unusedVariables false
set_option linter.unusedSimpArgs false
set_option maxRecDepth 100000
theorem add_nought (x : Addr) : x.add 0 = x := by
  obtain ⟨b, o, e⟩ := x
  simp [Addr.add]
theorem add_addI (x : Addr) (t i : Nat) : (x.add t).add i = x.add (t + i) := by
  obtain ⟨b, o, e⟩ := x
  by_cases hi : i = 0 <;> by_cases ht : t = 0 <;> simp [Addr.add, hi, ht, Nat.add_assoc]
theorem slTake (va : Option Addr) (n vc k : Nat) (hk : k ≤ vc) (W : World) : (Instr.slice 22 (.slice va n vc) none (some (.int .i64 (k : Int))) none).run Try.prog W = .ok (.slice va k vc) W := by
  obtain ⟨i, hi, hz, hs, hb⟩ := info_get info_int
  have := run_slice_h (P := Try.prog) (w := W) 22 va n vc Try.underlying22 .i64 (k : Int) (by omega) (by omega)
  rw [this]
  have e : va.map (fun x => x.add 0) = va := by cases va <;> simp [add_nought]
  simp [go_sem, sliced, sizeOf, typeInfo, hi, hs, e]
theorem slDrop (va : Option Addr) (n vc k : Nat) (hk : k ≤ n) : ∃ vb, (∀ W : World, (Instr.slice 22 (.slice va n vc) (some (.int .i64 (k : Int))) none none).run Try.prog W = .ok (.slice vb (n - k) (vc - k)) W) ∧ ∀ (W : World) (l : List Int), l.length = n → n ≤ vc → IsInts W va l → IsInts W vb (l.drop k) := by
  obtain ⟨i, hi, hz, hs, hb⟩ := info_get info_int
  refine ⟨if vc = k then va else va.map (fun x => x.add k), fun W => ?_, fun W l hl hc h => ?_⟩
  · have := run_slice_l (P := Try.prog) (w := W) 22 va n vc Try.underlying22 .i64 (k : Int) (by omega) (by omega)
    rw [this]
    simp [go_sem, sliced, sizeOf, typeInfo, hi, hs]
  · refine ⟨by rw [List.length_drop]; have := h.1; omega, ?_⟩
    by_cases hz : l.drop k = []
    · exact .inl hz
    have hlt : k < l.length := by
      apply Classical.byContradiction
      intro hn
      exact hz (List.drop_eq_nil_of_le (by omega))
    rw [if_neg (by omega)]
    rcases h.2 with rfl | ⟨x, rfl, hcc⟩
    · simp at hlt
    · refine .inr ⟨_, rfl, fun i hi => ?_⟩
      rw [List.length_drop] at hi
      rw [add_addI x k i, hcc (k + i) (by omega)]
      simp [List.getD_eq_getElem?_getD]
theorem IsInts.take {W : World} {va : Option Addr} {l : List Int} (h : IsInts W va l) (k : Nat) : IsInts W va (l.take k) := by
  refine ⟨by rw [List.length_take]; have := h.1; omega, ?_⟩
  rcases h.2 with rfl | ⟨x, rfl, hc⟩
  · left; simp
  · refine .inr ⟨x, rfl, fun i hi => ?_⟩
    rw [List.length_take] at hi
    rw [hc i (by omega)]
    simp [List.getD_eq_getElem?_getD, List.getElem?_take, show i < k by omega]
theorem run_nilI {B : Nat} {W : World} {v : Value} {l : List Int} (h : OwnI B W v l) (ty : TypeId) (c : Nat) : (Builtin.append_ #[22, 22] ty #[v, .slice none 0 c]).run Try.prog W = .ok v W := by
  obtain ⟨i0, hi, h1, h2, h3⟩ := info_get info_int
  rcases h.2 with ⟨rfl, -⟩ | ⟨g, cap, cur, rfl, -, -, hnc, -⟩
  · simp [Builtin.append_, run_underlying Try.underlying22, sizeOf, typeInfo, hi, Builtin.lenOf, Builtin.firstCells]
  · simp [Builtin.append_, run_underlying Try.underlying22, sizeOf, typeInfo, hi, Builtin.lenOf, Builtin.firstCells, hnc, storeCells]
theorem app_rowI {W : World} {ops : Array Oper} {rest : List Oper} {o : Oper} {a : Act} {Q : Exit → Act → World → Prop} (hgd : o.guard = none) (s x : Operand)
    (ho : o.op = .call { callee := .builtin .append, args := #[s, x], argTypes := #[22, 22] })
    (B : Nat) (v : Value) (l ys : List Int) (hs : a.eval s = v) (hown : OwnI B W v l) (va : Option Addr) (m c : Nat) (hx : a.eval x = .slice va m c) (hm : m = ys.length) (hys : IsInts W va ys) (hl : l.length + ys.length ≤ 1000000) (hB : B ≤ W.heap.size)
    (h : ∀ v' w', OwnI B w' v' (l ++ ys) → Below B W w' → wpList Try.prog ops Q rest (a.put o.dst v') w') : wpList Try.prog ops Q (o :: rest) a W := by
  obtain ⟨i0, hi, h1, h2, h3⟩ := info_get info_int
  have hf : ∀ q : List Int, q.flatMap fI = q.map (Value.int .i64 ·) := fun q => flatMap_fI q
  have hown' : W.ownsRow B 3 1 v l.length (l.flatMap fI) := hown
  cases va with
  | none =>
    have hy : ys = [] := by
      rcases hys.2 with e | ⟨x, e, -⟩
      · exact e
      · cases e
    subst hy
    obtain rfl : m = 0 := by simpa using hm
    refine wpList_plain hgd fun K hK => ?_
    have hrun := run_nilI hown o.type c
    unfold Oper.wp
    simp only [execOp, ho, resolve, invoke, builtin, Sem.run_bind, Sem.run_pure, Result.andThen_ok, List.map_toArray, List.map_cons, List.map_nil, hs, hx, hrun]
    exact hK _ _ (h v W (by rw [List.append_nil]; exact hown) (Below.refl _ _))
  | some ad =>
    have hc : ∀ j u, (ys.map (Value.int .i64 ·))[j]? = some u → W.cell? (ad.add j) = some u := by
      intro j u hj
      rcases hys.2 with rfl | ⟨x, e, hc⟩
      · simp at hj
      · injection e with e; subst e
        rw [List.getElem?_map] at hj
        cases hq : ys[j]? with
        | none => rw [hq] at hj; simp at hj
        | some z =>
          rw [hq] at hj
          have hlt := (List.getElem?_eq_some_iff.1 hq).1
          simp only [Option.map_some, Option.some.injEq] at hj
          rw [hc j hlt, ← hj]
          simp [List.getD_eq_getElem?_getD, hq]
    refine wpList_append_own _ hgd s x 22 ho B 3 i0 (.int .i64 0) 1 8 Try.underlying22 hi h1 h2 h3 rfl (by decide) v l.length (l.flatMap fI) hs hown' ad m c (ys.map (Value.int .i64 ·)) hx (by rw [List.length_map, hm, Nat.mul_one]) hc (by intro u hu; obtain ⟨z, -, rfl⟩ := List.mem_map.1 hu; rfl) (by unfold maxLen; omega) (by omega) hB ?_
    intro v' w' ho' hg' _
    refine h v' w' ?_ ((Below.refl _ _).grown hg' hB (fun j hj => (World.ownsRow.lt hown' j hj).1))
    unfold OwnI OwnS
    rw [List.length_append, List.flatMap_append, hf ys, ← hm]
    exact ho'
/-- Ends from a place on, in order. -/
structure From (L : List UInt8) (i : Nat) (a : List Nat) : Prop where
  len : a.length + i = L.length
  rg : ∀ x ∈ a, i ≤ x ∧ x < L.length
  inc : a.Pairwise (fun p q => key L p L.length < key L q L.length)
theorem From.put {L : List UInt8} {i t : Nat} {a : List Nat} (h : From L (i + 1) a) (ht : t ≤ a.length) (h1 : ∀ j, t ≤ j → j < a.length → key L i L.length < key L (a.getD j 0) L.length) (h2 : 0 < t → key L (a.getD (t - 1) 0) L.length < key L i L.length) : From L i (a.take t ++ i :: a.drop t) := by
  have hlen := h.len
  refine ⟨by simp; omega, fun x hx => ?_, ?_⟩
  · rcases List.mem_append.1 hx with e | e
    · have := h.rg x (List.mem_of_mem_take e); omega
    · rcases List.mem_cons.1 e with e | e
      · omega
      · have := h.rg x (List.mem_of_mem_drop e); omega
  · have lt1 : ∀ x ∈ a.take t, key L x L.length < key L i L.length := by
      intro x hx
      obtain ⟨j, hj, e⟩ := List.getElem_of_mem hx
      rw [List.length_take] at hj
      have hj2 : j < a.length := by omega
      have e2 : a.getD j 0 = x := by rw [List.getElem_take] at e; rw [List.getD_eq_getElem?_getD, List.getElem?_eq_getElem hj2, Option.getD_some, e]
      have h3 := h2 (by omega)
      by_cases f : j = t - 1
      · subst f; rw [e2] at h3; exact h3
      · have := pw_getD h.inc j (t - 1) (by omega) (by omega)
        rw [e2] at this; omega
    have lt2 : ∀ x ∈ a.drop t, key L i L.length < key L x L.length := by
      intro x hx
      obtain ⟨j, hj, e⟩ := List.getElem_of_mem hx
      rw [List.length_drop] at hj
      have e2 : a.getD (t + j) 0 = x := by rw [List.getElem_drop] at e; rw [List.getD_eq_getElem?_getD, List.getElem?_eq_getElem (by omega), Option.getD_some, e]
      have := h1 (t + j) (by omega) (by omega)
      rwa [e2] at this
    rw [List.pairwise_append, List.pairwise_cons]
    refine ⟨List.Pairwise.sublist (List.take_sublist t a) h.inc, ⟨fun y hy => lt2 y hy, List.Pairwise.sublist (List.drop_sublist t a) h.inc⟩, fun x hx y hy => ?_⟩
    rcases List.mem_cons.1 hy with e | e
    · subst e; exact lt1 x hx
    · have := lt1 x hx; have := lt2 y e; omega
theorem From.suf {L : List UInt8} {a : List Nat} (h : From L 0 a) : IsSuf L a := ⟨h.len, fun x hx => (h.rg x hx).2, h.inc⟩
def nI (a : List Nat) : List Int := a.map (fun x : Nat => (x : Int))
theorem nI_len (a : List Nat) : (nI a).length = a.length := by simp [nI]
theorem nI_put (a : List Nat) (t i : Nat) : (nI a).take t ++ [(i : Int)] ++ (nI a).drop t = nI (a.take t ++ i :: a.drop t) := by simp [nI, List.map_take, List.map_drop]
set_option maxHeartbeats 3200000 in
theorem dSort (L : List UInt8) (w : World) (hL : L.length ≤ 10000) :
    Calls Try.prog 13 #[.string (sM L)] w fun e w' => ∃ v a, e = .returned v ∧ OwnI w.heap.size w' v (nI a) ∧ IsSuf L a ∧ Below w.heap.size w w' := by
  have hS : (sM L).size = L.length := sM_size L
  go_enter Try.func13, Try.ntmps13
  go_wp2_with fail
  go_loopw [3, 4] (fun ov iv wr => ∃ (i : Nat) (a : List Nat), i ≤ L.length ∧ iv = .int .i64 ((i : Int) - 1) ∧ Hid (From L i a) ∧ Hid (OwnI w.heap.size wr ov (nI a)) ∧ Hid (Below w.heap.size w wr)) (fun _ iv _ => (intOf iv + 1).toNat)
  case atStart => exact ⟨L.length, [], Nat.le_refl _, rfl, Lib.hid ⟨by simp, fun x hx => (by cases hx), List.Pairwise.nil⟩, Lib.hid OwnS.nil, Lib.hid (Below.refl _ _)⟩
  case round =>
    obtain ⟨i, a, hi, rfl, HF, HO, HB⟩ := hrel
    by_cases hi0 : i = 0
    · subst hi0
      go_wp2_with fail
      go_ret
      exact ⟨_, a, rfl, HO.out, HF.out.suf, HB.out⟩
    · obtain ⟨i, rfl⟩ : ∃ i', i = i' + 1 := ⟨i - 1, by omega⟩
      have e1 : ((i + 1 : Nat) : Int) - 1 = (i : Int) := by omega
      rw [e1]
      have hi1 : (0 : Int) ≤ (i : Int) := by omega
      obtain ⟨va, vc, hv⟩ := HO.out.slice
      rw [nI_len] at hv
      subst hv
      have hal := HF.out.len
      obtain ⟨wo, rfl⟩ : ∃ wo : World, wo = wr := ⟨_, rfl⟩
      have HIs := Lib.hid (show IsInts wo va (nI a) by
        obtain ⟨a', c', e, h⟩ := HO.out.isL (by rw [nI_len]; omega)
        injection e with e1 e2 e3; subst e1; exact h)
      have HV := Lib.hid (show a.length ≤ vc by
        rcases HO.out.2 with ⟨e, h0⟩ | ⟨g', cap', cur, e, -, -, hnc, -⟩
        · injection e with e1 e2 e3; rw [nI_len] at h0; omega
        · injection e with e1 e2 e3; rw [nI_len] at hnc; omega)
      go_wp2_with fail
      go_loopw [5] (fun tv wr => ∃ t : Nat, t ≤ a.length ∧ tv = .int .i64 t ∧ Hid (∀ j, t ≤ j → j < a.length → key L i L.length < key L (a.getD j 0) L.length) ∧ Hid (Below wo.heap.size wo wr)) (fun tv _ => (intOf tv).toNat)
      case atStart => exact ⟨a.length, Nat.le_refl _, rfl, Lib.hid (fun j h h2 => by omega), Lib.hid (Below.refl _ _)⟩
      case round =>
        obtain ⟨t, ht, rfl, HT, HW⟩ := hrel
        by_cases hcond : 0 < t ∧ key L i L.length < key L (a.getD (t - 1) 0) L.length
        · obtain ⟨ht0, hk⟩ := hcond
          obtain ⟨z, hz⟩ : ∃ z, t - 1 = z := ⟨_, rfl⟩
          have hzi : (t : Int) - 1 = (z : Int) := by omega
          have hzt : (z : Int) < a.length := by omega
          have ht1 : (0 : Int) < t := by omega
          rw [hz] at hk
          obtain ⟨x, rfl, hxb, hc⟩ := (HIs.out.kept HW.out).at z (by rw [nI_len]; omega)
          have cp := hc z (by rw [nI_len]; omega)
          have hg : (nI a).getD z 0 = ((a.getD z 0 : Nat) : Int) := mapN_getD a z (by omega)
          rw [hg] at cp
          have hp := HF.out.rg _ (getD_mem a z (by omega))
          obtain ⟨p, hpp⟩ : ∃ p, a.getD z 0 = p := ⟨_, rfl⟩
          rw [hpp] at cp hp hk
          have s1 := slD L (p : Int) p rfl (by omega)
          have s2 := slD L (i : Int) i rfl (by omega)
          have g1 := gtrD L p i (by omega) (by omega) 9
          rw [decide_eq_true hk] at g1
          have hpi : (p : Int) ≤ L.length := by omega
          have hii : (i : Int) ≤ L.length := by omega
          have HT2 := Lib.hid (show ∀ j, z ≤ j → j < a.length → key L i L.length < key L (a.getD j 0) L.length from fun j h h2 => by
            by_cases e : j = z
            · subst e; rw [hpp]; exact hk
            · exact HT.out j (by omega) h2)
          have hzt2 : z ≤ a.length := by omega
          have hzlt : z < t := by omega
          obtain ⟨A, hA⟩ : ∃ A, sM (L.drop p) = A := ⟨_, rfl⟩
          obtain ⟨C, hC⟩ : ∃ A, sM (L.drop i) = A := ⟨_, rfl⟩
          rw [hA] at s1 g1
          rw [hC] at s2 g1
          clear hc hg hpp hz hk hA hC
          go_wp2_with fail
          go_quiet (fail)
          go_wp2_with fail
          go_roundw
          case rel => exact ⟨z, hzt2, rfl, HT2, Lib.hid (below_dn HW.out _)⟩
          case measure => simp [intOf] <;> omega
        · have HX := Lib.hid (HF.out.put ht HT.out (fun h0 => by
            have hp := HF.out.rg _ (getD_mem a (t - 1) (by omega))
            rcases Nat.lt_trichotomy (key L (a.getD (t - 1) 0) L.length) (key L i L.length) with e | e | e
            · exact e
            · have := key_inj L _ _ L.length (by omega) (by omega) (Nat.le_refl _) e; omega
            · exact absurd ⟨h0, e⟩ hcond))
          obtain ⟨vb, hsd, hvb⟩ := slDrop va a.length vc t ht
          have hst := slTake va a.length vc t (by have := HV.out; omega)
          have HVB := Lib.hid hvb
          have hal2 : a.length ≤ 10000 := by omega
          have s2 := slD L (i : Int) i rfl (by omega)
          have hii : (i : Int) ≤ L.length := by omega
          have htl : ((nI a).take t).length = t := by rw [List.length_take, nI_len]; omega
          have HTL := Lib.hid htl
          obtain ⟨C, hC⟩ : ∃ A, sM (L.drop i) = A := ⟨_, rfl⟩
          rw [hC] at s2
          clear hvb htl
          by_cases ht0 : 0 < t
          · have hk : ¬ key L i L.length < key L (a.getD (t - 1) 0) L.length := fun h => hcond ⟨ht0, h⟩
            obtain ⟨z, hz⟩ : ∃ z, t - 1 = z := ⟨_, rfl⟩
            have hzi : (t : Int) - 1 = (z : Int) := by omega
            have hzt : (z : Int) < a.length := by omega
            have ht1 : (0 : Int) < t := by omega
            rw [hz] at hk
            obtain ⟨x, rfl, hxb, hc⟩ := (HIs.out.kept HW.out).at z (by rw [nI_len]; omega)
            have cp := hc z (by rw [nI_len]; omega)
            have hg : (nI a).getD z 0 = ((a.getD z 0 : Nat) : Int) := mapN_getD a z (by omega)
            rw [hg] at cp
            have hp := HF.out.rg _ (getD_mem a z (by omega))
            obtain ⟨p, hpp⟩ : ∃ p, a.getD z 0 = p := ⟨_, rfl⟩
            rw [hpp] at cp hp hk
            have s1 := slD L (p : Int) p rfl (by omega)
            have g1 := gtrD L p i (by omega) (by omega) 9
            rw [decide_eq_false hk] at g1
            have hpi : (p : Int) ≤ L.length := by omega
            obtain ⟨A, hA⟩ : ∃ A, sM (L.drop p) = A := ⟨_, rfl⟩
            rw [hA] at s1 g1
            rw [hC] at g1
            clear hc hg hpp hz hk hA hC hcond
            go_wp2_with fail
            go_quiet (fail)
            have HW2 := Lib.hid (below_dn HW.out nq)
            have HI2 := Lib.hid ((HIs.out.kept HW2.out).take t)
            have HS2 := Lib.hid HW2.out.size
            have HBO := Lib.hid HB.out.size
            have HL1 := Lib.hid (show ([] : List Int).length + ((nI a).take t).length ≤ 1000000 by rw [HTL.out]; simp; omega)
            go_wp2_with (first | (at_builtin; refine app_rowI rfl _ _ rfl wo.heap.size _ [] ((nI a).take t) rfl OwnS.nil _ t vc rfl HTL.out.symm HI2.out HL1.out HS2.out ?_; intro v1 w1 ho1 hb1; have HB1 := Lib.hid (HW2.out.trans hb1); have HO1 := Lib.hid ho1; have HS1 := Lib.hid HB1.out.size; have HL2 := Lib.hid (show ([] ++ (nI a).take t).length ≤ 1099511627776 by rw [List.nil_append, HTL.out]; omega); clear ho1 hb1) | (at_builtin; refine app_int rfl _ _ rfl wo.heap.size _ v1 _ (i : Int) rfl HO1.out w1.heap.size 1 rfl rfl HL2.out HS1.out ?_; intro v2 w2 ho2 hb2 hg2; have HB2 := Lib.hid (HB1.out.trans hb2); have HO2 := Lib.hid ho2; have HS3 := Lib.hid HB2.out.size; have HI3 := Lib.hid (HVB.out w2 (nI a) (nI_len a) HV.out (HIs.out.kept HB2.out)); have HL3 := Lib.hid (show ([] ++ (nI a).take t ++ [(i : Int)]).length + ((nI a).drop t).length ≤ 1000000 by rw [List.nil_append, List.length_append, HTL.out, List.length_drop, nI_len]; simp; omega); have HL4 := Lib.hid (show a.length - t = ((nI a).drop t).length by rw [List.length_drop, nI_len]); clear ho2 hb2 hg2) | (at_builtin; refine app_rowI rfl _ _ rfl wo.heap.size _ _ ((nI a).drop t) rfl HO2.out vb (a.length - t) (vc - t) rfl HL4.out HI3.out HL3.out HS3.out ?_; intro v3 w3 ho3 hb3))
            have HB3 := Lib.hid (HB.out.trans ((HB2.out.trans hb3).mono HBO.out))
            have HO3 := Lib.hid (show OwnI w.heap.size w3 v3 (nI (a.take t ++ i :: a.drop t)) by rw [← nI_put]; rw [List.nil_append] at ho3; exact ho3.base HBO.out)
            clear ho3 hb3
            go_wp2_with fail
            go_roundw
            case rel => exact ⟨i, _, by omega, by go_num, HX, HO3, HB3⟩
            case measure => simp [intOf] <;> omega
          · have ht1 : ¬ (0 : Int) < t := by omega
            clear hcond hC
            go_wp2_with fail
            go_quiet (fail)
            have HW2 := Lib.hid (below_dn HW.out nq)
            have HI2 := Lib.hid ((HIs.out.kept HW2.out).take t)
            have HS2 := Lib.hid HW2.out.size
            have HBO := Lib.hid HB.out.size
            have HL1 := Lib.hid (show ([] : List Int).length + ((nI a).take t).length ≤ 1000000 by rw [HTL.out]; simp; omega)
            go_wp2_with (first | (at_builtin; refine app_rowI rfl _ _ rfl wo.heap.size _ [] ((nI a).take t) rfl OwnS.nil _ t vc rfl HTL.out.symm HI2.out HL1.out HS2.out ?_; intro v1 w1 ho1 hb1; have HB1 := Lib.hid (HW2.out.trans hb1); have HO1 := Lib.hid ho1; have HS1 := Lib.hid HB1.out.size; have HL2 := Lib.hid (show ([] ++ (nI a).take t).length ≤ 1099511627776 by rw [List.nil_append, HTL.out]; omega); clear ho1 hb1) | (at_builtin; refine app_int rfl _ _ rfl wo.heap.size _ v1 _ (i : Int) rfl HO1.out w1.heap.size 1 rfl rfl HL2.out HS1.out ?_; intro v2 w2 ho2 hb2 hg2; have HB2 := Lib.hid (HB1.out.trans hb2); have HO2 := Lib.hid ho2; have HS3 := Lib.hid HB2.out.size; have HI3 := Lib.hid (HVB.out w2 (nI a) (nI_len a) HV.out (HIs.out.kept HB2.out)); have HL3 := Lib.hid (show ([] ++ (nI a).take t ++ [(i : Int)]).length + ((nI a).drop t).length ≤ 1000000 by rw [List.nil_append, List.length_append, HTL.out, List.length_drop, nI_len]; simp; omega); have HL4 := Lib.hid (show a.length - t = ((nI a).drop t).length by rw [List.length_drop, nI_len]); clear ho2 hb2 hg2) | (at_builtin; refine app_rowI rfl _ _ rfl wo.heap.size _ _ ((nI a).drop t) rfl HO2.out vb (a.length - t) (vc - t) rfl HL4.out HI3.out HL3.out HS3.out ?_; intro v3 w3 ho3 hb3))
            have HB3 := Lib.hid (HB.out.trans ((HB2.out.trans hb3).mono HBO.out))
            have HO3 := Lib.hid (show OwnI w.heap.size w3 v3 (nI (a.take t ++ i :: a.drop t)) by rw [← nI_put]; rw [List.nil_append] at ho3; exact ho3.base HBO.out)
            clear ho3 hb3
            go_wp2_with fail
            go_roundw
            case rel => exact ⟨i, _, by omega, by go_num, HX, HO3, HB3⟩
            case measure => simp [intOf] <;> omega
end Go.Proofs.Ytpkidedepcnoaaa
