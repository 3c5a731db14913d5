/- Layer 43, the document's: Same, put. -/
import Derived.Test.YtdonecbcnkipbaaAQ3
namespace Go.Proofs.Ytdonecbcnkipbaa
open Go.ChangeShapes Go.WideShapes Go.ChangeAt Go.RowKit
set_option linter.unusedVariables false
set_option linter.unusedSimpArgs false
set_option maxRecDepth 100000
open RollMath Gm
theorem take_getDG (l : List Gr) (k : Nat) (h : k < l.length) : l.take (k + 1) = l.take k ++ [l.getD k ([], 0)] := by
  rw [List.take_succ_eq_append_getElem h]; simp [List.getD_eq_getElem?_getD, h]
set_option maxHeartbeats 1600000 in
theorem dSameG (a b : Option Addr) (ca cb : Nat) (l m : List Gr) (w : World) (h1 : IsGr w a l) (h2 : IsGr w b m) (hl1 : l.length ≤ 1000000) (hl2 : m.length ≤ 1000000) :
    Calls Try.prog 9 #[.slice a l.length ca, .slice b m.length cb] w fun e w' => e = .returned (.bool (decide (l = m))) ∧ ∃ k, w' = w.drewN k := by
  obtain ⟨B, hB⟩ : ∃ B, decide (l = m) = B := ⟨_, rfl⟩
  rw [hB]
  replace hB := hB.symm
  by_cases hlen : l.length = m.length
  · have hne : ((l.length : Int) == (m.length : Int)) = true := by simp [hlen]
    have hne' : ((l.length : Int) != (m.length : Int)) = false := by simp [hlen]
    have hlen_ := Lib.hid hlen
    have hB_ := Lib.hid hB
    have h1_ := Lib.hid h1
    have h2_ := Lib.hid h2
    clear hlen hB h1 h2
    go_enter Try.func9, Try.ntmps9
    go_wp2
    clear hne hne'
    go_loopw [5] (fun i wr => ∃ k : Nat, k ≤ l.length ∧ i = .int .i64 k ∧ Hid (l.take k = m.take k) ∧ ∃ q, wr = w.drewN q) (fun i _ => l.length - (intOf i).toNat)
    case atStart => exact ⟨0, Nat.zero_le _, rfl, Lib.hid rfl, 0, rfl⟩
    case round =>
      obtain ⟨k, hk, rfl, ht, q, rfl⟩ := hrel
      by_cases hlt : k < l.length
      · obtain ⟨x, rfl, -, cx, cx2⟩ := h1_.out.at k hlt
        have hltm : k < m.length := by have := hlen_.out; omega
        obtain ⟨y, rfl, -, cy, cy2⟩ := h2_.out.at k hltm
        obtain ⟨X, hX⟩ : ∃ X, l.getD k ([], 0) = X := ⟨_, rfl⟩
        obtain ⟨Y, hY⟩ : ∃ Y, m.getD k ([], 0) = Y := ⟨_, rfl⟩
        rw [hX] at cx cx2; rw [hY] at cy cy2
        obtain ⟨x0, x1⟩ := X
        obtain ⟨y0, y1⟩ := Y
        simp only at cx cx2 cy cy2
        have hs := sT_eq x0 y0
        by_cases h0 : x0 = y0
        · rw [decide_eq_true h0] at hs
          by_cases h1 : x1 = y1
          · have hj : ((x1 : Int) == (y1 : Int)) = true := by rw [beq_iff_eq]; omega
            have HT := Lib.hid (show l.take (k + 1) = m.take (k + 1) by rw [take_getDG l k hlt, take_getDG m k hltm, ht.out, hX, hY, h0, h1])
            clear hX hY h0 h1
            go_wp2
            go_region
            go_wp2
            go_roundw
            case rel => exact ⟨k + 1, by omega, by go_num, HT, _, rfl⟩
            case measure => simp [intOf]; omega
          · have hj : ((x1 : Int) == (y1 : Int)) = false := by rw [beq_eq_false_iff_ne]; omega
            have HF := Lib.hid (show B = false by
              rw [hB_.out, decide_eq_false_iff_not]
              rintro rfl
              rw [hX] at hY; injection hY with e1 e2; exact h1 e2)
            clear hX hY h0 h1
            go_wp2
            go_region
            go_wp2
            go_ret
            exact ⟨ret_b HF.out.symm, _, rfl⟩
        · rw [decide_eq_false h0] at hs
          have HF := Lib.hid (show B = false by
            rw [hB_.out, decide_eq_false_iff_not]
            rintro rfl
            rw [hX] at hY; injection hY with e1 e2; exact h0 e1)
          clear hX hY h0
          go_wp2
          go_region
          go_wp2
          go_ret
          exact ⟨ret_b HF.out.symm, _, rfl⟩
      · have HF := Lib.hid (show B = true by
          rw [hB_.out, decide_eq_true_iff]
          have h := ht.out
          have hl := hlen_.out
          rw [List.take_of_length_le (by omega), List.take_of_length_le (by omega)] at h
          exact h)
        go_wp2
        go_ret
        exact ⟨ret_b HF.out.symm, _, rfl⟩
  · have HF := Lib.hid (show B = false by rw [hB, decide_eq_false_iff_not]; rintro rfl; exact hlen rfl)
    have e1 : ((l.length : Int) == (m.length : Int)) = false := by rw [beq_eq_false_iff_ne]; omega
    have e2 : ((l.length : Int) != (m.length : Int)) = true := by rw [bne, e1]; rfl
    clear hlen hB
    go_enter Try.func9, Try.ntmps9
    go_wp2
    go_ret
    exact ⟨ret_b HF.out.symm, 0, rfl⟩
theorem add_noughtG (x : Addr) : x.add 0 = x := by
  obtain ⟨b, o, e⟩ := x
  simp [Addr.add]
theorem add_addG (x : Addr) (t i : Nat) : (x.add t).add i = x.add (t + i) := by
  obtain ⟨b, o, e⟩ := x
  by_cases hi : i = 0 <;> by_cases ht : t = 0 <;> simp [Addr.add, hi, ht, Nat.add_assoc]
theorem add_one (x : Addr) : x.add 1 = ⟨x.block, x.off + 1, none⟩ := by
  obtain ⟨b, o, e⟩ := x
  simp [Addr.add]
theorem add_fst (x : Addr) (i : Nat) : x.add (i * 2 + 1) = ⟨(x.add (i * 2)).block, (x.add (i * 2)).off + 1, none⟩ := by
  rw [← add_one, add_addG]
theorem slTakeG (va : Option Addr) (n vc k : Nat) (hk : k ≤ vc) (W : World) : (Instr.slice 31 (.slice va n vc) none (some (.int .i64 (k : Int))) none).run Try.prog W = .ok (.slice va k vc) W := by
  obtain ⟨i, hi, hz, hs, hb⟩ := info_get info_gram
  have := run_slice_h (P := Try.prog) (w := W) 31 va n vc Try.underlying31 .i64 (k : Int) (by omega) (by omega)
  rw [this]
  have e : va.map (fun x => x.add 0) = va := by cases va <;> simp [add_noughtG]
  simp [go_sem, sliced, sizeOf, typeInfo, hi, hs, e]
theorem slDropG (va : Option Addr) (n vc k : Nat) (hk : k ≤ n) : ∃ vb, (∀ W : World, (Instr.slice 31 (.slice va n vc) (some (.int .i64 (k : Int))) none none).run Try.prog W = .ok (.slice vb (n - k) (vc - k)) W) ∧ ∀ (W : World) (l : List Gr), l.length = n → n ≤ vc → IsGr W va l → IsGr W vb (l.drop k) := by
  obtain ⟨i, hi, hz, hs, hb⟩ := info_get info_gram
  refine ⟨if vc = k then va else va.map (fun x => x.add (k * 2)), fun W => ?_, fun W l hl hc h => ?_⟩
  · have := run_slice_l (P := Try.prog) (w := W) 31 va n vc Try.underlying31 .i64 (k : Int) (by omega) (by omega)
    rw [this]
    simp [go_sem, sliced, sizeOf, typeInfo, hi, hs]
  · by_cases hz : l.drop k = []
    · exact .inl hz
    have hlt : k < l.length := by
      apply Classical.byContradiction
      intro hn
      exact hz (List.drop_eq_nil_of_le (by omega))
    rw [if_neg (by omega)]
    rcases h with rfl | ⟨x, rfl, hcc⟩
    · simp at hlt
    · refine .inr ⟨_, rfl, fun i hi => ?_⟩
      rw [List.length_drop] at hi
      have := hcc (k + i) (by omega)
      rw [add_addG x (k * 2) (i * 2), show k * 2 + i * 2 = (k + i) * 2 by omega]
      have e : (l.drop k).getD i ([], 0) = l.getD (k + i) ([], 0) := by simp [List.getD_eq_getElem?_getD]
      rw [e]; exact this
theorem IsGr.take {W : World} {va : Option Addr} {l : List Gr} (h : IsGr W va l) (k : Nat) : IsGr W va (l.take k) := by
  rcases h with rfl | ⟨x, rfl, hc⟩
  · left; simp
  · refine .inr ⟨x, rfl, fun i hi => ?_⟩
    rw [List.length_take] at hi
    have e : (l.take k).getD i ([], 0) = l.getD i ([], 0) := by simp [List.getD_eq_getElem?_getD, List.getElem?_take, show i < k by omega]
    rw [e]
    exact hc i (by omega)
theorem run_nilG {B : Nat} {W : World} {v : Value} {l : List Gr} (h : OwnG B W v l) (ty : TypeId) (c : Nat) : (Builtin.append_ #[31, 31] ty #[v, .slice none 0 c]).run Try.prog W = .ok v W := by
  obtain ⟨i0, hi, h1, h2, h3⟩ := info_get info_gram
  rcases h.2 with ⟨rfl, -⟩ | ⟨g, cap, cur, rfl, -, -, hnc, -⟩
  · simp [Builtin.append_, run_underlying Try.underlying31, sizeOf, typeInfo, hi, Builtin.lenOf, Builtin.firstCells]
  · simp [Builtin.append_, run_underlying Try.underlying31, sizeOf, typeInfo, hi, Builtin.lenOf, Builtin.firstCells, hnc, storeCells]
theorem app_rowG {W : World} {ops : Array Oper} {rest : List Oper} {o : Oper} {a : Act} {Q : Exit → Act → World → Prop} (hgd : o.guard = none) (s x : Operand)
    (ho : o.op = .call { callee := .builtin .append, args := #[s, x], argTypes := #[31, 31] })
    (B : Nat) (v : Value) (l ys : List Gr) (hs : a.eval s = v) (hown : OwnG B W v l) (va : Option Addr) (m c : Nat) (hx : a.eval x = .slice va m c) (hm : m = ys.length) (hys : IsGr W va ys) (hl : l.length + ys.length ≤ 1000000) (hB : B ≤ W.heap.size)
    (h : ∀ v' w', OwnG B w' v' (l ++ ys) → Below B W w' → wpList Try.prog ops Q rest (a.put o.dst v') w') : wpList Try.prog ops Q (o :: rest) a W := by
  obtain ⟨i0, hi, h1, h2, h3⟩ := info_get info_gram
  cases va with
  | none =>
    have hy : ys = [] := by
      rcases hys with e | ⟨x, e, -⟩
      · exact e
      · cases e
    subst hy
    obtain rfl : m = 0 := by simpa using hm
    refine wpList_plain hgd fun K hK => ?_
    have hrun := run_nilG hown o.type c
    unfold Oper.wp
    simp only [execOp, ho, resolve, invoke, builtin, Sem.run_bind, Sem.run_pure, Result.andThen_ok, List.map_toArray, List.map_cons, List.map_nil, hs, hx, hrun]
    exact hK _ _ (h v W (by rw [List.append_nil]; exact hown) (Below.refl _ _))
  | some ad =>
    have hfl := flat_len flatG ys
    have hc : ∀ j u, (ys.flatMap fG)[j]? = some u → W.cell? (ad.add j) = some u := by
      intro j u hj
      have hjl := (List.getElem?_eq_some_iff.1 hj).1
      rcases hys with rfl | ⟨x, e, hc⟩
      · simp at hj
      · injection e with e; subst e
        have hi2 : j / 2 < ys.length := by omega
        have hg := flat_get flatG ys (j / 2) (j % 2) ys[j / 2] (by simp [hi2]) (Nat.mod_lt _ (by decide))
        rw [Nat.mul_comm, Nat.div_add_mod] at hg
        rw [hg] at hj
        obtain ⟨c0, c1⟩ := hc (j / 2) hi2
        have e2 : ys.getD (j / 2) ([], 0) = ys[j / 2] := by simp [List.getD_eq_getElem?_getD, hi2]
        rw [e2] at c0 c1
        rcases Nat.mod_two_eq_zero_or_one j with e | e
        · rw [e] at hj
          have ej : j / 2 * 2 = j := by omega
          rw [ej] at c0
          rw [c0]; simpa [fG] using hj
        · rw [e] at hj
          have ej : j / 2 * 2 + 1 = j := by omega
          rw [← add_fst, ej] at c1
          rw [c1]; simpa [fG] using hj
    refine wpList_append_own _ hgd s x 31 ho B 35 i0 (.agg #[.string ⟨#[]⟩, .int .i64 0]) 2 24 Try.underlying31 hi h1 h2 h3 rfl (by decide) v l.length (l.flatMap fG) hs hown ad m c (ys.flatMap fG) hx (by rw [hfl, hm]) hc (flat_one flatG ys) (by unfold maxLen; omega) (by omega) hB ?_
    intro v' w' ho' hg' _
    refine h v' w' ?_ ((Below.refl _ _).grown hg' hB (fun j hj => (World.ownsRow.lt hown j hj).1))
    unfold OwnG OwnS
    rw [List.length_append, List.flatMap_append, ← hm]
    exact ho'
theorem app_gram {X : World} {ops : Array Oper} {rest : List Oper} {o : Oper} {a : Act} {Q : Exit → Act → World → Prop} (hgd : o.guard = none) (s xo : Operand)
    (ho : o.op = .call { callee := .builtin .append, args := #[s, xo], argTypes := #[31, 31] })
    (B T : Nat) (v : Value) (l : List Gr) (x : Gr) (hs : a.eval s = v) (hown : OwnG B X v l) (g c1 : Nat) (hg : X.heap.size = g) (hx : a.eval xo = .slice (some ⟨g, 0, none⟩) 1 c1) (hl : l.length ≤ 1000000) (hB : B ≤ X.heap.size)
    (h : ∀ v' w', OwnG B w' v' (l ++ [x]) → Below B X w' → X.grownBy w' v.ownBlock → wpList Try.prog ops Q rest (a.put o.dst v') w') : wpList Try.prog ops Q (o :: rest) a (X.alloc (.cells #[.string (sT x.1), .int .i64 (x.2 : Int)] T)) :=
  app_one (f := fG) info_gram rfl (by decide) (by decide) Try.underlying31 flatG hgd s xo ho B T v l x hs hown g c1 hg hx (by omega) hB h
end Go.Proofs.Ytdonecbcnkipbaa
