/- Layer 7: two rows of coins as one. -/
import Derived.Test.YtofmjcelmbkebaaAI2
import Derived.Deep.RegionLaw
import Derived.Deep.DeepMust
namespace Go.Proofs.Ytofmjcelmbkebaa
open Go.ChangeShapes Go.WideShapes Go.ChangeAt Go.RowKit
set_option linter.unusedVariables false
set_option linter.unusedSimpArgs false
set_option maxRecDepth 100000
open Pm
theorem run_coin {X : World} (B T : Nat) (ty : TypeId) (v : Value) (l : List Coin) (x : Int) (b : Bool) (hown : OwnC B X v l) (g c1 : Nat) (hg : X.heap.size = g) (hl : l.length ≤ 1099511627776) (hB : B ≤ X.heap.size) :
    ∃ v' w', (Builtin.append_ #[47, 47] ty #[v, .slice (some ⟨g, 0, none⟩) 1 c1]).run Try.prog (X.alloc (.cells #[.int .i64 x, .bool b] T)) = .ok v' w' ∧ OwnC B w' v' (l ++ [(x, b)]) ∧ Below B X w' := by
  subst hg
  obtain ⟨i0, hi, h1, h2, h3⟩ := info_get info_coin
  have hnew : ∀ j u, [Value.int .i64 x, Value.bool b][j]? = some u → (X.alloc (.cells #[.int .i64 x, .bool b] T)).cell? ((⟨X.heap.size, 0, none⟩ : Addr).add j) = some u := by
    refine cells_of (fun j hj => ?_)
    rw [cell_in (heap_alloc_new X _)]; simp
  obtain ⟨v', w', hr, ho', hg', -⟩ := run_append_own (P := Try.prog) (X.alloc (.cells #[.int .i64 x, .bool b] T)) B 47 ty 49 i0 _ 2 16 Try.underlying47 hi h1 h2 h3 rfl (by decide) v l.length (l.flatMap fC) (World.ownsRow.alloc hown _) ⟨X.heap.size, 0, none⟩ 1 c1 [.int .i64 x, .bool b] rfl hnew (by intro u hu; simp at hu; rcases hu with rfl | rfl <;> rfl) (by unfold maxLen; omega) (by omega) (by simp; omega)
  refine ⟨v', w', hr, ?_, ?_⟩
  · have e : (l ++ [(x, b)]).flatMap fC = l.flatMap fC ++ [.int .i64 x, .bool b] := by simp [fC]
    show World.ownsRow w' B _ 2 v' (l ++ [(x, b)]).length ((l ++ [(x, b)]).flatMap fC)
    rw [e, List.length_append]; exact ho'
  · exact (Below.alloc (Below.refl _ _) hB _).grown hg' (by simp; omega) (fun k hk => (World.ownsRow.lt hown k hk).1)
theorem step_coin {ops : Array Oper} {o : Oper} {a : Act} {X : World} {K : Act → World → Prop} {Q : Exit → Act → World → Prop} {E : Prop} (hgd : o.guard = none) (s xo : Operand)
    (ho : o.op = .call { callee := .builtin .append, args := #[s, xo], argTypes := #[47, 47] })
    (B T : Nat) (v : Value) (l : List Coin) (x : Int) (b : Bool) (hs : a.eval s = v) (hown : OwnC B X v l) (g c1 : Nat) (hg : X.heap.size = g) (hx : a.eval xo = .slice (some ⟨g, 0, none⟩) 1 c1) (hl : l.length ≤ 1099511627776) (hB : B ≤ X.heap.size)
    (h : ∀ v' w', OwnC B w' v' (l ++ [(x, b)]) → Below B X w' → K (a.put o.dst v') w') :
    if Region.wanted o (yielded ops a.tmps) = true then Oper.wp Try.prog o a (X.alloc (.cells #[.int .i64 x, .bool b] T)) K Q else E := by
  have hw : Region.wanted o (yielded ops a.tmps) = true := by simp [Region.wanted, hgd]
  rw [if_pos hw]
  obtain ⟨v', w', hr, h2, h3⟩ := run_coin B T o.type v l x b hown g c1 hg hl hB
  unfold Oper.wp execOp
  simp only [ho, resolve, invoke, builtin, Sem.run_bind, Sem.run_pure, Result.andThen_ok, List.map_toArray, List.map_cons, List.map_nil, hs, hx, hr]
  exact h v' w' h2 h3
def slLen : Value → Nat
  | .slice _ n _ => n
  | _ => 0
/-- Coins that lie behind a place. -/
def Lie (w : World) (g o : Nat) (l : List Coin) : Prop := ∀ i c, l[i]? = some c → coAt w g (o + i * 2) c
theorem Lie.tail {w : World} {g o : Nat} {c : Coin} {l : List Coin} (h : Lie w g o (c :: l)) : Lie w g (o + 2) l := fun i d hi => by
  have := h (i + 1) d (by simpa using hi)
  rwa [show o + (i + 1) * 2 = o + 2 + i * 2 by omega] at this
theorem Lie.head {w : World} {g o : Nat} {c : Coin} {l : List Coin} (h : Lie w g o (c :: l)) : coAt w g o c := by
  have := h 0 c rfl
  rwa [Nat.zero_mul, Nat.add_zero] at this
theorem Lie.kept {w w' : World} {g o B : Nat} {l : List Coin} (h : Lie w g o l) (hg : g < B) (hb : Below B w w') : Lie w' g o l := fun i c hi => (h i c hi).kept hg hb
theorem Lie.flat {w : World} {g o : Nat} {l : List Coin} (h : Lie w g o l) : ∀ j u, (l.flatMap fC)[j]? = some u → w.cell? ((⟨g, o, none⟩ : Addr).add j) = some u := by
  intro j u hj
  have e : (⟨g, o, none⟩ : Addr).add j = ⟨g, o + j, none⟩ := by unfold Addr.add; split <;> simp_all
  rw [e]
  have hlt : j < l.length * 2 := by rw [← flat_len flatC l]; exact (List.getElem?_eq_some_iff.1 hj).1
  have hi : j / 2 < l.length := by omega
  have hc := h (j / 2) l[j / 2] (by rw [List.getElem?_eq_getElem hi])
  have hf := flat_get flatC l (j / 2) (j % 2) l[j / 2] (by rw [List.getElem?_eq_getElem hi]) (Nat.mod_lt _ (by decide))
  rw [show j / 2 * 2 + j % 2 = j by omega, hj] at hf
  rcases Nat.mod_two_eq_zero_or_one j with h0 | h1
  · rw [h0] at hf
    have : u = .int .i64 l[j / 2].1 := by simpa [fC] using hf
    rw [this, show o + j = o + j / 2 * 2 by omega]; exact hc.1
  · rw [h1] at hf
    have : u = .bool l[j / 2].2 := by simpa [fC] using hf
    rw [this, show o + j = o + j / 2 * 2 + 1 by omega]; exact hc.2
theorem app_lie {W : World} {ops : Array Oper} {rest : List Oper} {o : Oper} {a : Act} {Q : Exit → Act → World → Prop} (hgd : o.guard = none) (s x : Operand)
    (ho : o.op = .call { callee := .builtin .append, args := #[s, x], argTypes := #[47, 47] })
    (B g p m c : Nat) (v : Value) (l la : List Coin) (hs : a.eval s = v) (hown : OwnC B W v l) (hx : a.eval x = .slice (some ⟨g, p, none⟩) m c) (hm : la.length = m) (hla : Lie W g p la) (hl : l.length + m ≤ 1099511627776) (hB : B ≤ W.heap.size)
    (h : ∀ v' w', OwnC B w' v' (l ++ la) → Below B W w' → wpList Try.prog ops Q rest (a.put o.dst v') w') : wpList Try.prog ops Q (o :: rest) a W := by
  obtain ⟨i0, hi, h1, h2, h3⟩ := info_get info_coin
  refine wpList_append_own W hgd s x 47 ho B 49 i0 _ 2 16 Try.underlying47 hi h1 h2 h3 rfl (by decide) v l.length (l.flatMap fC) hs hown ⟨g, p, none⟩ m c (la.flatMap fC) hx (by rw [flat_len flatC, hm]) hla.flat (flat_one flatC la) (by unfold maxLen; omega) (by omega) hB ?_
  intro v' w' ho' hg' _
  have e : (l ++ la).flatMap fC = l.flatMap fC ++ la.flatMap fC := by simp
  refine h v' w' ?_ ?_
  · show World.ownsRow w' B _ 2 v' (l ++ la).length ((l ++ la).flatMap fC)
    rw [e, List.length_append, hm]; exact ho'
  · exact (Below.refl _ _).grown hg' hB (fun k hk => (World.ownsRow.lt hown k hk).1)
theorem mrg_nil_l : ∀ f (b : List Coin), mrg f [] b = b
  | 0, b => by rw [mrg_zero]; rfl
  | f + 1, b => rfl
theorem mrg_nil_r : ∀ f (a : List Coin), mrg f a [] = a
  | 0, a => by rw [mrg_zero, List.append_nil]
  | f + 1, [] => rfl
  | f + 1, x :: a => by simp [mrg]
set_option maxHeartbeats 3200000 in
theorem pTog (ga oa ca na gb ob cb nb : Nat) (la lb : List Coin) (w : World) (hla : la.length = na) (hlb : lb.length = nb) (ha : Lie w ga oa la) (hb : Lie w gb ob lb) (hga : ga < w.heap.size) (hgb : gb < w.heap.size) (hna : na ≤ 10000) (hnb : nb ≤ 10000) (hca : na ≤ ca) (hcb : nb ≤ cb) (hpos : 0 < na) :
    Calls Try.prog 37 #[.slice (some ⟨ga, oa, none⟩) na ca, .slice (some ⟨gb, ob, none⟩) nb cb, .func (Fn.func 39) #[] #[]] w fun e w' => ∃ gu cu, e = .returned (.slice (some ⟨gu, 0, none⟩) (na + nb) cu) ∧ OwnC w.heap.size w' (.slice (some ⟨gu, 0, none⟩) (na + nb) cu) (mrg (na + nb) la lb) ∧ Below w.heap.size w w' := by
  obtain ⟨B, hB⟩ : ∃ B, w.heap.size = B := ⟨_, rfl⟩
  have HBB := Lib.hid hB
  obtain ⟨T, hT⟩ : ∃ T, mrg (na + nb) la lb = T := ⟨_, rfl⟩
  have hTL : T.length = na + nb := by rw [← hT, mrg_len]; omega
  have HTL := Lib.hid hTL
  rw [hB] at hga hgb
  obtain ⟨i0, hi0, h10, h20, h30⟩ := info_get info_coin
  have HI0 := Lib.hid hi0; have H10 := Lib.hid h10; have H20 := Lib.hid h20; have H30 := Lib.hid h30
  have HA := Lib.hid ha; have HBl := Lib.hid hb; have HLA := Lib.hid hla; have HLB := Lib.hid hlb; have HT := Lib.hid hT
  have CL := Lib.hid (fun a b W => pLight a b W)
  rw [hT]
  clear ha hb hla hlb hT hi0 h10 h20 h30 hTL hB
  go_enter Try.func37, Try.ntmps37
  go_wp2_with (refine wpList_make_own _ rfl _ _ 47 rfl w.heap.size 49 i0 _ 2 Try.underlying47 HI0.out H10.out H20.out .i64 .i64 _ (na + nb) rfl rfl (by omega) (by rw [H30.out]; omega) (by unfold maxLen; omega) (Nat.le_refl _) ?_; intro w2 ho2 hg2)
  have HO := Lib.hid (show OwnC w.heap.size w2 (.slice (some ⟨w.heap.size, 0, none⟩) 0 (na + nb)) [] from ho2)
  have HW := Lib.hid (below_of_grown hg2 (Nat.le_refl _) (fun k hk => by cases hk))
  rw [HBB.out] at HO HW ⊢
  obtain ⟨v0, hv0⟩ : ∃ v0, Value.slice (some ⟨B, 0, none⟩) 0 (na + nb) = v0 := ⟨_, rfl⟩
  rw [hv0] at HO ⊢
  clear hv0 ho2 hg2 HI0 H10 H20 H30
  go_loopw [7, 0, 1] (fun ov av bv wr => ∃ (ma mb pa pb da db : Nat) (xa xb lo : List Coin), av = .slice (some ⟨ga, pa, none⟩) ma da ∧ bv = .slice (some ⟨gb, pb, none⟩) mb db ∧ ma ≤ na ∧ mb ≤ nb ∧ ma ≤ da ∧ mb ≤ db ∧ Hid (xa.length = ma ∧ xb.length = mb ∧ lo.length + ma + mb = na + nb ∧ lo ++ mrg (ma + mb) xa xb = T) ∧ Hid (Lie w ga pa xa) ∧ Hid (Lie w gb pb xb) ∧ Hid (OwnC B wr ov lo) ∧ Hid (Below B w wr)) (fun _ av bv _ => slLen av + slLen bv)
  case atStart => exact ⟨na, nb, oa, ob, ca, cb, la, lb, [], rfl, rfl, Nat.le_refl _, Nat.le_refl _, hca, hcb, Lib.hid ⟨HLA.out, HLB.out, by simp, by simpa using HT.out⟩, HA, HBl, HO, HW⟩
  case round =>
    clear HO HW HA HBl HLA HLB HT
    obtain ⟨ma, mb, pa, pb, da, db, xa, xb, lo, rfl, rfl, hma, hmb, hda, hdb, HR, HA, HBl, HO, HW⟩ := hrel
    by_cases hza : ma = 0
    · have hai : ¬ (0 : Int) < ma := by omega
      have HE := Lib.hid (show lo ++ xa ++ xb = T from by
        obtain ⟨r1, r2, r3, r4⟩ := HR.out
        have : xa = [] := List.length_eq_zero_iff.1 (by omega)
        subst this
        rw [← r4, mrg_nil_l, List.append_nil])
      have hszB : B ≤ wr.heap.size := by have := HW.out.size; have := HBB.out; omega
      have HLN := Lib.hid (show lo.length + ma ≤ 1099511627776 by have := HR.out.2.2.1; omega)
      have HLN2 := Lib.hid (show (lo ++ xa).length + mb ≤ 1099511627776 by have := HR.out.2.2.1; rw [List.length_append, HR.out.1]; omega)
      have HAx := Lib.hid (HA.out.kept hga HW.out)
      go_wp2_with (first | (at_builtin; (refine app_lie rfl (.tmp 46) (.tmp 47) rfl B ga pa ma da _ lo xa rfl HO.out rfl HR.out.1 HAx.out HLN.out hszB ?_); intro v5 w5 ho5 hb5; have HO5 := Lib.hid ho5; have HW5 := Lib.hid (HW.out.trans hb5); have HB5 := Lib.hid (HBl.out.kept hgb HW5.out); have hszB5 : B ≤ w5.heap.size := Nat.le_trans hszB hb5.size; clear ho5 hb5) | (at_builtin; (refine app_lie rfl (.tmp 48) (.tmp 49) rfl B gb pb mb db _ (lo ++ xa) xb rfl HO5.out rfl HR.out.2.1 HB5.out HLN2.out hszB5 ?_); intro v6 w6 ho6 hb6; have HO6 := Lib.hid ho6; have HW6 := Lib.hid (HW5.out.trans hb6); clear ho6 hb6))
      go_ret
      have hO6 := HO6.out
      rw [HE.out] at hO6
      obtain ⟨gu, cu, rfl, -, -⟩ := hO6.form (by rw [HTL.out]; omega) (by decide)
      rw [HTL.out] at hO6 ⊢
      exact ⟨gu, cu, rfl, by rw [HBB.out]; exact hO6, by rw [HBB.out]; exact HW6.out⟩
    · have hai : (0 : Int) < ma := by omega
      by_cases hzb : mb = 0
      · have hbi : ¬ (0 : Int) < mb := by omega
        have HE := Lib.hid (show lo ++ xa ++ xb = T from by
          obtain ⟨r1, r2, r3, r4⟩ := HR.out
          have : xb = [] := List.length_eq_zero_iff.1 (by omega)
          subst this
          rw [← r4, mrg_nil_r, List.append_nil])
        clear hzb
        have hszB : B ≤ wr.heap.size := by have := HW.out.size; have := HBB.out; omega
        have HLN := Lib.hid (show lo.length + ma ≤ 1099511627776 by have := HR.out.2.2.1; omega)
        have HLN2 := Lib.hid (show (lo ++ xa).length + mb ≤ 1099511627776 by have := HR.out.2.2.1; rw [List.length_append, HR.out.1]; omega)
        have HAx := Lib.hid (HA.out.kept hga HW.out)
        go_wp2_with (first | (at_builtin; (refine app_lie rfl (.tmp 46) (.tmp 47) rfl B ga pa ma da _ lo xa rfl HO.out rfl HR.out.1 HAx.out HLN.out hszB ?_); intro v5 w5 ho5 hb5; have HO5 := Lib.hid ho5; have HW5 := Lib.hid (HW.out.trans hb5); have HB5 := Lib.hid (HBl.out.kept hgb HW5.out); have hszB5 : B ≤ w5.heap.size := Nat.le_trans hszB hb5.size; clear ho5 hb5) | (at_builtin; (refine app_lie rfl (.tmp 48) (.tmp 49) rfl B gb pb mb db _ (lo ++ xa) xb rfl HO5.out rfl HR.out.2.1 HB5.out HLN2.out hszB5 ?_); intro v6 w6 ho6 hb6; have HO6 := Lib.hid ho6; have HW6 := Lib.hid (HW5.out.trans hb6); clear ho6 hb6))
        go_ret
        have hO6 := HO6.out
        rw [HE.out] at hO6
        obtain ⟨gu, cu, rfl, -, -⟩ := hO6.form (by rw [HTL.out]; omega) (by decide)
        rw [HTL.out] at hO6 ⊢
        exact ⟨gu, cu, rfl, by rw [HBB.out]; exact hO6, by rw [HBB.out]; exact HW6.out⟩
      · have hbi : (0 : Int) < mb := by omega
        obtain ⟨r1, r2, r3, r4⟩ := HR.out
        cases xa with
        | nil => simp at r1; omega
        | cons x ya =>
        cases xb with
        | nil => simp at r2; omega
        | cons y yb =>
          obtain ⟨MA, rfl⟩ : ∃ MA, ma = MA + 1 := ⟨ma - 1, by omega⟩
          obtain ⟨MB, rfl⟩ : ∃ MB, mb = MB + 1 := ⟨mb - 1, by omega⟩
          obtain ⟨x1, x2⟩ := HA.out.head.kept hga HW.out
          obtain ⟨y1, y2⟩ := HBl.out.head.kept hgb HW.out
          have hszB : B ≤ wr.heap.size := by have := HW.out.size; have := HBB.out; omega
          have HS0 := Lib.hid (show (wr.drew.cell? ⟨ga, pa, none⟩ = some (.int .i64 x.1) ∧ wr.drew.cell? ⟨ga, pa + 1, none⟩ = some (.bool x.2) ∧ wr.drew.cell? ⟨gb, pb, none⟩ = some (.int .i64 y.1) ∧ wr.drew.cell? ⟨gb, pb + 1, none⟩ = some (.bool y.2)) from ⟨x1, x2, y1, y2⟩)
          have hla : ga < wr.heap.size := by omega
          have hlb : gb < wr.heap.size := by omega
          clear r1 r2 r3 r4
          go_wp2_with fail
          go_region_held3 (fun V => V.cell? ⟨ga, pa, none⟩ = some (.int .i64 x.1) ∧ V.cell? ⟨ga, pa + 1, none⟩ = some (.bool x.2) ∧ V.cell? ⟨gb, pb, none⟩ = some (.int .i64 y.1) ∧ V.cell? ⟨gb, pb + 1, none⟩ = some (.bool y.2)) (first | exact HS0.out | exact HS1.out) (first | (go_at_call 39; (with_reducible refine (CL.out y x _).mono ?_; rintro e wx ⟨rfl, hbx⟩; have HS1 := Lib.hid (show (wx.cell? ⟨ga, pa, none⟩ = some (.int .i64 x.1) ∧ wx.cell? ⟨ga, pa + 1, none⟩ = some (.bool x.2) ∧ wx.cell? ⟨gb, pb, none⟩ = some (.int .i64 y.1) ∧ wx.cell? ⟨gb, pb + 1, none⟩ = some (.bool y.2)) from ⟨(hbx.cell hla).trans HS0.out.1, (hbx.cell hla).trans HS0.out.2.1, (hbx.cell hlb).trans HS0.out.2.2.1, (hbx.cell hlb).trans HS0.out.2.2.2⟩))) | fail)
          simp only [Exit.then]
          rename_i hK hHeld
          refine hK _ _ ?_
          have HWx := Lib.hid (show Below B w wx from HW.out.trans (((Below.refl wr.heap.size wr).drew.trans hbx).mono hszB))
          have HOx := Lib.hid (show OwnC B wx u7 lo from OwnS.kept (OwnS.drew HO.out) hbx)
          have HSx := Lib.hid HS1.out
          have hgax : ga < wx.heap.size := Nat.lt_of_lt_of_le hla hbx.size
          have hgbx : gb < wx.heap.size := Nat.lt_of_lt_of_le hlb hbx.size
          have hBx : B ≤ wx.heap.size := Nat.le_trans hszB hbx.size
          clear hK hHeld HS0 HS1 x1 x2 y1 y2 hbx HO HW hla hlb hszB
          obtain ⟨c1, c2, c3, c4⟩ := HSx.out
          have hlol : lo.length ≤ 1099511627776 := by have := HR.out.2.2.1; omega
          have hMA : (1 : Int) ≤ (MA : Int) + 1 := by omega
          have hMB : (1 : Int) ≤ (MB : Int) + 1 := by omega
          by_cases hcmp : y.1 < x.1
          · have hcd : decide (y.1 < x.1) = true := decide_eq_true hcmp
            have HR2 := Lib.hid (show (x :: ya).length = MA + 1 ∧ yb.length = MB ∧ (lo ++ [(y.1, y.2)]).length + (MA + 1) + MB = na + nb ∧ (lo ++ [(y.1, y.2)]) ++ mrg (MA + 1 + MB) (x :: ya) yb = T from by
              obtain ⟨r1, r2, r3, r4⟩ := HR.out
              refine ⟨r1, by simpa using r2, by simp; omega, ?_⟩
              rw [← r4, show MA + 1 + (MB + 1) = MA + 1 + MB + 1 by omega]
              simp only [mrg, if_pos hcmp]
              simp)
            obtain ⟨p2, hp2, hp3⟩ : ∃ p2, (if db = 1 then some (⟨gb, pb, none⟩ : Addr) else some ⟨gb, pb + 2, none⟩) = some ⟨gb, p2, none⟩ ∧ (db = 1 ∨ p2 = pb + 2) := by
              by_cases h : db = 1
              · exact ⟨pb, by rw [if_pos h], .inl h⟩
              · exact ⟨pb + 2, by rw [if_neg h], .inr rfl⟩
            have HL2 := Lib.hid (show Lie w gb p2 yb from by
              rcases hp3 with h | rfl
              · have : yb = [] := List.length_eq_zero_iff.1 (by have := HR2.out.2.1; omega)
                subst this
                intro i c hi; simp at hi
              · exact HBl.out.tail)
            have HP3 := Lib.hid hp3
            have hd1 : ((1 : Int) ≤ db) := by omega
            clear hp3
            go_wp2_with fail
            go_region_law (refine step_coin rfl (.tmp 30) (.tmp 34) rfl B 49 _ lo y.1 y.2 rfl (OwnS.drew HOx.out) wx.heap.size 1 rfl rfl hlol hBx ?_; intro v6 w6 ho6 hb6)
            all_goals
              have HO6 := Lib.hid ho6
              have HW6 := Lib.hid (HWx.out.drew.trans hb6)
              clear ho6 hb6 HOx HWx c1 c2 c3 c4 HSx
              go_simp
              go_wp2_with fail
              go_roundw
              case rel => exact ⟨MA + 1, MB, pa, p2, da, db - 1, x :: ya, yb, _, by trivial, by trivial, by omega, by omega, by omega, by omega, HR2, HA, HL2, HO6, HW6⟩
              case measure => simp [slLen] <;> omega
          · have hcd : decide (y.1 < x.1) = false := decide_eq_false hcmp
            have HR2 := Lib.hid (show ya.length = MA ∧ (y :: yb).length = MB + 1 ∧ (lo ++ [(x.1, x.2)]).length + MA + (MB + 1) = na + nb ∧ (lo ++ [(x.1, x.2)]) ++ mrg (MA + (MB + 1)) ya (y :: yb) = T from by
              obtain ⟨r1, r2, r3, r4⟩ := HR.out
              refine ⟨by simpa using r1, r2, by simp; omega, ?_⟩
              rw [← r4, show MA + 1 + (MB + 1) = MA + (MB + 1) + 1 by omega]
              simp only [mrg, if_neg hcmp]
              simp)
            obtain ⟨p2, hp2, hp3⟩ : ∃ p2, (if da = 1 then some (⟨ga, pa, none⟩ : Addr) else some ⟨ga, pa + 2, none⟩) = some ⟨ga, p2, none⟩ ∧ (da = 1 ∨ p2 = pa + 2) := by
              by_cases h : da = 1
              · exact ⟨pa, by rw [if_pos h], .inl h⟩
              · exact ⟨pa + 2, by rw [if_neg h], .inr rfl⟩
            have HL2 := Lib.hid (show Lie w ga p2 ya from by
              rcases hp3 with h | rfl
              · have : ya = [] := List.length_eq_zero_iff.1 (by have := HR2.out.1; omega)
                subst this
                intro i c hi; simp at hi
              · exact HA.out.tail)
            have HP3 := Lib.hid hp3
            have hd1 : ((1 : Int) ≤ da) := by omega
            clear hp3
            go_wp2_with fail
            go_region_law (refine step_coin rfl (.tmp 38) (.tmp 42) rfl B 49 _ lo x.1 x.2 rfl (OwnS.drew HOx.out) wx.heap.size 1 rfl rfl hlol hBx ?_; intro v6 w6 ho6 hb6)
            all_goals
              have HO6 := Lib.hid ho6
              have HW6 := Lib.hid (HWx.out.drew.trans hb6)
              clear ho6 hb6 HOx HWx c1 c2 c3 c4 HSx
              go_simp
              go_wp2_with fail
              go_roundw
              case rel => exact ⟨MA, MB + 1, p2, pb, da - 1, db, ya, y :: yb, _, by trivial, by trivial, by omega, by omega, by omega, by omega, HR2, HL2, HBl, HO6, HW6⟩
              case measure => simp [slLen] <;> omega
end Go.Proofs.Ytofmjcelmbkebaa
