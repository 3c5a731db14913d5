/- Layer 18: Apply. -/
import Derived.Test.YtjpmfaodkldobaaT8
import Derived.Laws.AppendOwnNone
namespace Go.Proofs.Ytjpmfaodkldobaa
open Go.ChangeShapes Go.WideShapes Go.ChangeAt Go.RowKit
set_option linter.unusedVariables false
set_option linter.unusedSimpArgs false
set_option maxRecDepth 100000
theorem mk_cap1 (ST E : TypeId) (z : Value) (bytes : Nat) (hST : Try.prog.underlying ST = some (.slice E)) (hE : (Try.prog.info? E).map (fun i => (i.zero, i.size, i.bytes)) = some (some z, 1, bytes)) (hby : bytes ≤ 8) (L : Nat) (hL : L ≤ 1000000) :
    ∃ ROW : Array Value, ROW.size = L ∧ ∀ w : World, (Instr.makeSlice ST (.int .i64 0) (.int .i64 (L : Int))).run Try.prog w = .ok (.slice (some ⟨w.heap.size, 0, none⟩) 0 L) (w.alloc (.cells ROW E)) := by
  obtain ⟨i, hi, hz, hs, hb⟩ := info_get hE
  refine ⟨madeCells z.cells L, size_madeCells _ _, fun w => ?_⟩
  have := run_make (w := w) (P := Try.prog) ST E i z hST hi hz .i64 .i64 0 (L : Int) (by decide) (by omega) (by
    rw [hb]
    have : (bytes : Int) * (L : Int) ≤ 8 * (L : Int) := Int.mul_le_mul_of_nonneg_right (by omega) (by omega)
    omega) (by omega)
  rw [hs, Int.toNat_natCast, Nat.mul_one] at this
  exact this
theorem own_cap1 {w : World} {g cap B : Nat} {E : TypeId} {ROW : Array Value} (h : w.heap[g]? = some (.cells ROW E (0, 0))) (hB : B ≤ g) (hs : ROW.size = cap) (hc : cap ≤ 1000000000) : w.ownsRow B E 1 (.slice (some ⟨g, 0, none⟩) 0 cap) 0 [] := by
  refine ⟨rfl, .inr ⟨g, cap, ROW, rfl, hB, h, Nat.zero_le _, by unfold maxLen; omega, by omega, by simp⟩⟩
theorem app_rowY0 {X : World} {ops : Array Oper} {rest : List Oper} {o : Oper} {a : Act} {Q : Exit → Act → World → Prop} (hgd : o.guard = none) (s xo : Operand)
    (ho : o.op = .call { callee := .builtin .append, args := #[s, xo], argTypes := #[34, 34] })
    (B : Nat) (v : Value) (l ys : List UInt8) (hs : a.eval s = v) (hown : OwnY B X v l) (va : Option Addr) (m c : Nat) (hx : a.eval xo = .slice va m c) (hm : m = ys.length) (hys : IsY X va ys) (hc : va = none → c = 0 ∧ ys = []) (hl : l.length + ys.length ≤ 1000000) (hB : B ≤ X.heap.size)
    (h : ∀ v' w', OwnY B w' v' (l ++ ys) → Below B X w' → wpList Try.prog ops Q rest (a.put o.dst v') w') : wpList Try.prog ops Q (o :: rest) a X := by
  obtain ⟨i0, hi, h1, h2, h3⟩ := info_get info_u8
  subst hm
  cases va with
  | none =>
    obtain ⟨rfl, rfl⟩ := hc rfl
    refine wpList_append_own_none hgd s xo 34 ho B 5 i0 1 Try.underlying34 hi v l.length (l.flatMap fY) hs hown hx (h v X (by simpa using hown) (Below.refl _ _))
  | some ad =>
    refine wpList_append_own X hgd s xo 34 ho B 5 i0 (.int .u8 0) 1 1 Try.underlying34 hi h1 h2 h3 rfl (by decide) v l.length (l.flatMap fY) hs hown ad ys.length c (ys.flatMap fY) hx (by rw [flat_len flatY]) ?_ (flat_one flatY ys) (by unfold maxLen; omega) (by omega) hB ?_
    · intro j u hj
      rw [cells8_fY] at hj
      have hlt : j < ys.length := by have := (List.getElem?_eq_some_iff.1 hj).1; rwa [cells8_len] at this
      obtain ⟨x, e, -, hc⟩ := hys.at j hlt
      injection e with e
      subst e
      rw [hc j hlt, ← hj]
      simp [cells8, List.getD_eq_getElem?_getD, hlt]
    · intro v' w' ho' hg' _
      refine h v' w' ?_ ((Below.refl _ _).grown hg' hB (fun j hj => (World.ownsRow.lt hown j hj).1))
      unfold OwnY OwnS
      rw [List.flatMap_append, List.length_append]
      exact ho'
theorem set4 {w : World} {g : Nat} {x0 x1 x2 x3 : Value} {t : TypeId} (h : w.heap[g]? = some (.cells #[x0, x1, x2, x3] t (0, 0))) (y0 y1 y2 y3 : Value) : ((((w.setCell ⟨g, 0, none⟩ y0).setCell ⟨g, 1, none⟩ y1).setCell ⟨g, 2, none⟩ y2).setCell ⟨g, 3, none⟩ y3).heap[g]? = some (.cells #[y0, y1, y2, y3] t (0, 0)) := by
  have := block_set (block_set (block_set (block_set h 0 y0) 1 y1) 2 y2) 3 y3
  simpa using this
theorem set4_other {w : World} {g k : Nat} {o : Obj} (h : w.heap[k]? = some o) (hk : k ≠ g) (y0 y1 y2 y3 : Value) : ((((w.setCell ⟨g, 0, none⟩ y0).setCell ⟨g, 1, none⟩ y1).setCell ⟨g, 2, none⟩ y2).setCell ⟨g, 3, none⟩ y3).heap[k]? = some o := by
  rw [Below.heap_setCell _ _ _ _ hk, Below.heap_setCell _ _ _ _ hk, Below.heap_setCell _ _ _ _ hk, Below.heap_setCell _ _ _ _ hk]; exact h
theorem set4_below {B : Nat} {a w : World} {g : Nat} (h : Below B a w) (hB : B ≤ g) (y0 y1 y2 y3 : Value) : Below B a ((((w.setCell ⟨g, 0, none⟩ y0).setCell ⟨g, 1, none⟩ y1).setCell ⟨g, 2, none⟩ y2).setCell ⟨g, 3, none⟩ y3) :=
  (((h.setCell (p := ⟨g, 0, none⟩) hB y0).setCell (p := ⟨g, 1, none⟩) hB y1).setCell (p := ⟨g, 2, none⟩) hB y2).setCell (p := ⟨g, 3, none⟩) hB y3
theorem set4_own {B : Nat} {w : World} {v : Value} {l : List UInt8} {g : Nat} (h : OwnY B w v l) (hg : g < B) (y0 y1 y2 y3 : Value) : OwnY B ((((w.setCell ⟨g, 0, none⟩ y0).setCell ⟨g, 1, none⟩ y1).setCell ⟨g, 2, none⟩ y2).setCell ⟨g, 3, none⟩ y3) v l :=
  (((h.setLow (p := ⟨g, 0, none⟩) hg y0).setLow (p := ⟨g, 1, none⟩) hg y1).setLow (p := ⟨g, 2, none⟩) hg y2).setLow (p := ⟨g, 3, none⟩) hg y3
theorem set4_size (w : World) (g : Nat) (y0 y1 y2 y3 : Value) : ((((w.setCell ⟨g, 0, none⟩ y0).setCell ⟨g, 1, none⟩ y1).setCell ⟨g, 2, none⟩ y2).setCell ⟨g, 3, none⟩ y3).heap.size = w.heap.size := by simp
theorem stepS_use {win : Int} {t : Tk} {q q2 : Q4} {h : List UInt8} {D E : Int} (hU : useV q t = (q2, D, E)) (hE : E ≠ 0) : stepS win t q h = ([], z4, E) := by
  unfold stepS; rw [hU]; rw [if_neg hE]
theorem stepS_lit {win : Int} {t : Tk} {q q2 : Q4} {h : List UInt8} {D : Int} (hU : useV q t = (q2, D, 0)) (hk : t.k = 0) : stepS win t q h = (h ++ [byteOf t.b], q2, 0) := by
  unfold stepS; rw [hU]; rw [if_pos rfl, if_pos hk]
theorem stepS_cp {win : Int} {t : Tk} {q q2 : Q4} {h : List UInt8} {D : Int} (hU : useV q t = (q2, D, 0)) (hk : t.k ≠ 0) (hE : errC h.length t.l D win = 0) : stepS win t q h = (copyL D.toNat t.l.toNat h, q2, 0) := by
  unfold stepS; rw [hU]; rw [if_pos rfl, if_neg hk, if_pos hE]
theorem stepS_no {win : Int} {t : Tk} {q q2 : Q4} {h : List UInt8} {D E : Int} (hU : useV q t = (q2, D, 0)) (hk : t.k ≠ 0) (hE : errC h.length t.l D win = E) (h0 : E ≠ 0) : stepS win t q h = ([], z4, E) := by
  unfold stepS; rw [hU]; rw [if_pos rfl, if_neg hk, if_neg (by show ¬ errC h.length t.l D win = 0; rw [hE]; exact h0)]
  show ([], z4, errC h.length t.l D win) = _
  rw [hE]
theorem byte_wrap (b : Int) : IntKind.u8.wrap b = (((byteOf b).toNat : Nat) : Int) := by
  unfold byteOf
  have h1 : 0 ≤ b % 256 := Int.emod_nonneg _ (by decide)
  have h2 : b % 256 < 256 := Int.emod_lt_of_pos _ (by decide)
  rw [UInt8.toNat_ofNat']
  have e : IntKind.u8.wrap b = b % 256 := by simp [IntKind.wrap, IntKind.bits, IntKind.signed]; try omega
  rw [e]
  simp
  omega
theorem pMoreI (B : Nat) (v : Value) (l : List UInt8) (n d : Int) (w : World) (h : OwnY B w v l) (hB : B ≤ w.heap.size) (hd : 1 ≤ d) (hd2 : d ≤ l.length) (hn0 : 0 ≤ n) (hn : n ≤ 258) (hl : l.length ≤ 1000000) :
    Calls Try.prog 61 #[v, .int .i64 n, .int .i64 d] w fun e w' => ∃ v', e = .returned v' ∧ OwnY B w' v' (copyL d.toNat n.toNat l) ∧ Below B w w' := by
  obtain ⟨N, rfl⟩ : ∃ m : Nat, n = m := ⟨n.toNat, by omega⟩
  obtain ⟨D, rfl⟩ : ∃ m : Nat, d = m := ⟨d.toNat, by omega⟩
  exact pMore B v l N D w h hB (by omega) (by omega) (by omega) hl
set_option maxHeartbeats 3200000 in
theorem pApply (a b : Option Addr) (ca cb : Nat) (H : List UInt8) (q : Q4) (l : List Tk) (win : Int) (w : World) (h1 : IsY w a H) (hca : a = none → ca = 0 ∧ H = []) (h2 : IsTk w b l) (hH : H.length ≤ 20000) (hl : l.length ≤ 100) (R : List UInt8) (Q : Q4) (E : Int) (hR : appS win l q H = (R, Q, E)) :
    Calls Try.prog 23 #[.slice a H.length ca, q4V q, .slice b l.length cb, .int .i64 win] w fun e w' => ∃ v, e = .returned (.tuple #[v, q4V Q, .int .i64 E]) ∧ OwnY w.heap.size w' v R ∧ Below w.heap.size w w' := by
  have CR := Lib.hid (fun W h => pRoom b cb l W h (by omega))
  have HY := Lib.hid h1
  have HTK := Lib.hid h2
  have HCA := Lib.hid hca
  have HR := Lib.hid hR
  show Calls Try.prog 23 #[.slice a H.length ca, .agg #[.int .i64 q.a, .int .i64 q.b, .int .i64 q.c, .int .i64 q.d], .slice b l.length cb, .int .i64 win] w _
  clear h1 h2 hca hR
  go_enter Try.func23, Try.ntmps23
  go_wp2_with fail
  go_step3
  go_wp2_with fail
  have e9 : ((((w.alloc (.cells #[.int .i64 q.a, .int .i64 q.b, .int .i64 q.c, .int .i64 q.d] 41)).alloc (.cells #[.int .i64 0, .int .i64 0, .int .i64 0, .int .i64 0] 41)).alloc (.cells #[.int .i64 q.a, .int .i64 q.b, .int .i64 q.c, .int .i64 q.d] 41)).heap)[w.heap.size + 1]? = some (.cells #[.int .i64 0, .int .i64 0, .int .i64 0, .int .i64 0] 41 (0, 0)) := by
    have := heap_old (heap_alloc_new (w.alloc (.cells #[.int .i64 q.a, .int .i64 q.b, .int .i64 q.c, .int .i64 q.d] 41)) (.cells #[.int .i64 0, .int .i64 0, .int .i64 0, .int .i64 0] 41)) (.cells #[.int .i64 q.a, .int .i64 q.b, .int .i64 q.c, .int .i64 q.d] 41)
    simpa using this
  have e11 : ((((w.alloc (.cells #[.int .i64 q.a, .int .i64 q.b, .int .i64 q.c, .int .i64 q.d] 41)).alloc (.cells #[.int .i64 0, .int .i64 0, .int .i64 0, .int .i64 0] 41)).alloc (.cells #[.int .i64 q.a, .int .i64 q.b, .int .i64 q.c, .int .i64 q.d] 41)).heap)[w.heap.size + 1 + 1]? = some (.cells #[.int .i64 q.a, .int .i64 q.b, .int .i64 q.c, .int .i64 q.d] 41 (0, 0)) := by
    have := heap_alloc_new ((w.alloc (.cells #[.int .i64 q.a, .int .i64 q.b, .int .i64 q.c, .int .i64 q.d] 41)).alloc (.cells #[.int .i64 0, .int .i64 0, .int .i64 0, .int .i64 0] 41)) (.cells #[.int .i64 q.a, .int .i64 q.b, .int .i64 q.c, .int .i64 q.d] 41)
    simpa using this
  have hb0 : Below w.heap.size w (((w.alloc (.cells #[.int .i64 q.a, .int .i64 q.b, .int .i64 q.c, .int .i64 q.d] 41)).alloc (.cells #[.int .i64 0, .int .i64 0, .int .i64 0, .int .i64 0] 41)).alloc (.cells #[.int .i64 q.a, .int .i64 q.b, .int .i64 q.c, .int .i64 q.d] 41)) := by go_grown
  obtain ⟨w0, hw0⟩ : ∃ w0, (((w.alloc (.cells #[.int .i64 q.a, .int .i64 q.b, .int .i64 q.c, .int .i64 q.d] 41)).alloc (.cells #[.int .i64 0, .int .i64 0, .int .i64 0, .int .i64 0] 41)).alloc (.cells #[.int .i64 q.a, .int .i64 q.b, .int .i64 q.c, .int .i64 q.d] 41)) = w0 := ⟨_, rfl⟩
  rw [hw0] at e9 e11 hb0 ⊢
  clear hw0
  obtain ⟨g9, hg9⟩ : ∃ g9, w.heap.size + 1 = g9 := ⟨_, rfl⟩
  rw [hg9] at e9 e11 ⊢
  obtain ⟨g11, hg11⟩ : ∃ g11, g9 + 1 = g11 := ⟨_, rfl⟩
  rw [hg11] at e11 ⊢
  have hB9 : w.heap.size ≤ g9 := by omega
  have hB11 : w.heap.size ≤ g11 := by omega
  have hne : g9 ≠ g11 := by omega
  clear hg9 hg11
  refine (CR.out _ (HTK.out.kept hb0)).mono ?_; rintro e w1 ⟨N, rfl, hN, hb1⟩
  have E9 := Lib.hid ((hb1.block _ (block_lt e9)).trans e9)
  have E11 := Lib.hid ((hb1.block _ (block_lt e11)).trans e11)
  have HB1 := Lib.hid (hb0.trans (hb1.mono hb0.size))
  have hN2 : N ≤ 66000 := by omega
  obtain ⟨ROW, hROW, hmk⟩ := mk_cap1 34 5 (.int .u8 0) 1 Try.underlying34 info_u8 (by decide) (H.length + N) (by omega)
  rw [Int.natCast_add] at hmk
  obtain ⟨B2, hB2⟩ : ∃ B2, w1.heap.size = B2 := ⟨_, rfl⟩
  have l9 : g9 < B2 := by rw [← hB2]; exact block_lt E9.out
  have l11 : g11 < B2 := by rw [← hB2]; exact block_lt E11.out
  have lB : w.heap.size ≤ B2 := by rw [← hB2]; exact HB1.out.size
  have HO := Lib.hid (show OwnY B2 (w1.alloc (.cells ROW 5)) (.slice (some ⟨B2, 0, none⟩) 0 (H.length + N)) [] from by rw [← hB2]; exact own_cap1 (heap_alloc_new w1 _) (Nat.le_refl _) hROW (by omega))
  have HY2 := Lib.hid (show IsY (w1.alloc (.cells ROW 5)) a H from (HY.out.kept HB1.out).kept ((Below.refl _ _).alloc (Nat.le_refl _) _))
  have HBA := Lib.hid (show B2 ≤ (w1.alloc (.cells ROW 5)).heap.size by simp; omega)
  have HLA := Lib.hid (show ([] : List UInt8).length + H.length ≤ 1000000 by simp; omega)
  have hNi : (N : Int) ≤ 66000 := by omega
  have E9 := Lib.hid (heap_old E9.out (.cells ROW 5))
  have E11 := Lib.hid (heap_old E11.out (.cells ROW 5))
  have HB1 := Lib.hid (HB1.out.alloc HB1.out.size (.cells ROW 5))
  have HB2 := Lib.hid hB2
  clear e9 e11 hb0 hb1 hN hN2 CR hROW hB2
  go_wp2_with (at_builtin; rw [HB2.out]; refine app_rowY0 rfl _ _ rfl B2 _ [] H rfl HO.out a H.length ca rfl rfl HY2.out HCA.out HLA.out HBA.out ?_; intro v2 w2 ho2 hb2)
  have E9 := Lib.hid ((hb2.block _ l9).trans E9.out)
  have E11 := Lib.hid ((hb2.block _ l11).trans E11.out)
  have HB := Lib.hid (HB1.out.trans (hb2.mono lB))
  have HO2 := Lib.hid (show OwnY B2 w2 v2 H by simpa using ho2)
  have hs2 := Nat.le_trans HBA.out hb2.size
  clear hb2 ho2 HB1 HO HY2 HBA HLA hmk
  go_step3
  go_wp2_with fail
  go_loopw [12, 13, 28] (fun e u i wr => ∃ (k : Nat) (q' : Q4) (hh : List UInt8), e = .int .i64 0 ∧ i = .int .i64 k ∧ k ≤ l.length ∧ hh.length ≤ H.length + 258 * k ∧ B2 ≤ wr.heap.size ∧ Hid (appS win (l.drop k) q' hh = (R, Q, E)) ∧ Hid (OwnY B2 wr u hh) ∧
    Hid (wr.heap[g9]? = some (.cells #[.int .i64 0, .int .i64 0, .int .i64 0, .int .i64 0] 41 (0, 0))) ∧ Hid (wr.heap[g11]? = some (.cells #[.int .i64 q'.a, .int .i64 q'.b, .int .i64 q'.c, .int .i64 q'.d] 41 (0, 0))) ∧ Hid (Below w.heap.size w wr)) (fun _ _ i _ => l.length - (intOf i).toNat)
  case atStart => exact ⟨0, q, H, rfl, rfl, Nat.zero_le _, by omega, hs2, HR, HO2, E9, E11, HB⟩
  case round =>
    obtain ⟨k, q', hh, rfl, rfl, hk, hhl, hsw, hap, ho, hE9, hE11, hb⟩ := hrel
    obtain ⟨ua, uc, rfl⟩ := ho.out.slice
    by_cases hlt : k < l.length
    · obtain ⟨x, rfl, hx, h0, h1, h2, h3, h4⟩ := (HTK.out.kept hb.out).at k hlt
      have HST := Lib.hid ((appS_drop win l k hlt q' hh).symm.trans hap.out)
      have c0 := cell_lit hE11.out 0 _ rfl
      have c1 := cell_lit hE11.out 1 _ rfl
      have c2 := cell_lit hE11.out 2 _ rfl
      have c3 := cell_lit hE11.out 3 _ rfl
      have s9 : g9 < wr.heap.size := by omega
      have s11 : g11 < wr.heap.size := by omega
      generalize l[k] = t at *
      obtain ⟨⟨q2, D, E2⟩, hU⟩ : ∃ r, useV q' t = r := ⟨_, rfl⟩
      have HU := Lib.hid (show ∀ W, Calls Try.prog 64 #[.agg #[.int .i64 q'.a, .int .i64 q'.b, .int .i64 q'.c, .int .i64 q'.d], .agg #[.int .i64 t.k, .int .i64 t.b, .int .i64 t.l, .int .i64 t.d, .int .i64 t.r]] W fun e w' => e = .returned (.tuple #[.agg #[.int .i64 q2.a, .int .i64 q2.b, .int .i64 q2.c, .int .i64 q2.d], .int .i64 D, .int .i64 E2]) ∧ Below W.heap.size W w' from
        fun W => (pUse q' t W).mono fun e w' h => by unfold UsePost at h; rw [hU] at h; exact h)
      have HUV := Lib.hid hU
      clear hU
      go_wp2_with fail
      obtain ⟨gt, hgt⟩ : ∃ gt, wr.heap.size = gt := ⟨_, rfl⟩
      have et := heap_alloc_new wr (.cells #[.int .i64 t.k, .int .i64 t.b, .int .i64 t.l, .int .i64 t.d, .int .i64 t.r] 53)
      have hgtB : w.heap.size ≤ gt := by omega
      have n11 : gt ≠ g11 := by omega
      have n9 : gt ≠ g9 := by omega
      have hbx := hb.out.alloc hb.out.size (.cells #[.int .i64 t.k, .int .i64 t.b, .int .i64 t.l, .int .i64 t.d, .int .i64 t.r] 53)
      have e9 := heap_old hE9.out (.cells #[.int .i64 t.k, .int .i64 t.b, .int .i64 t.l, .int .i64 t.d, .int .i64 t.r] 53)
      have e11 := heap_old hE11.out (.cells #[.int .i64 t.k, .int .i64 t.b, .int .i64 t.l, .int .i64 t.d, .int .i64 t.r] 53)
      have hox := ho.out.alloc (.cells #[.int .i64 t.k, .int .i64 t.b, .int .i64 t.l, .int .i64 t.d, .int .i64 t.r] 53)
      have hsx : B2 ≤ (wr.alloc (.cells #[.int .i64 t.k, .int .i64 t.b, .int .i64 t.l, .int .i64 t.d, .int .i64 t.r] 53)).heap.size := by simp; omega
      rw [hgt] at et ⊢
      generalize wr.alloc (.cells #[.int .i64 t.k, .int .i64 t.b, .int .i64 t.l, .int .i64 t.d, .int .i64 t.r] 53) = wa at *
      refine (HU.out _).mono ?_; rintro e w3 ⟨rfl, hb3⟩
      have e9 := (hb3.block _ (block_lt e9)).trans e9
      have e11 := (hb3.block _ (block_lt e11)).trans e11
      clear c0 c1 c2 c3
      have et := (hb3.block _ (block_lt et)).trans et
      have HO3 := Lib.hid (hox.kept hb3)
      have HB3 := Lib.hid (hbx.trans (hb3.mono hbx.size))
      have hs3 := Nat.le_trans hsx hb3.size
      have s9 := block_lt e9
      have s11 := block_lt e11
      have st := block_lt et
      have HE9 := Lib.hid e9
      have HE11 := Lib.hid e11
      have HET := Lib.hid et
      have c0 := cell_lit e11 0 _ rfl
      have c1 := cell_lit e11 1 _ rfl
      have c2 := cell_lit e11 2 _ rfl
      have c3 := cell_lit e11 3 _ rfl
      have f0 := free_in e11 0
      have f1 := free_in e11 1
      have f2 := free_in e11 2
      have f3 := free_in e11 3
      have ct0 := cell_lit et 0 _ rfl
      have ct1 := cell_lit et 1 _ rfl
      have ct2 := cell_lit et 2 _ rfl
      have d0 := cell_lit e9 0 _ rfl
      have d1 := cell_lit e9 1 _ rfl
      have d2 := cell_lit e9 2 _ rfl
      have d3 := cell_lit e9 3 _ rfl
      have k0 := free_in e9 0
      have k1 := free_in e9 1
      have k2 := free_in e9 2
      have k3 := free_in e9 3
      clear hbx e9 e11 hox hb3 hsx et h0 h1 h2 h3 h4 hgt ho hE9 hE11 hb hx hap HU
      by_cases hE0 : E2 = 0
      · subst hE0
        have W4o := set4_own HO3.out l11 (.int .i64 q2.a) (.int .i64 q2.b) (.int .i64 q2.c) (.int .i64 q2.d)
        have W4b := set4_below HB3.out hB11 (.int .i64 q2.a) (.int .i64 q2.b) (.int .i64 q2.c) (.int .i64 q2.d)
        have W49 := set4_other HE9.out hne (.int .i64 q2.a) (.int .i64 q2.b) (.int .i64 q2.c) (.int .i64 q2.d)
        have W411 := set4 HE11.out (.int .i64 q2.a) (.int .i64 q2.b) (.int .i64 q2.c) (.int .i64 q2.d)
        have W4s := set4_size w3 g11 (.int .i64 q2.a) (.int .i64 q2.b) (.int .i64 q2.c) (.int .i64 q2.d)
        have hcu := useV_cases q' t
        rw [HUV.out] at hcu
        have H4o := Lib.hid W4o
        have H4b := Lib.hid W4b
        have H49 := Lib.hid W49
        have H411 := Lib.hid W411
        have H4s := Lib.hid (show B2 ≤ _ from Nat.le_trans hs3 (Nat.le_of_eq W4s.symm))
        clear W4o W4b W49 W411 W4s
        by_cases hk0 : t.k = 0
        · have hs := stepS_lit (win := win) (h := hh) HUV.out hk0
          have hst := HST.out
          rw [hs, if_pos rfl] at hst
          have HST2 := Lib.hid hst
          have hwr := byte_wrap t.b
          clear hst hs hcu d0 d1 d2 d3 k0 k1 k2 k3 ct2
          have HLn := Lib.hid (show hh.length ≤ 1099511627776 by omega)
          go_wp2_with (at_builtin; refine app_y rfl _ _ rfl B2 _ (.slice ua hh.length uc) hh (byteOf t.b) rfl H4o.out w3.heap.size 1 (set4_size _ _ _ _ _ _) rfl HLn.out H4s.out ?_; intro v5 w5 ho5 hb5 hg5)
          have HE9' := Lib.hid ((hb5.block _ l9).trans H49.out)
          have HE11' := Lib.hid ((hb5.block _ l11).trans H411.out)
          have HB' := Lib.hid (H4b.out.trans (hb5.mono lB))
          have hs5 := Nat.le_trans H4s.out hb5.size
          have HO5 := Lib.hid ho5
          exact ⟨⟨k + 1, q2, hh ++ [byteOf t.b], rfl, by go_num, by omega, by simp; omega, hs5, HST2, HO5, HE9', HE11', HB'⟩, by simp [intOf]; omega⟩
        · have hkb : (t.k == 0) = false := by rw [beq_eq_false_iff_ne]; exact hk0
          have hD : 1 ≤ D ∧ 0 ≤ t.l ∧ t.l ≤ 258 := by
            rcases hcu with ⟨-, -, ⟨h, -⟩ | h⟩ | h
            · exact absurd h hk0
            · exact ⟨h.1, by have := h.2.2.1; omega, h.2.2.2.1⟩
            · injection h with h1 h2; injection h2 with h3 h4; cases h4
          obtain ⟨E3, hE3⟩ : ∃ E3, errC hh.length t.l D win = E3 := ⟨_, rfl⟩
          have CK := Lib.hid (fun W => pCheck hh.length t.l D win W)
          rw [hE3] at CK
          by_cases h30 : E3 = 0
          · subst h30
            have hs := stepS_cp HUV.out hk0 hE3
            have hst := HST.out
            rw [hs, if_pos rfl] at hst
            have HST2 := Lib.hid hst
            have h4 := errC_zero hE3
            have hcl : (copyL D.toNat t.l.toNat hh).length ≤ hh.length + 258 := by rw [copyL_len]; omega
            have CM := Lib.hid (fun W h hB => pMoreI B2 (.slice ua hh.length uc) hh t.l D W h hB hD.1 (by omega) hD.2.1 hD.2.2 (by omega))
            obtain ⟨hh2, hhh2⟩ : ∃ hh2, copyL D.toNat t.l.toNat hh = hh2 := ⟨_, rfl⟩
            rw [hhh2] at CM HST2 hcl
            clear hst hs hcu d0 d1 d2 d3 k0 k1 k2 k3 ct1 hE3 hk0 h4 hhh2 hD
            go_wp2_with fail
            refine (CK.out _).mono ?_; rintro e w6 ⟨rfl, rfl⟩
            go_wp2_with fail
            refine (CM.out _ H4o.out H4s.out).mono ?_; rintro e w5 ⟨v5, rfl, ho5, hb5⟩
            have HE9' := Lib.hid ((hb5.block _ l9).trans H49.out)
            have HE11' := Lib.hid ((hb5.block _ l11).trans H411.out)
            have HB' := Lib.hid (H4b.out.trans (hb5.mono lB))
            have hs5 := Nat.le_trans H4s.out hb5.size
            have HO5 := Lib.hid ho5
            clear ho5 hb5 CM CK
            go_wp2_with fail
            exact ⟨⟨k + 1, q2, hh2, rfl, by go_num, by omega, by omega, hs5, HST2, HO5, HE9', HE11', HB'⟩, by simp [intOf]; omega⟩
          · have hEb : (E3 != 0) = true := by rw [bne_iff_ne]; exact h30
            have hs := stepS_no HUV.out hk0 hE3 h30
            have hst := HST.out
            rw [hs, if_neg h30] at hst
            injection hst with eR e3
            injection e3 with eQ eE
            subst eR eQ eE
            have hz := set4 H49.out (.int .i64 0) (.int .i64 0) (.int .i64 0) (.int .i64 0)
            have hbz := set4_below H4b.out hB9 (.int .i64 0) (.int .i64 0) (.int .i64 0) (.int .i64 0)
            have HZ := Lib.hid hz
            have HBZ := Lib.hid hbz
            clear ct1 hz hbz hs hcu hk0 hE3 hD
            go_wp2_with fail
            refine (CK.out _).mono ?_; rintro e w6 ⟨rfl, rfl⟩
            go_wp2_with fail
            try rw [Exit.noGoto_ret]
            have hz := HZ.out
            have hbz := HBZ.out
            revert hz hbz
            generalize (World.setCell _ ⟨g9, 3, none⟩ (.int .i64 0)) = W
            intro hz hbz
            have r0 := cell_lit hz 0 _ rfl
            have r1 := cell_lit hz 1 _ rfl
            have r2 := cell_lit hz 2 _ rfl
            have r3 := cell_lit hz 3 _ rfl
            exact bodyPost_ret (v := .tuple #[.slice none 0 0, .agg #[.int .i64 0, .int .i64 0, .int .i64 0, .int .i64 0], .int .i64 E3]) (by simp [results, Try.results23, go_sem, r0, r1, r2, r3]) rfl ⟨_, rfl, OwnS.nil, hbz⟩
      · have hEb : (E2 != 0) = true := by rw [bne_iff_ne]; exact hE0
        have hs := stepS_use (win := win) (h := hh) HUV.out hE0
        have hst := HST.out
        rw [hs, if_neg hE0] at hst
        injection hst with eR e3
        injection e3 with eQ eE
        subst eR eQ eE
        have hz := set4 (set4_other HE9.out hne (.int .i64 q2.a) (.int .i64 q2.b) (.int .i64 q2.c) (.int .i64 q2.d)) (.int .i64 0) (.int .i64 0) (.int .i64 0) (.int .i64 0)
        have hbz := set4_below (set4_below HB3.out hB11 (.int .i64 q2.a) (.int .i64 q2.b) (.int .i64 q2.c) (.int .i64 q2.d)) hB9 (.int .i64 0) (.int .i64 0) (.int .i64 0) (.int .i64 0)
        have HZ := Lib.hid hz
        have HBZ := Lib.hid hbz
        clear ct0 ct1 ct2 hz hbz hs
        go_wp2_with fail
        try rw [Exit.noGoto_ret]
        have hz := HZ.out
        have hbz := HBZ.out
        revert hz hbz
        generalize (World.setCell _ ⟨g9, 3, none⟩ (.int .i64 0)) = W
        intro hz hbz
        have r0 := cell_lit hz 0 _ rfl
        have r1 := cell_lit hz 1 _ rfl
        have r2 := cell_lit hz 2 _ rfl
        have r3 := cell_lit hz 3 _ rfl
        exact bodyPost_ret (v := .tuple #[.slice none 0 0, .agg #[.int .i64 0, .int .i64 0, .int .i64 0, .int .i64 0], .int .i64 E2]) (by simp [results, Try.results23, go_sem, r0, r1, r2, r3]) rfl ⟨_, rfl, OwnS.nil, hbz⟩
    · obtain rfl : k = l.length := by omega
      have hst := hap.out
      rw [List.drop_length, appS] at hst
      injection hst with eR e3
      injection e3 with eQ eE
      subst eR eQ eE
      have s9 : g9 < wr.heap.size := by omega
      have s11 : g11 < wr.heap.size := by omega
      have c0 := cell_lit hE11.out 0 _ rfl
      have c1 := cell_lit hE11.out 1 _ rfl
      have c2 := cell_lit hE11.out 2 _ rfl
      have c3 := cell_lit hE11.out 3 _ rfl
      have d0 := cell_lit hE9.out 0 _ rfl
      have d1 := cell_lit hE9.out 1 _ rfl
      have d2 := cell_lit hE9.out 2 _ rfl
      have d3 := cell_lit hE9.out 3 _ rfl
      have k0 := free_in hE9.out 0
      have k1 := free_in hE9.out 1
      have k2 := free_in hE9.out 2
      have k3 := free_in hE9.out 3
      have hz := set4 hE9.out (.int .i64 q'.a) (.int .i64 q'.b) (.int .i64 q'.c) (.int .i64 q'.d)
      have HBZ := Lib.hid (set4_below hb.out hB9 (.int .i64 q'.a) (.int .i64 q'.b) (.int .i64 q'.c) (.int .i64 q'.d))
      have HOZ := Lib.hid ((set4_own ho.out l9 (.int .i64 q'.a) (.int .i64 q'.b) (.int .i64 q'.c) (.int .i64 q'.d)).base lB)
      have HZ := Lib.hid hz
      clear hz
      go_wp2_with fail
      go_region
      all_goals go_wp2_with fail
      all_goals
        try rw [Exit.noGoto_ret]
        have hz := HZ.out
        have hbz := HBZ.out
        have hoz := HOZ.out
        revert hz hbz hoz
        generalize (World.setCell _ ⟨g9, 3, none⟩ (.int .i64 q'.d)) = W
        intro hz hbz hoz
        have r0 : W.drew.cell? ⟨g9, 0, none⟩ = _ := cell_lit hz 0 _ rfl
        have r1 : W.drew.cell? ⟨g9, 1, none⟩ = _ := cell_lit hz 1 _ rfl
        have r2 : W.drew.cell? ⟨g9, 2, none⟩ = _ := cell_lit hz 2 _ rfl
        have r3 : W.drew.cell? ⟨g9, 3, none⟩ = _ := cell_lit hz 3 _ rfl
        exact bodyPost_ret (v := .tuple #[.slice ua hh.length uc, .agg #[.int .i64 q'.a, .int .i64 q'.b, .int .i64 q'.c, .int .i64 q'.d], .int .i64 0]) (by simp [results, Try.results23, go_sem, r0, r1, r2, r3]) rfl ⟨_, rfl, hoz, hbz.drew⟩
end Go.Proofs.Ytjpmfaodkldobaa
