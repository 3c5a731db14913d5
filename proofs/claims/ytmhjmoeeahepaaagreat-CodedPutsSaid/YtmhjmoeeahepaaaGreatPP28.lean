import Derived.Test.YtmhjmoeeahepaaaGreatPP27
/- Layer 27: a symbol is put. -/
namespace Go.Proofs.YtmhjmoeeahepaaaGreat
open Go.ChangeShapes Go.WideShapes Go.ChangeAt Go.RowKit
set_option linter.unusedVariables false
set_option linter.unusedSimpArgs false
set_option maxRecDepth 100000
open Bits hiding packF pack_length
open RunsMath KraftMath CanonMath TurnMath Pm
/-- What a book of codes is, for a writer in block g. -/
structure Bk (w : World) (g : Nat) (a1 a2 : Option Addr) (l : List Int) : Prop where
  codes : IsInts w a1 (turnedL l)
  lens : IsInts w a2 l
  f1 : ∀ x, a1 = some x → ¬ foot w g x.block
  f2 : ∀ x, a2 = some x → ¬ foot w g x.block
  ok : check l 16 = 0
theorem ints_blk {w : World} {x : Addr} {l : List Int} (h : IsInts w (some x) l) (h0 : 0 < l.length) : x.block < w.heap.size := by
  obtain ⟨y, e, hb, -⟩ := h.at 0 h0
  injection e with e
  subst e; exact hb
theorem Bk.pen {w w' : World} {g B : Nat} {bits : List Bool} {a1 a2 : Option Addr} {l : List Int} (h : Bk w g a1 a2 l) (p : PenW w w' g B bits) (h0 : l ≠ []) : Bk w' g a1 a2 l := by
  have hl0 : 0 < l.length := List.length_pos_iff.2 h0
  refine ⟨p.ints h.codes h.f1, p.ints h.lens h.f2, fun x hx e => ?_, fun x hx e => ?_, h.ok⟩
  · rcases p.2.2 _ e with e | e
    · exact h.f1 x hx e
    · subst hx; have := ints_blk h.codes (by rw [turnedL_len]; exact hl0); omega
  · rcases p.2.2 _ e with e | e
    · exact h.f2 x hx e
    · subst hx; have := ints_blk h.lens hl0; omega
set_option maxHeartbeats 3200000 in
theorem cBkPut (w0 : World) (g B : Nat) (bits : List Bool) (h : IsWriter w0 g B bits) (hbl : bits.length ≤ 900000) (a1 a2 : Option Addr) (c1 c2 n : Nat) (l : List Int) (hn : l.length = n) (hbk : Bk w0 g a1 a2 l) (hl : n ≤ 1000) (s : Nat) (hs : s < n) (hs16 : len l s ≤ 15) :
    Calls Tryz.prog 65 #[.agg #[.slice a1 n c1, .slice a2 n c2], .pointer (some ⟨g, 0, none⟩), .int .i64 s] w0 fun e w' => e = .returned (.tuple #[]) ∧ PenW w0 w' g B (bits ++ bitsS l (s : Int)) := by
  obtain ⟨xc, he, hxcl, cxc⟩ := hbk.codes.at s (by rw [turnedL_len, hn]; exact hs)
  subst he
  obtain ⟨xo, he, hxol, cxo⟩ := hbk.lens.at s (by rw [hn]; exact hs)
  subst he
  have cc := cxc s (by rw [turnedL_len, hn]; exact hs)
  have co := cxo s (by rw [hn]; exact hs)
  rw [turnedL_at (by rw [hn]; exact hs)] at cc
  rw [lenI hbk.ok (by rw [hn]; exact hs)] at co
  have hbs : bitsS l (s : Int) = bitsOf (turn (code l s) (len l s)) (len l s) := by unfold bitsS; rw [Int.toNat_natCast, code_bits]
  rw [hbs]
  have hfc := hbk.f1 xc rfl
  have hfo := hbk.f2 xo rfl
  obtain ⟨L, hL⟩ : ∃ L, len l s = L := ⟨_, rfl⟩
  obtain ⟨X, hX⟩ : ∃ X, turn (code l s) L = X := ⟨_, rfl⟩
  rw [hL] at cc co hs16 ⊢
  rw [hX] at cc ⊢
  have hXn : X < 2 ^ L := by rw [← hX]; exact turn_lt _ L
  have h15 : 2 ^ L ≤ 32768 := Nat.le_trans (Nat.pow_le_pow_right (by decide) hs16) (by decide)
  have hsi : (s : Int) < (n : Int) := by omega
  have hs0 : (0 : Int) ≤ (s : Int) := by omega
  have hu1 : IntKind.u64.wrap (X : Int) = (X : Int) := IntWalk.u64_in _ (by omega)
  have hAL : Below w0.heap.size w0 (w0.alloc (.cells #[.slice (some xc) n c1, .slice (some xo) n c2] 66)) := (Below.refl _ _).alloc (Nat.le_refl _) _
  have HPB := Lib.hid ((PenW.start h).below hAL)
  have HBX := Lib.hid (heap_alloc_new w0 (.cells #[.slice (some xc) n c1, .slice (some xo) n c2] 66))
  have hfb := PenW.foot_iff h hAL
  have HFX := Lib.hid (show ¬ foot (w0.alloc (.cells #[.slice (some xc) n c1, .slice (some xo) n c2] 66)) g w0.heap.size from fun e => by
    have := foot_lt h _ ((hfb _).1 e)
    omega)
  have hFC : ¬ foot (w0.alloc (.cells #[.slice (some xc) n c1, .slice (some xo) n c2] 66)) g xc.block := fun e => hfc ((hfb _).1 e)
  have hFO : ¬ foot (w0.alloc (.cells #[.slice (some xc) n c1, .slice (some xo) n c2] 66)) g xo.block := fun e => hfo ((hfb _).1 e)
  have ccb := (hAL.cell (cell_block cc)).trans cc
  have cob := (hAL.cell (cell_block co)).trans co
  obtain ⟨gx, hgx⟩ : ∃ gx, w0.heap.size = gx := ⟨_, rfl⟩
  obtain ⟨wb, hwb⟩ : ∃ wb, w0.alloc (.cells #[.slice (some xc) n c1, .slice (some xo) n c2] 66) = wb := ⟨_, rfl⟩
  have hgxb : gx < wb.heap.size := by rw [← hwb, ← hgx]; simp
  have hxcw : xc.block < wb.heap.size := by rw [← hwb]; simp; omega
  have hxow : xo.block < wb.heap.size := by rw [← hwb]; simp; omega
  have HGX := Lib.hid hgx
  rw [hwb] at HPB HBX HFX ccb cob hFC hFO
  rw [hgx] at HBX HFX
  have HFC := Lib.hid hFC
  have HFO := Lib.hid hFO
  have b0 := cell_lit HBX.out 0 (.slice (some xc) n c1) rfl
  have b1 := cell_lit HBX.out 1 (.slice (some xo) n c2) rfl
  have HS0' := Lib.hid (show (wb.cell? ⟨gx, 0, none⟩ = some (.slice (some xc) n c1) ∧ wb.cell? ⟨gx, 1, none⟩ = some (.slice (some xo) n c2)) ∧ wb.cell? (xc.add s) = some (.int .i64 (X : Int)) ∧ wb.cell? (xo.add s) = some (.int .i64 (L : Int)) from ⟨⟨b0, b1⟩, ccb, cob⟩)
  have CPT := Lib.hid (pPutD wb g B bits X L HPB.out.1 (by omega) hXn (by omega))
  clear cxc cxo cc co hbk hbs hfc hfo hL hX hAL hfb h hxcl hxol hFC hFO hs hn h15
  go_enter Tryz.func65, Tryz.ntmps65
  go_wp2_with fail
  try rw [hgx]
  try rw [hwb]
  clear hgx hwb b0 b1 ccb cob
  go_region_held3 (fun V => (V.cell? ⟨gx, 0, none⟩ = some (.slice (some xc) n c1) ∧ V.cell? ⟨gx, 1, none⟩ = some (.slice (some xo) n c2)) ∧ V.cell? (xc.add s) = some (.int .i64 (X : Int)) ∧ V.cell? (xo.add s) = some (.int .i64 (L : Int))) (first | exact HS0'.out | exact HS1.out | fail) (first | (go_at_call 35; (with_reducible refine CPT.out.mono ?_; rintro e w8 ⟨rfl, hp8⟩; have HP8 := Lib.hid hp8; have HS1 := Lib.hid (show (w8.cell? ⟨gx, 0, none⟩ = some (.slice (some xc) n c1) ∧ w8.cell? ⟨gx, 1, none⟩ = some (.slice (some xo) n c2)) ∧ w8.cell? (xc.add s) = some (.int .i64 (X : Int)) ∧ w8.cell? (xo.add s) = some (.int .i64 (L : Int)) from ⟨⟨(hp8.cell hgxb HFX.out).trans HS0'.out.1.1, (hp8.cell (p := ⟨gx, 1, none⟩) hgxb HFX.out).trans HS0'.out.1.2⟩, (hp8.cell (by rw [add_block]; exact hxcw) (by rw [add_block]; exact HFC.out)).trans HS0'.out.2.1, (hp8.cell (by rw [add_block]; exact hxow) (by rw [add_block]; exact HFO.out)).trans HS0'.out.2.2⟩); clear hp8)) | fail)
  have HPF := Lib.hid (HPB.out.chain HP8.out)
  go_end0
  exact ⟨rfl, HPF.out⟩
end Go.Proofs.YtmhjmoeeahepaaaGreat

/- Layer 27: a token is put. -/
namespace Go.Proofs.YtmhjmoeeahepaaaGreat
open Go.ChangeShapes Go.WideShapes Go.ChangeAt Go.RowKit
set_option linter.unusedVariables false
set_option linter.unusedSimpArgs false
set_option maxRecDepth 100000
open Bits hiding packF pack_length
open RunsMath KraftMath CanonMath TurnMath Pm
def extL (l : Nat) : List Bool := bitsOf (l - Tok.tbL (Tok.slotL l)) (Tok.exL (Tok.slotL l))
def extD (d : Nat) : List Bool := bitsOf (d - Slo.tbD (Slo.slotD d)) (Slo.exD (Slo.slotD d))
/-- A token's bits. -/
def tokB (M D : List Int) (t : Tk) : List Bool :=
  bitsS M (symN t : Int) ++ (if t.k = 0 then [] else extL t.l.toNat ++ (if t.k = 1 then bitsS D (Slo.slotD t.d.toNat : Int) ++ extD t.d.toNat else []))
theorem heap_three (w : World) (A B C : Obj) : (((w.alloc A).alloc B).alloc C).heap[w.heap.size]? = some A ∧ (((w.alloc A).alloc B).alloc C).heap[w.heap.size + 1]? = some B ∧ (((w.alloc A).alloc B).alloc C).heap[w.heap.size + 1 + 1]? = some C := by
  have e1 := World.size_alloc w A
  have e2 := World.size_alloc (w.alloc A) B
  refine ⟨?_, ?_, ?_⟩
  · rw [Below.heap_alloc _ _ _ (by omega), Below.heap_alloc _ _ _ (by omega)]; exact heap_alloc_new w A
  · rw [Below.heap_alloc _ _ _ (by omega)]
    have := heap_alloc_new (w.alloc A) B
    rwa [e1] at this
  · have := heap_alloc_new ((w.alloc A).alloc B) C
    rwa [e2, e1] at this
theorem Bk.below {w w' : World} {g B : Nat} {bits : List Bool} {a1 a2 : Option Addr} {l : List Int} (h : Bk w g a1 a2 l) (hw : IsWriter w g B bits) (hb : Below w.heap.size w w') : Bk w' g a1 a2 l := by
  have hf := PenW.foot_iff hw hb
  exact ⟨h.codes.kept hb, h.lens.kept hb, fun x hx e => h.f1 x hx ((hf _).1 e), fun x hx e => h.f2 x hx ((hf _).1 e), h.ok⟩
/-- What stands while a token is put. -/
structure Ptk (wb w : World) (g B gx : Nat) (bits bits' : List Bool) (c5 c6 c7 : Array Value) : Prop where
  pen : PenW wb w g B bits'
  b5 : wb.heap[gx]? = some (.cells c5 35 (0, 0))
  b6 : wb.heap[gx + 1]? = some (.cells c6 66 (0, 0))
  b7 : wb.heap[gx + 1 + 1]? = some (.cells c7 66 (0, 0))
  f : ∀ k, gx ≤ k → k < wb.heap.size → ¬ foot wb g k
theorem Ptk.on {wb w w' : World} {g B gx : Nat} {bits b1 b2 : List Bool} {c5 c6 c7 : Array Value} (h : Ptk wb w g B gx bits b1 c5 c6 c7) (p : PenW w w' g B b2) : Ptk wb w' g B gx bits b2 c5 c6 c7 := ⟨h.pen.chain p, h.b5, h.b6, h.b7, h.f⟩
theorem Ptk.below {wb w w' : World} {g B gx : Nat} {bits b1 : List Bool} {c5 c6 c7 : Array Value} (h : Ptk wb w g B gx bits b1 c5 c6 c7) (hb : Below w.heap.size w w') : Ptk wb w' g B gx bits b1 c5 c6 c7 := ⟨h.pen.below hb, h.b5, h.b6, h.b7, h.f⟩
theorem Ptk.c5 {wb w : World} {g B gx : Nat} {bits b1 : List Bool} {c5 c6 c7 : Array Value} (h : Ptk wb w g B gx bits b1 c5 c6 c7) (j : Nat) (v : Value) (hv : c5[j]? = some v) : w.cell? ⟨gx, j, none⟩ = some v := (h.pen.cell (p := ⟨gx, j, none⟩) (block_lt h.b5) (h.f gx (Nat.le_refl _) (block_lt h.b5))).trans (cell_lit h.b5 j v hv)
theorem Ptk.c6 {wb w : World} {g B gx : Nat} {bits b1 : List Bool} {c5 c6 c7 : Array Value} (h : Ptk wb w g B gx bits b1 c5 c6 c7) (j : Nat) (v : Value) (hv : c6[j]? = some v) : w.cell? ⟨gx + 1, j, none⟩ = some v := (h.pen.cell (p := ⟨gx + 1, j, none⟩) (block_lt h.b6) (h.f (gx + 1) (by omega) (block_lt h.b6))).trans (cell_lit h.b6 j v hv)
theorem Ptk.c7 {wb w : World} {g B gx : Nat} {bits b1 : List Bool} {c5 c6 c7 : Array Value} (h : Ptk wb w g B gx bits b1 c5 c6 c7) (j : Nat) (v : Value) (hv : c7[j]? = some v) : w.cell? ⟨gx + 1 + 1, j, none⟩ = some v := (h.pen.cell (p := ⟨gx + 1 + 1, j, none⟩) (block_lt h.b7) (h.f (gx + 1 + 1) (by omega) (block_lt h.b7))).trans (cell_lit h.b7 j v hv)
theorem ptk_start {w0 : World} {g B : Nat} {bits : List Bool} (h : IsWriter w0 g B bits) (c5 c6 c7 : Array Value) : Ptk (((w0.alloc (.cells c5 35)).alloc (.cells c6 66)).alloc (.cells c7 66)) (((w0.alloc (.cells c5 35)).alloc (.cells c6 66)).alloc (.cells c7 66)) g B w0.heap.size bits bits c5 c6 c7 := by
  have hb : Below w0.heap.size w0 (((w0.alloc (.cells c5 35)).alloc (.cells c6 66)).alloc (.cells c7 66)) := (((Below.refl _ w0).alloc (Nat.le_refl _) _).alloc (by simp) _).alloc (by simp; omega) _
  obtain ⟨h1, h2, h3⟩ := heap_three w0 (.cells c5 35) (.cells c6 66) (.cells c7 66)
  refine ⟨PenW.start ((PenW.start h).below hb).1, h1, h2, h3, fun k hk _ e => ?_⟩
  have := foot_lt h _ ((PenW.foot_iff h hb k).1 e)
  omega
theorem pen_of {w0 wb w : World} {g B : Nat} {bits b2 : List Bool} (h : IsWriter w0 g B bits) (hb : Below w0.heap.size w0 wb) (p : PenW wb w g B b2) : PenW w0 w g B b2 := ((PenW.start h).below hb).chain p
set_option maxHeartbeats 6400000 in
theorem cTokLit (w0 : World) (g B : Nat) (bits : List Bool) (h : IsWriter w0 g B bits) (hbl : bits.length ≤ 800000) (b : Int) (hb : 0 ≤ b ∧ b ≤ 255) (a1 a2 : Option Addr) (c1 c2 : Nat) (M D : List Int) (hM : M.length = 401) (hbM : Bk w0 g a1 a2 M) (hML : ∀ s, s < 401 → len M s ≤ 15) (dv1 dv2 : Value) (hd1 : dv1.oneCell' = true) (hd2 : dv2.oneCell' = true) :
    Calls Tryz.prog 36 #[.pointer (some ⟨g, 0, none⟩), .agg #[.int .i64 0, .int .i64 b, .int .i64 0, .int .i64 0, .int .i64 0], .agg #[.slice a1 401 c1, .slice a2 401 c2], .agg #[dv1, dv2]] w0 fun e w' => e = .returned (.int .i64 0) ∧ PenW w0 w' g B (bits ++ tokB M D ⟨0, b, 0, 0, 0⟩) := by
  have hok : Tok.OkTok 0 b 0 0 0 := .inl ⟨rfl, hb.1, hb.2, rfl, rfl, rfl⟩
  obtain ⟨s, hs⟩ : ∃ s : Nat, b = s := ⟨b.toNat, by omega⟩
  subst hs
  have hsym : Tok.symTok 0 (s : Int) 0 0 0 = (s : Int) := by unfold Tok.symTok; rw [if_pos hok, if_pos rfl]
  have hchk : Tok.chk 0 (s : Int) 0 0 0 = 0 := by unfold Tok.chk; exact if_pos hok
  have htk : tokB M D ⟨0, (s : Int), 0, 0, 0⟩ = bitsS M (s : Int) := by
    unfold tokB symN
    rw [show (⟨0, (s : Int), 0, 0, 0⟩ : Tk).k = 0 from rfl, if_pos rfl, List.append_nil]
    show bitsS M ((Tok.symTok 0 (s : Int) 0 0 0).toNat : Int) = _
    rw [hsym, Int.toNat_natCast]
  rw [htk]
  have CS := Lib.hid (fun W => by have := Tok.sym_any 0 (s : Int) 0 0 0 W; rw [hsym, hchk] at this; exact this)
  obtain ⟨gx, hgx⟩ : ∃ gx, w0.heap.size = gx := ⟨_, rfl⟩
  have hbw : Below w0.heap.size w0 (((w0.alloc (.cells #[.int .i64 0, .int .i64 (s : Int), .int .i64 0, .int .i64 0, .int .i64 0] 35)).alloc (.cells #[.slice a1 401 c1, .slice a2 401 c2] 66)).alloc (.cells #[dv1, dv2] 66)) := (((Below.refl _ w0).alloc (Nat.le_refl _) _).alloc (by simp) _).alloc (by simp; omega) _
  have HP0 := Lib.hid (ptk_start h #[.int .i64 0, .int .i64 (s : Int), .int .i64 0, .int .i64 0, .int .i64 0] #[.slice a1 401 c1, .slice a2 401 c2] #[dv1, dv2])
  obtain ⟨wb, hwb⟩ : ∃ wb, (((w0.alloc (.cells #[.int .i64 0, .int .i64 (s : Int), .int .i64 0, .int .i64 0, .int .i64 0] 35)).alloc (.cells #[.slice a1 401 c1, .slice a2 401 c2] 66)).alloc (.cells #[dv1, dv2] 66)) = wb := ⟨_, rfl⟩
  have HBK := Lib.hid (show Bk wb g a1 a2 M from by rw [← hwb]; exact hbM.below h hbw)
  rw [hwb] at HP0 hbw
  rw [hgx] at HP0
  have HBW := Lib.hid hbw
  have HW0 := Lib.hid h
  have HM0 := Lib.hid (show M ≠ [] from fun e => by rw [e] at hM; simp at hM)
  have HMM := Lib.hid hM
  have HML := Lib.hid hML
  have d0 := HP0.out.c5 0 _ rfl
  have d1 := HP0.out.c5 1 _ rfl
  have d2 := HP0.out.c5 2 _ rfl
  have d3 := HP0.out.c5 3 _ rfl
  have d4 := HP0.out.c5 4 _ rfl
  clear hbM h hbw hok hsym hchk htk hM hML
  go_enter Tryz.func36, Tryz.ntmps36
  go_wp2_with fail
  clear hwb hgx d0 d1 d2 d3 d4
  refine (CS.out wb).mono ?_; rintro e w1 ⟨rfl, hb1⟩
  have HP1 := Lib.hid (HP0.out.below hb1)
  have HBK1 := Lib.hid (HBK.out.pen HP1.out.pen HM0.out)
  have e0 := HP1.out.c6 0 _ rfl
  have e1 := HP1.out.c6 1 _ rfl
  clear hb1 CS HP0
  go_wp2_with fail
  clear e0 e1
  refine (cBkPut w1 g B bits HP1.out.pen.1 (by omega) a1 a2 c1 c2 401 M HMM.out HBK1.out (by decide) s (by omega) (HML.out _ (by omega))).mono ?_; rintro e w2 ⟨rfl, hp2⟩
  have HP2 := Lib.hid (HP1.out.on hp2)
  clear hp2 HP1 HBK1
  have d0 := HP2.out.c5 0 _ rfl
  go_wp2_with fail
  go_ret
  exact ⟨rfl, pen_of HW0.out HBW.out HP2.out.pen⟩
theorem extL_lt (l : Nat) (h2 : 2 ≤ l) (h : l ≤ 258) : l - Tok.tbL (Tok.slotL l) < 2 ^ Tok.exL (Tok.slotL l) ∧ Tok.exL (Tok.slotL l) ≤ 30 ∧ Tok.slotL l ≤ 28 := by
  have hf := Tok.slotL_facts ⟨l, by omega⟩ h2
  simp only at hf
  have := (Tok.tbL_bd (Tok.slotL l) (by omega)).2
  refine ⟨?_, this, hf.1⟩
  have key : ∀ n : Fin 259, 2 ≤ n.val → n.val - Tok.tbL (Tok.slotL n.val) < 2 ^ Tok.exL (Tok.slotL n.val) := by decide +kernel
  exact key ⟨l, by omega⟩ h2
theorem tokB_rep (M D : List Int) (l s : Nat) (b d r : Int) (hs : symN ⟨2, b, (l : Int), d, r⟩ = s) : tokB M D ⟨2, b, (l : Int), d, r⟩ = bitsS M (s : Int) ++ extL l := by
  unfold tokB
  rw [hs]
  show bitsS M (s : Int) ++ (extL (l : Int).toNat ++ []) = _
  rw [Int.toNat_natCast, List.append_nil]
theorem tokB_copy (M D : List Int) (l d s : Nat) (b r : Int) (hs : symN ⟨1, b, (l : Int), (d : Int), r⟩ = s) : tokB M D ⟨1, b, (l : Int), (d : Int), r⟩ = bitsS M (s : Int) ++ extL l ++ bitsS D (Slo.slotD d : Int) ++ extD d := by
  unfold tokB
  rw [hs]
  show bitsS M (s : Int) ++ (extL (l : Int).toNat ++ (bitsS D (Slo.slotD (d : Int).toNat : Int) ++ extD (d : Int).toNat)) = _
  rw [Int.toNat_natCast, Int.toNat_natCast]
  simp only [List.append_assoc]
theorem pPut (w : World) (g B : Nat) (l : List Bool) (x n : Nat) (h : IsWriter w g B l) (hn : n ≤ 56) (hx : x < 2 ^ n) (hl : l.length + n ≤ 1000000000000) :
    Calls Tryz.prog 35 #[.pointer (some ⟨g, 0, none⟩), .int .u64 x, .int .i64 n] w fun e w' => e = .returned (.int .i64 0) ∧ PenW w w' g B (l ++ bitsOf x n) :=
  (wPut w g B l x n h hn hx hl).mono fun e w' h => ⟨h.1, h.2.1, h.2.2.1, h.2.2.2⟩
theorem bitsS_few {l : List Int} {s : Nat} (h : len l s ≤ 15) : (bitsS l (s : Int)).length ≤ 15 := by
  unfold bitsS; rw [Int.toNat_natCast, msb_len]; exact h
set_option maxHeartbeats 6400000 in
theorem cTokRep (w0 : World) (g B : Nat) (bits : List Bool) (h : IsWriter w0 g B bits) (hbl : bits.length ≤ 800000) (l r : Nat) (hl : 2 ≤ l ∧ l ≤ 258) (hr : r ≤ 3) (a1 a2 : Option Addr) (c1 c2 : Nat) (M D : List Int) (hM : M.length = 401) (hbM : Bk w0 g a1 a2 M) (hML : ∀ s, s < 401 → len M s ≤ 15) (dv1 dv2 : Value) (hd1 : dv1.oneCell' = true) (hd2 : dv2.oneCell' = true) :
    Calls Tryz.prog 36 #[.pointer (some ⟨g, 0, none⟩), .agg #[.int .i64 2, .int .i64 0, .int .i64 (l : Int), .int .i64 0, .int .i64 (r : Int)], .agg #[.slice a1 401 c1, .slice a2 401 c2], .agg #[dv1, dv2]] w0 fun e w' => e = .returned (.int .i64 0) ∧ PenW w0 w' g B (bits ++ tokB M D ⟨2, 0, (l : Int), 0, (r : Int)⟩) := by
  have hok : Tok.OkTok 2 0 (l : Int) 0 (r : Int) := .inr (.inr ⟨rfl, by omega, by omega, by omega, by omega, rfl, rfl⟩)
  have hsl := (extL_lt l hl.1 hl.2).2.2
  obtain ⟨s, hs⟩ : ∃ s, 285 + 29 * r + Tok.slotL l = s := ⟨_, rfl⟩
  have hsym : Tok.symTok 2 0 (l : Int) 0 (r : Int) = (s : Int) := by
    unfold Tok.symTok
    rw [if_pos hok, if_neg (by decide), if_neg (by decide), Int.toNat_natCast]
    omega
  have hchk : Tok.chk 2 0 (l : Int) 0 (r : Int) = 0 := by unfold Tok.chk; exact if_pos hok
  have htk := tokB_rep M D l s 0 0 (r : Int) (by unfold symN; rw [hsym, Int.toNat_natCast])
  rw [htk]
  have hs400 : s < 401 := by omega
  have CS := Lib.hid (fun W => by have := Tok.sym_any 2 0 (l : Int) 0 (r : Int) W; rw [hsym, hchk] at this; exact this)
  clear hs hsl
  obtain ⟨gx, hgx⟩ : ∃ gx, w0.heap.size = gx := ⟨_, rfl⟩
  have hbw : Below w0.heap.size w0 (((w0.alloc (.cells #[.int .i64 2, .int .i64 0, .int .i64 (l : Int), .int .i64 0, .int .i64 (r : Int)] 35)).alloc (.cells #[.slice a1 401 c1, .slice a2 401 c2] 66)).alloc (.cells #[dv1, dv2] 66)) := (((Below.refl _ w0).alloc (Nat.le_refl _) _).alloc (by simp) _).alloc (by simp; omega) _
  have HP0 := Lib.hid (ptk_start h #[.int .i64 2, .int .i64 0, .int .i64 (l : Int), .int .i64 0, .int .i64 (r : Int)] #[.slice a1 401 c1, .slice a2 401 c2] #[dv1, dv2])
  obtain ⟨wb, hwb⟩ : ∃ wb, (((w0.alloc (.cells #[.int .i64 2, .int .i64 0, .int .i64 (l : Int), .int .i64 0, .int .i64 (r : Int)] 35)).alloc (.cells #[.slice a1 401 c1, .slice a2 401 c2] 66)).alloc (.cells #[dv1, dv2] 66)) = wb := ⟨_, rfl⟩
  have HBK := Lib.hid (show Bk wb g a1 a2 M from by rw [← hwb]; exact hbM.below h hbw)
  rw [hwb] at HP0 hbw
  rw [hgx] at HP0
  have HBW := Lib.hid hbw
  have HW0 := Lib.hid h
  have HM0 := Lib.hid (show M ≠ [] from fun e => by rw [e] at hM; simp at hM)
  have HMM := Lib.hid hM
  have HML := Lib.hid hML
  have d0 := HP0.out.c5 0 _ rfl
  have d1 := HP0.out.c5 1 _ rfl
  have d2 := HP0.out.c5 2 _ rfl
  have d3 := HP0.out.c5 3 _ rfl
  have d4 := HP0.out.c5 4 _ rfl
  clear hbM h hbw hok hsym hchk htk hM hML
  go_enter Tryz.func36, Tryz.ntmps36
  go_wp2_with fail
  clear hwb hgx d0 d1 d2 d3 d4
  refine (CS.out wb).mono ?_; rintro e w1 ⟨rfl, hb1⟩
  have HP1 := Lib.hid (HP0.out.below hb1)
  have HBK1 := Lib.hid (HBK.out.pen HP1.out.pen HM0.out)
  have e0 := HP1.out.c6 0 _ rfl
  have e1 := HP1.out.c6 1 _ rfl
  clear hb1 CS HP0
  go_wp2_with fail
  clear e0 e1
  refine (cBkPut w1 g B bits HP1.out.pen.1 (by omega) a1 a2 c1 c2 401 M HMM.out HBK1.out (by decide) s (by omega) (HML.out _ (by omega))).mono ?_; rintro e w2 ⟨rfl, hp2⟩
  have HP2 := Lib.hid (HP1.out.on hp2)
  clear hp2 HP1 HBK1
  have f0 := HP2.out.c5 0 _ rfl
  have f2 := HP2.out.c5 2 _ rfl
  obtain ⟨hx1, hx2, hx3⟩ := extL_lt l hl.1 hl.2
  have CL := Lib.hid (fun W => Tok.Len_in l hl.1 hl.2 W)
  have hXL : extL l = bitsOf (l - Tok.tbL (Tok.slotL l)) (Tok.exL (Tok.slotL l)) := rfl
  obtain ⟨XM, hXM⟩ : ∃ XM, l - Tok.tbL (Tok.slotL l) = XM := ⟨_, rfl⟩
  obtain ⟨XE, hXE⟩ : ∃ XE, Tok.exL (Tok.slotL l) = XE := ⟨_, rfl⟩
  rw [hXM, hXE] at CL hXL
  rw [hXM] at hx1
  rw [hXE] at hx1 hx2
  have HXL := Lib.hid hXL
  have hx30 : 2 ^ XE ≤ 2 ^ 30 := Nat.pow_le_pow_right (by decide) hx2
  have hu : IntKind.u64.wrap (XM : Int) = (XM : Int) := IntWalk.u64_in _ (by omega)
  have HX1 := Lib.hid hx1
  have HSB := Lib.hid (bitsS_few (HML.out s (by omega)))
  clear hXM hXE hXL hx1
  go_wp2_with fail
  refine (CL.out w2).mono ?_; rintro e w3 ⟨rfl, hb3⟩
  have HP3 := Lib.hid (HP2.out.below hb3)
  have g0 := HP3.out.c5 0 _ rfl
  clear hb3 HP2 CL f0 f2
  go_wp2_with fail
  refine (pPut w3 g B _ XM XE HP3.out.pen.1 (by omega) HX1.out (by rw [List.length_append]; have := HSB.out; omega)).mono ?_; rintro e w4 ⟨rfl, hp4⟩
  have HP4 := Lib.hid (HP3.out.on hp4)
  clear hp4 HP3 g0 hu
  have k0 := HP4.out.c5 0 _ rfl
  go_wp2_with fail
  go_ret
  exact ⟨rfl, by rw [← List.append_assoc, HXL.out]; exact pen_of HW0.out HBW.out HP4.out.pen⟩
theorem extD_lt (d : Nat) (h1 : 1 ≤ d) (h : d ≤ 67108864) : d - Slo.tbD (Slo.slotD d) < 2 ^ Slo.exD (Slo.slotD d) ∧ Slo.exD (Slo.slotD d) ≤ 30 ∧ Slo.slotD d ≤ 51 := by
  obtain ⟨f1, f2, -, f4, f5⟩ := Slo.slotD_facts d h1 h
  have hb := (Slo.tbD_bd (Slo.slotD d) (by omega)).2
  refine ⟨?_, hb, f1⟩
  by_cases hs : d - 1 < 4
  · obtain ⟨e1, e2⟩ := f5 hs
    rw [e1, e2]; simp
  · obtain ⟨-, -, e1, e2⟩ := f4 hs
    rw [← e2, e1]
    exact Nat.mod_lt _ (Nat.pow_pos (by decide))
set_option maxHeartbeats 6400000 in
theorem cTokCopy (w0 : World) (g B : Nat) (bits : List Bool) (h : IsWriter w0 g B bits) (hbl : bits.length ≤ 800000) (l d : Nat) (hl : 2 ≤ l ∧ l ≤ 258) (hd : 1 ≤ d ∧ d ≤ 67108864) (a1 a2 : Option Addr) (c1 c2 : Nat) (M D : List Int) (hM : M.length = 401) (hbM : Bk w0 g a1 a2 M) (hML : ∀ s, s < 401 → len M s ≤ 15) (b1 b2 : Option Addr) (e1 e2 : Nat) (hD : D.length = 52) (hbD : Bk w0 g b1 b2 D) (hDL : ∀ s, s < 52 → len D s ≤ 15) :
    Calls Tryz.prog 36 #[.pointer (some ⟨g, 0, none⟩), .agg #[.int .i64 1, .int .i64 0, .int .i64 (l : Int), .int .i64 (d : Int), .int .i64 0], .agg #[.slice a1 401 c1, .slice a2 401 c2], .agg #[.slice b1 52 e1, .slice b2 52 e2]] w0 fun e w' => e = .returned (.int .i64 0) ∧ PenW w0 w' g B (bits ++ tokB M D ⟨1, 0, (l : Int), (d : Int), 0⟩) := by
  have hok : Tok.OkTok 1 0 (l : Int) (d : Int) 0 := .inr (.inl ⟨rfl, by omega, by omega, by omega, by omega, rfl, rfl⟩)
  have hsl := (extL_lt l hl.1 hl.2).2.2
  obtain ⟨s, hs⟩ : ∃ s, 256 + Tok.slotL l = s := ⟨_, rfl⟩
  have hsym : Tok.symTok 1 0 (l : Int) (d : Int) 0 = (s : Int) := by
    unfold Tok.symTok
    rw [if_pos hok, if_neg (by decide), if_pos rfl, Int.toNat_natCast]
    omega
  have hchk : Tok.chk 1 0 (l : Int) (d : Int) 0 = 0 := by unfold Tok.chk; exact if_pos hok
  have htk := tokB_copy M D l d s 0 0 (by unfold symN; rw [hsym, Int.toNat_natCast])
  rw [htk]
  have hs400 : s < 401 := by omega
  have CS := Lib.hid (fun W => by have := Tok.sym_any 1 0 (l : Int) (d : Int) 0 W; rw [hsym, hchk] at this; exact this)
  clear hs hsl
  obtain ⟨gx, hgx⟩ : ∃ gx, w0.heap.size = gx := ⟨_, rfl⟩
  have hbw : Below w0.heap.size w0 (((w0.alloc (.cells #[.int .i64 1, .int .i64 0, .int .i64 (l : Int), .int .i64 (d : Int), .int .i64 0] 35)).alloc (.cells #[.slice a1 401 c1, .slice a2 401 c2] 66)).alloc (.cells #[.slice b1 52 e1, .slice b2 52 e2] 66)) := (((Below.refl _ w0).alloc (Nat.le_refl _) _).alloc (by simp) _).alloc (by simp; omega) _
  have HP0 := Lib.hid (ptk_start h #[.int .i64 1, .int .i64 0, .int .i64 (l : Int), .int .i64 (d : Int), .int .i64 0] #[.slice a1 401 c1, .slice a2 401 c2] #[.slice b1 52 e1, .slice b2 52 e2])
  obtain ⟨wb, hwb⟩ : ∃ wb, (((w0.alloc (.cells #[.int .i64 1, .int .i64 0, .int .i64 (l : Int), .int .i64 (d : Int), .int .i64 0] 35)).alloc (.cells #[.slice a1 401 c1, .slice a2 401 c2] 66)).alloc (.cells #[.slice b1 52 e1, .slice b2 52 e2] 66)) = wb := ⟨_, rfl⟩
  have HBK := Lib.hid (show Bk wb g a1 a2 M from by rw [← hwb]; exact hbM.below h hbw)
  have HBD := Lib.hid (show Bk wb g b1 b2 D from by rw [← hwb]; exact hbD.below h hbw)
  have HDD := Lib.hid hD
  have HDL := Lib.hid hDL
  have HD0 := Lib.hid (show D ≠ [] from fun e => by rw [e] at hD; simp at hD)
  clear hbD hD hDL
  rw [hwb] at HP0 hbw
  rw [hgx] at HP0
  have HBW := Lib.hid hbw
  have HW0 := Lib.hid h
  have HM0 := Lib.hid (show M ≠ [] from fun e => by rw [e] at hM; simp at hM)
  have HMM := Lib.hid hM
  have HML := Lib.hid hML
  have d0 := HP0.out.c5 0 _ rfl
  have d1 := HP0.out.c5 1 _ rfl
  have d2 := HP0.out.c5 2 _ rfl
  have d3 := HP0.out.c5 3 _ rfl
  have d4 := HP0.out.c5 4 _ rfl
  clear hbM h hbw hok hsym hchk htk hM hML
  go_enter Tryz.func36, Tryz.ntmps36
  go_wp2_with fail
  clear hwb hgx d0 d1 d2 d3 d4
  refine (CS.out wb).mono ?_; rintro e w1 ⟨rfl, hb1⟩
  have HP1 := Lib.hid (HP0.out.below hb1)
  have HBK1 := Lib.hid (HBK.out.pen HP1.out.pen HM0.out)
  have e0 := HP1.out.c6 0 _ rfl
  have e1 := HP1.out.c6 1 _ rfl
  clear hb1 CS HP0
  go_wp2_with fail
  clear e0 e1
  refine (cBkPut w1 g B bits HP1.out.pen.1 (by omega) a1 a2 c1 c2 401 M HMM.out HBK1.out (by decide) s (by omega) (HML.out _ (by omega))).mono ?_; rintro e w2 ⟨rfl, hp2⟩
  have HP2 := Lib.hid (HP1.out.on hp2)
  clear hp2 HP1 HBK1
  have f0 := HP2.out.c5 0 _ rfl
  have f2 := HP2.out.c5 2 _ rfl
  obtain ⟨hx1, hx2, hx3⟩ := extL_lt l hl.1 hl.2
  have CL := Lib.hid (fun W => Tok.Len_in l hl.1 hl.2 W)
  have hXL : extL l = bitsOf (l - Tok.tbL (Tok.slotL l)) (Tok.exL (Tok.slotL l)) := rfl
  obtain ⟨XM, hXM⟩ : ∃ XM, l - Tok.tbL (Tok.slotL l) = XM := ⟨_, rfl⟩
  obtain ⟨XE, hXE⟩ : ∃ XE, Tok.exL (Tok.slotL l) = XE := ⟨_, rfl⟩
  rw [hXM, hXE] at CL hXL
  rw [hXM] at hx1
  rw [hXE] at hx1 hx2
  have HXL := Lib.hid hXL
  have hx30 : 2 ^ XE ≤ 2 ^ 30 := Nat.pow_le_pow_right (by decide) hx2
  have hu : IntKind.u64.wrap (XM : Int) = (XM : Int) := IntWalk.u64_in _ (by omega)
  have HX1 := Lib.hid hx1
  have HSB := Lib.hid (bitsS_few (HML.out s (by omega)))
  clear hXM hXE hXL hx1
  go_wp2_with fail
  refine (CL.out w2).mono ?_; rintro e w3 ⟨rfl, hb3⟩
  have HP3 := Lib.hid (HP2.out.below hb3)
  have g0 := HP3.out.c5 0 _ rfl
  clear hb3 HP2 CL f0 f2
  go_wp2_with fail
  refine (pPut w3 g B _ XM XE HP3.out.pen.1 (by omega) HX1.out (by rw [List.length_append]; have := HSB.out; omega)).mono ?_; rintro e w4 ⟨rfl, hp4⟩
  have HP4 := Lib.hid (HP3.out.on hp4)
  clear hp4 HP3 g0 hu
  have k0 := HP4.out.c5 0 _ rfl
  have k3 := HP4.out.c5 3 _ rfl
  obtain ⟨hy1, hy2, hy3⟩ := extD_lt d hd.1 hd.2
  have CD := Lib.hid (fun W => Slo.Dist_in d hd.1 hd.2 W)
  have hYL : extD d = bitsOf (d - Slo.tbD (Slo.slotD d)) (Slo.exD (Slo.slotD d)) := rfl
  obtain ⟨YM, hYM⟩ : ∃ YM, d - Slo.tbD (Slo.slotD d) = YM := ⟨_, rfl⟩
  obtain ⟨YE, hYE⟩ : ∃ YE, Slo.exD (Slo.slotD d) = YE := ⟨_, rfl⟩
  rw [hYM, hYE] at CD hYL
  rw [hYM] at hy1
  rw [hYE] at hy1 hy2
  obtain ⟨YS, hYS⟩ : ∃ YS, Slo.slotD d = YS := ⟨_, rfl⟩
  rw [hYS] at CD hy3
  have HYS := Lib.hid hYS
  have HYL := Lib.hid hYL
  have hy30 : 2 ^ YE ≤ 2 ^ 30 := Nat.pow_le_pow_right (by decide) hy2
  have hu2 : IntKind.u64.wrap (YM : Int) = (YM : Int) := IntWalk.u64_in _ (by omega)
  have HY1 := Lib.hid hy1
  have HSB2 := Lib.hid (bitsS_few (HDL.out YS (by omega)))
  have hxl : (bitsOf XM XE).length = XE := bitsOf_length _ _
  have HXLN := Lib.hid hxl
  clear hYM hYE hYL hy1 hYS hxl
  go_wp2_with fail
  refine (CD.out w4).mono ?_; rintro e w5 ⟨rfl, hb5⟩
  have HP5 := Lib.hid (HP4.out.below hb5)
  have HBD5 := Lib.hid (HBD.out.pen HP5.out.pen HD0.out)
  have m0 := HP5.out.c7 0 _ rfl
  have m1 := HP5.out.c7 1 _ rfl
  clear hb5 HP4 CD k0 k3
  go_wp2_with fail
  refine (cBkPut w5 g B _ HP5.out.pen.1 (by rw [List.length_append, List.length_append]; have := HSB.out; have := HXLN.out; omega) b1 b2 e1 e2 52 D HDD.out HBD5.out (by decide) YS (by omega) (HDL.out _ (by omega))).mono ?_; rintro e w6 ⟨rfl, hp6⟩
  have HP6 := Lib.hid (HP5.out.on hp6)
  clear hp6 HP5 HBD5 m0 m1
  go_wp2_with fail
  refine (pPut w6 g B _ YM YE HP6.out.pen.1 (by omega) HY1.out (by rw [List.length_append, List.length_append, List.length_append]; have := HSB.out; have := HSB2.out; have := HXLN.out; omega)).mono ?_; rintro e w7 ⟨rfl, hp7⟩
  have HP7 := Lib.hid (HP6.out.on hp7)
  clear hp7 HP6 hu2
  go_wp2_with fail
  go_ret
  refine ⟨rfl, ?_⟩
  have := pen_of HW0.out HBW.out HP7.out.pen
  rw [HXL.out, HYL.out, HYS.out]
  simp only [List.append_assoc] at this ⊢
  exact this
end Go.Proofs.YtmhjmoeeahepaaaGreat

/- Layer 27: the tables of tokens: mathematics; a book without codes. -/
namespace Go.Proofs.YtmhjmoeeahepaaaGreat
open Go.ChangeShapes Go.WideShapes Go.ChangeAt Go.RowKit
set_option linter.unusedVariables false
set_option linter.unusedSimpArgs false
set_option maxRecDepth 100000
open Bits hiding packF pack_length
open RunsMath KraftMath CanonMath TurnMath Pm
theorem bump_at (o : List Int) (i j : Nat) (h : ∀ j, 0 ≤ o.getD j 0) : o.getD j 0 ≤ (bump o i).getD j 0 ∧ (i < o.length → 0 < (bump o i).getD i 0) := by
  unfold bump
  constructor
  · by_cases e : i = j
    · subst e
      by_cases hi : i < o.length
      · simp only [List.getD_eq_getElem?_getD, List.getElem?_set_self hi, Option.getD_some]; omega
      · rw [List.set_eq_of_length_le (by omega)]; exact Int.le_refl _
    · simp only [List.getD_eq_getElem?_getD, List.getElem?_set_ne e]; exact Int.le_refl _
  · intro hi
    have := h i
    simp only [List.getD_eq_getElem?_getD, List.getElem?_set_self hi, Option.getD_some] at this ⊢
    omega
theorem tl_pos (l : List Tk) : (∀ t ∈ l, t.ok) → ∀ t ∈ l, 0 < (tl l).1.getD (symN t) 0 ∧ (t.k = 1 → 0 < (tl l).2.getD (Slo.slotD t.d.toNat) 0) := by
  refine snoc_ind (P := fun l => (∀ t ∈ l, t.ok) → ∀ t ∈ l, 0 < (tl l).1.getD (symN t) 0 ∧ (t.k = 1 → 0 < (tl l).2.getD (Slo.slotD t.d.toNat) 0)) ?_ ?_ l
  · intro _ t ht; simp at ht
  · intro l x ih hok t ht
    obtain ⟨hl1, hl2⟩ := tl_len l
    obtain ⟨hb1, hb2⟩ := tl_bd l
    have hx := hok x (by simp)
    obtain ⟨-, s1, -, s2⟩ := sym_ok x hx
    rw [tl_snoc]
    have hm := bump_at (tl l).1 (symN x)
    rcases List.mem_append.1 ht with ht | ht
    · obtain ⟨i1, i2⟩ := ih (fun t h => hok t (List.mem_append_left _ h)) t ht
      refine ⟨?_, fun hk => ?_⟩
      · have := (hm (symN t) (fun j => (hb1 j).1)).1
        show 0 < (bump (tl l).1 (symN x)).getD (symN t) 0
        omega
      · have i3 := i2 hk
        show 0 < (if x.k = 1 then bump (tl l).2 (Slo.slotD x.d.toNat) else (tl l).2).getD (Slo.slotD t.d.toNat) 0
        split
        · have := (bump_at (tl l).2 (Slo.slotD x.d.toNat) (Slo.slotD t.d.toNat) (fun j => (hb2 j).1)).1
          omega
        · exact i3
    · rw [List.mem_singleton] at ht
      subst ht
      refine ⟨(hm 0 (fun j => (hb1 j).1)).2 (by omega), fun hk => ?_⟩
      obtain ⟨d1, d2⟩ := s2 hk
      have := (Slo.slotD_facts t.d.toNat (by omega) (by omega)).1
      show 0 < (if t.k = 1 then bump (tl l).2 (Slo.slotD t.d.toNat) else (tl l).2).getD (Slo.slotD t.d.toNat) 0
      rw [if_pos hk]
      exact (bump_at (tl l).2 (Slo.slotD t.d.toNat) 0 (fun j => (hb2 j).1)).2 (by omega)
theorem tl_near (l : List Tk) : (∀ t ∈ l, t.k ≠ 1) → (tl l).2 = List.replicate 52 0 := by
  refine snoc_ind (P := fun l => (∀ t ∈ l, t.k ≠ 1) → (tl l).2 = List.replicate 52 0) ?_ ?_ l
  · intro _; rfl
  · intro l x ih h
    rw [tl_snoc]
    show (if x.k = 1 then bump (tl l).2 (Slo.slotD x.d.toNat) else (tl l).2) = _
    rw [if_neg (h x (by simp))]
    exact ih (fun t ht => h t (List.mem_append_left _ ht))
theorem used_some {l : List Int} {i : Nat} (hi : i < l.length) (h : 0 < l.getD i 0) : 0 < used l := by
  have h1 := used_succ l i hi
  rw [if_pos h] at h1
  have h2 : used l = used (l.take (i + 1)) + used (l.drop (i + 1)) := by rw [← used_append, List.take_append_drop]
  omega
theorem none_bad : check (List.replicate 52 0) 16 ≠ 0 := by decide +kernel
/-- What the tables of tokens are. -/
structure Tabs (l : List Tk) (M D : List Int) : Prop where
  lm : M.length = 401
  ld : D.length = 52
  okM : check M 15 = 0
  bM : ∀ s, s < 401 → len M s ≤ 15
  sM : ∀ t ∈ l, 0 < len M (symN t)
  vM : okB M = true
  vD : okB D = true
  bD : ∀ s, s < 52 → len D s ≤ 15
  far : (∃ t ∈ l, t.k = 1) → check D 15 = 0 ∧ ∀ t ∈ l, t.k = 1 → 0 < len D (Slo.slotD t.d.toNat)
  near : (¬ ∃ t ∈ l, t.k = 1) → D = List.replicate 52 0
theorem okB_of {l : List Int} (h : ∀ i, 0 ≤ l.getD i 0 ∧ l.getD i 0 ≤ 15) : okB l = true := okB_good fun k _ => h k
theorem tab_facts (f : List Int) (hl : f.length ≤ 1000) (hb : ∀ i, 0 ≤ f.getD i 0 ∧ f.getD i 0 ≤ 300) (i : Nat) (hi : i < f.length) (hp : 0 < f.getD i 0) :
    check (tabL f) 15 = 0 ∧ (∀ j, 0 ≤ (tabL f).getD j 0 ∧ (tabL f).getD j 0 ≤ 15) ∧ ∀ j, 0 < f.getD j 0 → 0 < len (tabL f) j := by
  have hc := (chk15 f hl hb).1 (used_some hi hp)
  have e : tabL f = lensV f 15 := by unfold tabL; rw [if_pos hc]
  have hbd := lensV_bd f 15 hc
  rw [e]
  refine ⟨(lens_may f 15 hc).2.1, fun j => ⟨(hbd j).1, (hbd j).2.1⟩, fun j hj => ?_⟩
  have := (hbd j).2.2.2 hj
  unfold len
  omega
theorem tabs_of (l : List Tk) (h0 : l ≠ []) (hn : l.length ≤ 300) (hok : ∀ t ∈ l, t.ok) : Tabs l (tabL (tl l).1) (tabL (tl l).2) := by
  obtain ⟨hl1, hl2⟩ := tl_len l
  obtain ⟨hb1, hb2⟩ := tl_bd l
  have hp := tl_pos l hok
  have B1 : ∀ i, 0 ≤ (tl l).1.getD i 0 ∧ (tl l).1.getD i 0 ≤ 300 := fun i => by have := hb1 i; omega
  have B2 : ∀ i, 0 ≤ (tl l).2.getD i 0 ∧ (tl l).2.getD i 0 ≤ 300 := fun i => by have := hb2 i; omega
  obtain ⟨t0, ht0⟩ := List.exists_mem_of_ne_nil l h0
  have hs0 := (sym_ok t0 (hok t0 ht0)).2.1
  obtain ⟨m1, m2, m3⟩ := tab_facts (tl l).1 (by omega) B1 (symN t0) (by omega) (hp t0 ht0).1
  have hfar : (∃ t ∈ l, t.k = 1) → check (tabL (tl l).2) 15 = 0 ∧ (∀ j, 0 ≤ (tabL (tl l).2).getD j 0 ∧ (tabL (tl l).2).getD j 0 ≤ 15) ∧ ∀ j, 0 < (tl l).2.getD j 0 → 0 < len (tabL (tl l).2) j := by
    rintro ⟨t, ht, hk⟩
    obtain ⟨-, -, -, s2⟩ := sym_ok t (hok t ht)
    obtain ⟨d1, d2⟩ := s2 hk
    have := (Slo.slotD_facts t.d.toNat (by omega) (by omega)).1
    exact tab_facts (tl l).2 (by omega) B2 (Slo.slotD t.d.toNat) (by omega) ((hp t ht).2 hk)
  have hnear : (¬ ∃ t ∈ l, t.k = 1) → tabL (tl l).2 = List.replicate 52 0 := by
    intro hn
    rw [tl_near l (fun t ht hk => hn ⟨t, ht, hk⟩)]
    decide +kernel
  have bD : ∀ j, 0 ≤ (tabL (tl l).2).getD j 0 ∧ (tabL (tl l).2).getD j 0 ≤ 15 := by
    intro j
    by_cases hx : ∃ t ∈ l, t.k = 1
    · exact (hfar hx).2.1 j
    · rw [hnear hx, rep_get]; omega
  refine ⟨by rw [tabL_len, hl1], by rw [tabL_len, hl2], m1, fun s _ => by have := m2 s; unfold len; omega, fun t ht => m3 _ (hp t ht).1, okB_of m2, okB_of bD, fun s _ => by have := bD s; unfold len; omega, fun hx => ⟨(hfar hx).1, fun t ht hk => (hfar hx).2.2 _ ((hp t ht).2 hk)⟩, hnear⟩
set_option maxHeartbeats 1600000 in
theorem cCodesNil (a : Option Addr) (c : Nat) (l : List Int) (w : World) (h : IsInts w a l) (hE : check l 16 ≠ 0) :
    Calls Tryz.prog 44 #[.slice a l.length c] w fun e w' => e = .returned (.tuple #[.slice none 0 0, .int .i64 (check l 16)]) ∧ Below w.heap.size w w' := by
  have C := Lib.hid (kCheck_any a c 16 l w h)
  obtain ⟨E, hEE⟩ : ∃ E, check l 16 = E := ⟨_, rfl⟩
  rw [hEE] at C hE ⊢
  have hne : (E != 0) = true := by rw [bne_iff_ne]; exact hE
  clear h hEE
  go_enter Tryz.func44, Tryz.ntmps44
  go_wp2_with fail
  refine C.out.mono ?_; rintro e w0 ⟨rfl, n0, rfl⟩
  go_wp2_with fail
  go_ret2
  exact ⟨rfl, below_dn (Below.refl _ _) _⟩
set_option maxHeartbeats 1600000 in
theorem cBookNil (a : Option Addr) (c : Nat) (l : List Int) (w : World) (h : IsInts w a l) (hE : check l 16 ≠ 0) :
    Calls Tryz.prog 34 #[.slice a l.length c] w fun e w' => e = .returned (.agg #[.slice none 0 0, .slice a l.length c]) ∧ Below w.heap.size w w' := by
  have HI := Lib.hid h
  have CC := Lib.hid (fun W h => cCodesNil a c l W h hE)
  clear h hE
  go_enter Tryz.func34, Tryz.ntmps34
  have hq := heap_alloc_new w (.cells #[.slice none 0 0, .slice none 0 0] 66)
  have HB := Lib.hid ((Below.refl w.heap.size w).alloc (Nat.le_refl _) (.cells #[.slice none 0 0, .slice none 0 0] 66))
  obtain ⟨gb, hg⟩ : ∃ gb, w.heap.size = gb := ⟨_, rfl⟩
  have HG := Lib.hid hg
  obtain ⟨w1, hw1⟩ : ∃ w1, w.alloc (.cells #[.slice none 0 0, .slice none 0 0] 66) = w1 := ⟨_, rfl⟩
  go_wp2_with fail
  rw [hg, hw1] at hq HB
  have HQ := Lib.hid hq
  clear hq hg hw1
  refine (CC.out w1 (HI.out.kept (by rw [HG.out]; exact HB.out))).mono ?_; rintro e w2 ⟨rfl, hb2⟩
  have HQ2 := Lib.hid ((hb2.block _ (block_lt HQ.out)).trans HQ.out)
  have HB2 := Lib.hid (show Below gb w w2 from HB.out.trans (hb2.mono (by have := block_lt HQ.out; omega)))
  clear hb2 HQ HB CC
  go_wp2_with fail
  go_loopw [13] (fun i wr => i = .int .i64 0 ∧ wr = w2) (fun i _ => 0)
  case atStart => exact ⟨rfl, rfl⟩
  case round =>
    obtain ⟨rfl, rfl⟩ := hrel
    have c0 := cell_lit HQ2.out 0 _ rfl
    have c1 := cell_lit HQ2.out 1 _ rfl
    have f0 := free_in HQ2.out 0
    have f1 := free_in HQ2.out 1
    have lg := block_lt HQ2.out
    go_wp2_with fail
    have hz := block_set (block_set HQ2.out 0 (.slice none 0 0)) 1 (.slice a l.length c)
    have d0 := cell_lit hz 0 (.slice none 0 0) rfl
    have d1 := cell_lit hz 1 (.slice a l.length c) rfl
    have HX3 := Lib.hid ((HB2.out.setCell (p := ⟨gb, 0, none⟩) (Nat.le_refl _) (.slice none 0 0)).setCell (p := ⟨gb, 1, none⟩) (Nat.le_refl _) (.slice a l.length c))
    exact bodyPost_ret (v := .agg #[_, _]) (by simp [results, Tryz.results34, go_sem, d0, d1]) rfl ⟨rfl, by rw [HG.out]; exact HX3.out⟩
end Go.Proofs.YtmhjmoeeahepaaaGreat

/- Layer 27: tokens are written. -/
namespace Go.Proofs.YtmhjmoeeahepaaaGreat
open Go.ChangeShapes Go.WideShapes Go.ChangeAt Go.RowKit
set_option linter.unusedVariables false
set_option linter.unusedSimpArgs false
set_option maxRecDepth 100000
open Bits hiding packF pack_length
open RunsMath KraftMath CanonMath TurnMath Pm
def tabB (l : List Int) : List Bool := writeB (packL l) (ofR (packL l))
/-- What is ahead of the tokens. -/
def headsB (far : Bool) (M D : List Int) : List Bool := tabB M ++ (if far then true :: tabB D else [false])
def farB (l : List Tk) : Bool := l.any fun t => decide (t.k = 1)
def codedB (l : List Tk) (M D : List Int) : List Bool := headsB (farB l) M D ++ l.flatMap (tokB M D)
theorem far_iff (l : List Tk) : farB l = true ↔ ∃ t ∈ l, t.k = 1 := by simp [farB]
theorem tabB_few {l : List Int} (h0 : l ≠ []) (hl : l.length ≤ 1024) (hok : okB l = true) : (tabB l).length ≤ 14397 := by
  have hR := pack_ok h0 hl hok
  unfold tabB writeB
  have h1 := runs_len hR (packL l).length (Nat.le_refl _)
  rw [List.take_length] at h1
  have h2 : (headB (ofR (packL l))).length ≤ 61 := by
    unfold headB; rw [headTo_len]; have := headN_le (ofR (packL l)) 19; omega
  have := hR.few
  rw [List.length_append]; omega
theorem tokB_few {l : List Tk} {M D : List Int} (T : Tabs l M D) {t : Tk} (ht : t ∈ l) (hok : t.ok) : (tokB M D t).length ≤ 90 := by
  have hs := (sym_ok t hok).2.1
  have b1 := bitsS_few (T.bM (symN t) (by omega))
  unfold tokB
  rw [List.length_append]
  by_cases hk : t.k = 0
  · rw [if_pos hk]; simp; omega
  · rw [if_neg hk, List.length_append]
    have hlr : 2 ≤ t.l ∧ t.l ≤ 258 := by
      unfold Tk.ok Tok.OkTok at hok
      rcases hok with h | h | h
      · exact absurd h.1 hk
      · exact ⟨h.2.1, h.2.2.1⟩
      · exact ⟨h.2.1, h.2.2.1⟩
    have e1 : (extL t.l.toNat).length ≤ 30 := by unfold extL; rw [bitsOf_length]; exact (extL_lt t.l.toNat (by omega) (by omega)).2.1
    by_cases hk1 : t.k = 1
    · obtain ⟨d1, d2⟩ := (sym_ok t hok).2.2.2 hk1
      obtain ⟨-, x2, x3⟩ := extD_lt t.d.toNat (by omega) (by omega)
      have e2 : (extD t.d.toNat).length ≤ 30 := by unfold extD; rw [bitsOf_length]; exact x2
      have b2 := bitsS_few (T.bD (Slo.slotD t.d.toNat) (by omega))
      rw [if_pos hk1, List.length_append]; omega
    · rw [if_neg hk1]; simp; omega
theorem toks_few {l : List Tk} {M D : List Int} (T : Tabs l M D) (hok : ∀ t ∈ l, t.ok) : ∀ k, k ≤ l.length → ((l.take k).flatMap (tokB M D)).length ≤ 90 * k
  | 0, _ => by simp
  | k + 1, h => by
    rw [List.take_succ_eq_append_getElem (by omega), List.flatMap_append, List.length_append]
    have := toks_few T hok k (by omega)
    have hm : l[k] ∈ l := List.getElem_mem (by omega)
    have := tokB_few T hm (hok _ hm)
    simp only [List.flatMap_cons, List.flatMap_nil, List.append_nil]
    omega
theorem cWriteNil (w : World) (a : Option Addr) (c : Nat) : Calls Tryz.prog 15 #[.slice a 0 c] w fun e w' => e = .returned (.tuple #[.pointer none, .int .i64 1]) ∧ w' = w := by
  go_enter Tryz.func15, Tryz.ntmps15
  go_wp2_with fail
  go_ret2
  exact ⟨rfl, rfl⟩
set_option maxHeartbeats 1600000 in
theorem cWriteBad (a : Option Addr) (c n : Nat) (l : List Tk) (w : World) (hl : l.length = n) (h : IsTk w a l) (h0 : n ≠ 0) (hn : n ≤ 300) (hb : ¬ ∀ t ∈ l, t.ok) :
    Calls Tryz.prog 15 #[.slice a n c] w fun e w' => e = .returned (.tuple #[.pointer none, .int .i64 10]) ∧ Below w.heap.size w w' := by
  have C := Lib.hid (cTabBad a c n l w hl h hn 10 (by unfold frA; rw [if_neg hb]) (by decide))
  have hni : ((n : Int) == 0) = false := by rw [beq_eq_false_iff_ne]; omega
  clear h hb hl
  go_enter Tryz.func15, Tryz.ntmps15
  go_wp2_with fail
  refine C.out.mono ?_; rintro e w1 ⟨rfl, hb1⟩
  have HB := Lib.hid hb1
  clear hb1
  go_wp2_with fail
  go_ret2
  exact ⟨rfl, HB.out⟩
end Go.Proofs.YtmhjmoeeahepaaaGreat
