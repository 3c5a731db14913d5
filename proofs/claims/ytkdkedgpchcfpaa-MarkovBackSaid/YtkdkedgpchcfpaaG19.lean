/- Layer 46: what an encoder's tree asks: two rows that grow in one statement. -/
import Derived.Test.YtkdkedgpchcfpaaG14
import Derived.Test.YtkdkedgpchcfpaaGq
import Derived.Test.YtkdkedgpchcfpaaGr
import Derived.Deep.CutRange
namespace Go.Proofs.Ytkdkedgpchcfpaa
open Go.ChangeShapes Go.WideShapes Go.ChangeAt Go.RowKit
set_option linter.unusedVariables false
set_option linter.unusedSimpArgs false
set_option maxRecDepth 100000
open Range
/-- append of one cell to a row of the call's own, as a step of a region that draws: what stays. -/
theorem step_grow {P : Program} {α : Type} {f : α → List Value} {E ST bytes : Nat} {z0 : Value} (hE : (P.info? E).map (fun i => (i.zero, i.size, i.bytes)) = some (some z0, 1, bytes)) (hz0 : z0.cells.size = 1) (hby : bytes ≤ 64) (hST : P.underlying ST = some (.slice E)) (hf : Flat f 1)
    {ops : Array Oper} {o : Oper} {a : Act} {W : World} {K : Act → World → Prop} {Q : Exit → Act → World → Prop} {R : Prop} (hgd : o.guard = none) (s x : Operand)
    (ho : o.op = .call { callee := .builtin .append, args := #[s, x], argTypes := #[ST, ST] })
    (B : Nat) (v : Value) (l : List α) (c : α) (u : Value) (hu : f c = [u]) (hs : a.eval s = v) (hown : OwnS f E 1 B W v l) (g c1 : Nat) (hx : a.eval x = .slice (some ⟨g, 0, none⟩) 1 c1) (T : TypeId) (hcell : W.heap[g]? = some (.cells #[u] T (0, 0))) (hl : l.length ≤ 1099511627776) (hB : B ≤ W.heap.size)
    (h : ∀ v' w', OwnS f E 1 B w' v' (l ++ [c]) → W.grownBy w' v.ownBlock → (v'.ownBlock = v.ownBlock ∨ v'.ownBlock = some W.heap.size) → K (a.put o.dst v') w') :
    if Region.wanted o (yielded ops a.tmps) = true then Oper.wp P o a W K Q else R := by
  obtain ⟨i0, hi, h1, h2, h3⟩ := info_get hE
  have hone : u.oneCell' = true := (hf c).2 u (by rw [hu]; simp)
  have hlen := flat_len hf l
  refine step_append_at hgd s x ST ho B E i0 z0 bytes hST hi h1 h2 h3 hz0 v l.length (l.flatMap f) hs hown ⟨g, 0, none⟩ 1 c1 [u] hx rfl ?_ (by intro y hy; simp at hy; subst hy; exact hone) (by unfold maxLen; omega) ?_ hB (by decide) ?_
  · refine cells_of (fun j hj => ?_)
    match j, hj with
    | 0, _ => rw [cell_in hcell]; rfl
  · have : (l.length + 1) * bytes ≤ (l.length + 1) * 64 := Nat.mul_le_mul_left _ hby
    omega
  · intro k cap w' ho' hg' hk
    have e : (l ++ [c]).flatMap f = l.flatMap f ++ [u] := by rw [List.flatMap_append]; simp [hu]
    refine h _ w' ?_ hg' ?_
    · unfold OwnS; rw [e, List.length_append]; exact ho'
    · rcases hk with hk | hk
      · exact .inl (by rw [hk]; rfl)
      · exact .inr (by rw [hk]; rfl)
/-- The boxes of a closure that tells bits: how many are left, the rows, the number. -/
structure EB (w : World) (B gk gb gx gp k x : Nat) (vb vp : Value) (bl : List Bool) (pl : List Int) : Prop where
  bk : w.heap[gk]? = some (.cells #[.int .i64 k] 3 (0, 0))
  bb : w.heap[gb]? = some (.cells #[vb] 22 (0, 0))
  bx : w.heap[gx]? = some (.cells #[.int .i64 x] 3 (0, 0))
  bp : w.heap[gp]? = some (.cells #[vp] 23 (0, 0))
  rb : OwnB B w vb bl
  rp : OwnI B w vp pl
  kx : gk ≠ gx
  pk : vp.ownBlock ≠ some gk
  px : vp.ownBlock ≠ some gx
  Bk : B ≤ gk
  Bb : B ≤ gb
  Bx : B ≤ gx
  Bp : B ≤ gp
def ebFeet (gk gb gp : Nat) (vb vp : Value) : Nat → Prop := fun j => j = gk ∨ j = gb ∨ j = gp ∨ vb.ownBlock = some j ∨ vp.ownBlock = some j
theorem block_ne {w : World} {g h : Nat} {C D : Array Value} {t u : TypeId} {p q : Nat × Nat} (h1 : w.heap[g]? = some (.cells C t p)) (h2 : w.heap[h]? = some (.cells D u q)) (hne : t ≠ u) : g ≠ h := by
  rintro rfl; rw [h1] at h2; injection h2 with h2; injection h2 with _ h2 _; exact hne h2
/-- In the midst of a statement that lets both rows grow. -/
structure M2 (W w' : World) (B gk gb gx gp k x : Nat) (vb vp ub up : Value) (bl : List Bool) (pl : List Int) : Prop where
  bk : w'.heap[gk]? = some (.cells #[.int .i64 k] 3 (0, 0))
  bb : w'.heap[gb]? = some (.cells #[vb] 22 (0, 0))
  bx : w'.heap[gx]? = some (.cells #[.int .i64 x] 3 (0, 0))
  bp : w'.heap[gp]? = some (.cells #[vp] 23 (0, 0))
  rb : OwnB B w' ub bl
  rp : OwnI B w' up pl
  pk : up.ownBlock ≠ some gk
  px : up.ownBlock ≠ some gx
  kp : Keeps (ebFeet gk gb gp vb vp) W w'
  nb : ub.ownBlock = vb.ownBlock ∨ ∃ j, ub.ownBlock = some j ∧ W.heap.size ≤ j
  np : up.ownBlock = vp.ownBlock ∨ ∃ j, up.ownBlock = some j ∧ W.heap.size ≤ j
section
variable {W w' w2 : World} {B gk gb gx gp k x : Nat} {vb vp ub up u2 : Value} {bl bl2 : List Bool} {pl pl2 : List Int}
theorem M2.alloc (h : M2 W w' B gk gb gx gp k x vb vp ub up bl pl) (o : Obj) : M2 W (w'.alloc o) B gk gb gx gp k x vb vp ub up bl pl :=
  ⟨heap_old h.bk _, heap_old h.bb _, heap_old h.bx _, heap_old h.bp _, h.rb.alloc _, h.rp.alloc _, h.pk, h.px, h.kp.alloc _, h.nb, h.np⟩
theorem M2.drew (h : M2 W w' B gk gb gx gp k x vb vp ub up bl pl) : M2 W w'.drew B gk gb gx gp k x vb vp ub up bl pl :=
  ⟨h.bk, h.bb, h.bx, h.bp, h.rb, h.rp, h.pk, h.px, h.kp.drew, h.nb, h.np⟩
theorem M2.kept (h : M2 W w' B gk gb gx gp k x vb vp ub up bl pl) (hb : Below w'.heap.size w' w2) : M2 W w2 B gk gb gx gp k x vb vp ub up bl pl :=
  ⟨(hb.block _ (block_lt h.bk)).trans h.bk, (hb.block _ (block_lt h.bb)).trans h.bb, (hb.block _ (block_lt h.bx)).trans h.bx, (hb.block _ (block_lt h.bp)).trans h.bp, OwnS.kept h.rb hb, OwnS.kept h.rp hb, h.pk, h.px, h.kp.trans (Keeps.of_below hb), h.nb, h.np⟩
theorem M2.growB (h : M2 W w' B gk gb gx gp k x vb vp ub up bl pl) (hg : w'.grownBy w2 ub.ownBlock) (ho : OwnB B w2 u2 bl2) (hv : u2.ownBlock = ub.ownBlock ∨ u2.ownBlock = some w'.heap.size) : M2 W w2 B gk gb gx gp k x vb vp u2 up bl2 pl := by
  refine ⟨grown_heap hg h.bk (own_ne h.rb h.bk (by decide)), grown_heap hg h.bb (own_ne h.rb h.bb (by decide)), grown_heap hg h.bx (own_ne h.rb h.bx (by decide)), grown_heap hg h.bp (own_ne h.rb h.bp (by decide)), ho, OwnS.grown h.rp hg (own_apart h.rp h.rb (by decide)), h.pk, h.px, h.kp.grown hg (fun j hj => ?_), ?_, h.np⟩
  · rcases h.nb with e | ⟨q, e, hq⟩
    · exact .inr (.inr (.inr (.inr (.inl (by rw [← e]; exact hj)))))
    · rw [e] at hj; injection hj with hj; exact .inl (by omega)
  · rcases hv with e | e
    · rw [e]; exact h.nb
    · exact .inr ⟨_, e, h.kp.size⟩
theorem M2.growI (h : M2 W w' B gk gb gx gp k x vb vp ub up bl pl) (hg : w'.grownBy w2 up.ownBlock) (ho : OwnI B w2 u2 pl2) (hv : u2.ownBlock = up.ownBlock ∨ u2.ownBlock = some w'.heap.size) : M2 W w2 B gk gb gx gp k x vb vp ub u2 bl pl2 := by
  have lk := block_lt h.bk
  have lx := block_lt h.bx
  refine ⟨grown_heap hg h.bk h.pk, grown_heap hg h.bb (own_ne h.rp h.bb (by decide)), grown_heap hg h.bx h.px, grown_heap hg h.bp (own_ne h.rp h.bp (by decide)), OwnS.grown h.rb hg (own_apart h.rb h.rp (by decide)), ho, ?_, ?_, h.kp.grown hg (fun j hj => ?_), h.nb, ?_⟩
  · rcases hv with e | e
    · rw [e]; exact h.pk
    · rw [e]; intro q; injection q with q; omega
  · rcases hv with e | e
    · rw [e]; exact h.px
    · rw [e]; intro q; injection q with q; omega
  · rcases h.np with e | ⟨q, e, hq⟩
    · exact .inr (.inr (.inr (.inr (.inr (by rw [← e]; exact hj)))))
    · rw [e] at hj; injection hj with hj; exact .inl (by omega)
  · rcases hv with e | e
    · rw [e]; exact h.np
    · exact .inr ⟨_, e, h.kp.size⟩
theorem M2.cells (h : M2 W w' B gk gb gx gp k x vb vp ub up bl pl) : w'.cell? ⟨gk, 0, none⟩ = some (.int .i64 k) ∧ w'.cell? ⟨gx, 0, none⟩ = some (.int .i64 x) ∧ w'.cell? ⟨gb, 0, none⟩ = some vb ∧ w'.cell? ⟨gp, 0, none⟩ = some vp := ⟨cell_lit h.bk 0 _ rfl, cell_lit h.bx 0 _ rfl, cell_lit h.bb 0 _ rfl, cell_lit h.bp 0 _ rfl⟩
theorem heap_two (w : World) (a b : Obj) : ((w.alloc a).alloc b).heap[w.heap.size + 1]? = some b := by
  have := heap_alloc_new (w.alloc a) b
  simpa using this
theorem M2.done (h : M2 W w' B gk gb gx gp k x vb vp ub up bl pl) (hkx : gk ≠ gx) (h1 : B ≤ gk) (h2 : B ≤ gb) (h3 : B ≤ gx) (h4 : B ≤ gp) :
    EB ((w'.setCell ⟨gb, 0, none⟩ ub).setCell ⟨gp, 0, none⟩ up) B gk gb gx gp k x ub up bl pl ∧ Keeps (ebFeet gk gb gp vb vp) W ((w'.setCell ⟨gb, 0, none⟩ ub).setCell ⟨gp, 0, none⟩ up) := by
  have hk : Keeps (fun j => j = gb ∨ j = gp) w' ((w'.setCell ⟨gb, 0, none⟩ ub).setCell ⟨gp, 0, none⟩ up) := ((Keeps.refl _ w').setCell (p := ⟨gb, 0, none⟩) (.inr (.inl rfl)) _).setCell (p := ⟨gp, 0, none⟩) (.inr (.inr rfl)) _
  have nbp : gb ≠ gp := block_ne h.bb h.bp (by decide)
  refine ⟨⟨hk.heap h.bk ?_, ?_, hk.heap h.bx ?_, ?_, hk.ownsRow h.rb ?_, hk.ownsRow h.rp ?_, hkx, h.pk, h.px, h1, h2, h3, h4⟩, (h.kp.setCell (p := ⟨gb, 0, none⟩) (.inr (.inr (.inl rfl))) _).setCell (p := ⟨gp, 0, none⟩) (.inr (.inr (.inr (.inl rfl)))) _⟩
  · rintro (e | e)
    · exact block_ne h.bk h.bb (by decide) e
    · exact block_ne h.bk h.bp (by decide) e
  · exact (Below.heap_setCell _ _ _ _ nbp).trans (block_set h.bb 0 ub)
  · rintro (e | e)
    · exact block_ne h.bx h.bb (by decide) e
    · exact block_ne h.bx h.bp (by decide) e
  · exact block_set ((Below.heap_setCell _ _ _ _ nbp.symm).trans h.bp) 0 up
  · rintro j hj (e | e)
    · exact own_ne h.rb h.bb (by decide) (by rw [hj, e])
    · exact own_ne h.rb h.bp (by decide) (by rw [hj, e])
  · rintro j hj (e | e)
    · exact own_ne h.rp h.bb (by decide) (by rw [hj, e])
    · exact own_ne h.rp h.bp (by decide) (by rw [hj, e])
end
set_option maxHeartbeats 3200000 in
theorem tAskE (w : World) (B gk gb gx gp k x : Nat) (vb vp : Value) (bl : List Bool) (pl : List Int) (Z : Int) (h : EB w B gk gb gx gp (k + 1) x vb vp bl pl) (hB : B ≤ w.heap.size) (hk : k ≤ 16) (hx : x ≤ 1000000) (hbl : bl.length ≤ 1000000) (hpl : pl.length ≤ 1000000) :
    Calls Try.prog 56 #[.int .i64 Z, .pointer (some ⟨gk, 0, none⟩), .pointer (some ⟨gb, 0, none⟩), .pointer (some ⟨gx, 0, none⟩), .pointer (some ⟨gp, 0, none⟩)] w fun e w' => ∃ vb' vp', e = .returned (.bool (bitK x k)) ∧ EB w' B gk gb gx gp k x vb' vp' (bl ++ [bitK x k]) (pl ++ [Z]) ∧ Keeps (ebFeet gk gb gp vb vp) w w' ∧
      (vp'.ownBlock = vp.ownBlock ∨ ∃ j, vp'.ownBlock = some j ∧ w.heap.size ≤ j) := by
  have HH := Lib.hid h
  have c1 := cell_lit h.bk 0 _ rfl
  have c2 := cell_lit h.bb 0 _ rfl
  have c3 := cell_lit h.bx 0 _ rfl
  have c4 := cell_lit h.bp 0 _ rfl
  have f1 := free_in h.bk 0
  have f2 := free_in h.bb 0
  have f4 := free_in h.bp 0
  clear h
  go_enter Try.func56, Try.ntmps56
  go_wp2_with fail
  obtain ⟨W, hW⟩ : ∃ W, w.setCell ⟨gk, 0, none⟩ (.int .i64 (k : Int)) = W := ⟨_, rfl⟩
  have HE : EB W B gk gb gx gp k x vb vp bl pl := by
    have e := HH.out
    have hkk : Keeps (fun j => j = gk) w W := by rw [← hW]; exact (Keeps.refl (fun j => j = gk) w).setCell (p := ⟨gk, 0, none⟩) (.inr rfl) _
    refine ⟨by rw [← hW]; exact block_set e.bk 0 _, hkk.heap e.bb (block_ne e.bb e.bk (by decide)), hkk.heap e.bx e.kx.symm, hkk.heap e.bp (block_ne e.bp e.bk (by decide)), hkk.ownsRow e.rb (fun j hj q => own_ne e.rb e.bk (by decide) (by rw [hj, q])), hkk.ownsRow e.rp (fun j hj q => e.pk (by rw [hj, q])), e.kx, e.pk, e.px, e.Bk, e.Bb, e.Bx, e.Bp⟩
  have hK : Keeps (ebFeet gk gb gp vb vp) w W := by rw [← hW]; exact (Keeps.refl _ w).setCell (p := ⟨gk, 0, none⟩) (.inr (.inl rfl)) _
  have hsz : W.heap.size = w.heap.size := by rw [← hW]; simp
  rw [hW]
  have HK := Lib.hid hK
  have HE' := Lib.hid HE
  have HSZ := Lib.hid hsz
  clear hW c1 c2 c3 c4 f1 f2 f4 hK hsz
  have c1 := cell_lit HE.bk 0 _ rfl
  have c2 := cell_lit HE.bb 0 _ rfl
  have c3 := cell_lit HE.bx 0 _ rfl
  have c4 := cell_lit HE.bp 0 _ rfl
  have f2 := free_in HE.bb 0
  have f4 := free_in HE.bp 0
  clear HE
  go_cut [] from 7 to 27 (fun wx => ∃ vb' vp', EB wx B gk gb gx gp k x vb' vp' (bl ++ [bitK x k]) (pl ++ [Z]) ∧ Keeps (ebFeet gk gb gp vb vp) w wx ∧ (vp'.ownBlock = vp.ownBlock ∨ ∃ j, vp'.ownBlock = some j ∧ w.heap.size ≤ j))
  case first =>
    have nkb : gk ≠ gb := block_ne HE'.out.bk HE'.out.bb (by decide)
    have nkp : gk ≠ gp := block_ne HE'.out.bk HE'.out.bp (by decide)
    have nxb : gx ≠ gb := block_ne HE'.out.bx HE'.out.bb (by decide)
    have nxp : gx ≠ gp := block_ne HE'.out.bx HE'.out.bp (by decide)
    have nbp : gb ≠ gp := block_ne HE'.out.bb HE'.out.bp (by decide)
    have npb : gp ≠ gb := nbp.symm
    have m : M2 w W B gk gb gx gp k x vb vp vb vp bl pl := ⟨HE'.out.bk, HE'.out.bb, HE'.out.bx, HE'.out.bp, HE'.out.rb, HE'.out.rp, HE'.out.pk, HE'.out.px, HK.out, .inl rfl, .inl rfl⟩
    have l1 := block_lt m.bk
    have l2 := block_lt m.bb
    have l3 := block_lt m.bx
    have l4 := block_lt m.bp
    obtain ⟨BV, hBV⟩ : ∃ BV, (bits .and .i64 ((x : Int) / 2 ^ k) 1 == 1) = BV := ⟨_, rfl⟩
    have HDE : Hid ((8 : Nat) ≤ 64 ∧ (1 : Nat) ≤ 64) := Lib.hid ⟨by decide, by decide⟩
    have HBI : Hid ((4 : Nat) ≠ 3) := Lib.hid (by decide)
    have HIB : Hid ((3 : Nat) ≠ 4) := Lib.hid (by decide)
    have HLB := Lib.hid (show bl.length ≤ 1099511627776 by omega)
    have HLI := Lib.hid (show pl.length ≤ 1099511627776 by omega)
    have HBW := Lib.hid hB
    have HBV := Lib.hid (hBV.symm.trans (and1 x k hx))
    refine wp_region_noPanic ?_
    refine wp_region_late 12 (fun w1 => w1.cell? ⟨gk, 0, none⟩ = some (.int .i64 k) ∧ w1.cell? ⟨gx, 0, none⟩ = some (.int .i64 x) ∧ w1.cell? ⟨gb, 0, none⟩ = some vb ∧ w1.cell? ⟨gp, 0, none⟩ = some vp) (by kernel_rfl) (by kernel_rfl) #[false, false, false, false, false, false, false, false, false, false, false, false, true, true] (by kernel_rfl) (M2.cells m.drew) (fun hHeld => ?_)
    have m := m.drew
    refine wpAnyH_take (i := 1) (oi := { dst := some 10, op := Op.load 3 (Operand.tmp 3), type := 3, pos := "bittree.go:58", after := #[], guard := none }) (v := ?_) rfl (by kernel_rfl) (by kernel_rfl) (by kernel_rfl) (fun c a w h => (lateQ_panic h).elim) (Or.inl ⟨by rfl, ?_⟩) hHeld ?_
    rotate_left
    · (intro w hSw; (try dsimp only at hSw); go_simp; first | done | with_reducible rfl)
    simp only [Act.put, List.setIfInBounds_toArray, List.set_cons_zero, List.set_cons_succ]
    refine wpAnyH_take (i := 2) (oi := { dst := some 11, op := Op.load 3 (Operand.tmp 1), type := 3, pos := "bittree.go:58", after := #[], guard := none }) (v := ?_) rfl (by kernel_rfl) (by kernel_rfl) (by kernel_rfl) (fun c a w h => (lateQ_panic h).elim) (Or.inl ⟨by rfl, ?_⟩) hHeld ?_
    rotate_left
    · (intro w hSw; (try dsimp only at hSw); go_simp; first | done | with_reducible rfl)
    simp only [Act.put, List.setIfInBounds_toArray, List.set_cons_zero, List.set_cons_succ]
    refine wpAnyH_take (i := 3) (oi := { dst := some 12, op := Op.binOp BinOp.shr 3 (Operand.tmp 10) (Operand.tmp 11) 3, type := 3, pos := "bittree.go:58", after := #[{ on := 1, ground := Ground.data }, { on := 2, ground := Ground.data }], guard := none }) (v := ?_) rfl (by kernel_rfl) (by kernel_rfl) (by kernel_rfl) (fun c a w h => (lateQ_panic h).elim) (Or.inl ⟨by rfl, ?_⟩) hHeld ?_
    rotate_left
    · (intro w hSw; (try dsimp only at hSw); go_simp; first | done | with_reducible rfl)
    simp only [Act.put, List.setIfInBounds_toArray, List.set_cons_zero, List.set_cons_succ]
    refine wpAnyH_take (i := 4) (oi := { dst := some 13, op := Op.binOp BinOp.and 3 (Operand.tmp 12) (Operand.const (Value.int IntKind.i64 1)) 3, type := 3, pos := "bittree.go:58", after := #[{ on := 3, ground := Ground.data }], guard := none }) (v := ?_) rfl (by kernel_rfl) (by kernel_rfl) (by kernel_rfl) (fun c a w h => (lateQ_panic h).elim) (Or.inl ⟨by rfl, ?_⟩) hHeld ?_
    rotate_left
    · (intro w hSw; (try dsimp only at hSw); go_simp; first | done | with_reducible rfl)
    simp only [Act.put, List.setIfInBounds_toArray, List.set_cons_zero, List.set_cons_succ]
    refine wpAnyH_take (i := 5) (oi := { dst := some 14, op := Op.binOp BinOp.eql 3 (Operand.tmp 13) (Operand.const (Value.int IntKind.i64 1)) 3, type := 4, pos := "bittree.go:58", after := #[{ on := 4, ground := Ground.data }], guard := none }) (v := ?_) rfl (by kernel_rfl) (by kernel_rfl) (by kernel_rfl) (fun c a w h => (lateQ_panic h).elim) (Or.inl ⟨by rfl, ?_⟩) hHeld ?_
    rotate_left
    · (intro w hSw; (try dsimp only at hSw); go_simp; first | done | with_reducible rfl)
    simp only [Act.put, List.setIfInBounds_toArray, List.set_cons_zero, List.set_cons_succ]
    refine wpAnyH_take (i := 9) (oi := { dst := some 18, op := Op.move (Operand.tmp 0), type := 3, pos := "bittree.go:58", after := #[], guard := none }) (v := ?_) rfl (by kernel_rfl) (by kernel_rfl) (by kernel_rfl) (fun c a w h => (lateQ_panic h).elim) (Or.inl ⟨by rfl, ?_⟩) hHeld ?_
    rotate_left
    · (intro w hSw; (try dsimp only at hSw); go_simp; first | done | with_reducible rfl)
    simp only [Act.put, List.setIfInBounds_toArray, List.set_cons_zero, List.set_cons_succ]
    refine wpAnyH_take (i := 0) (oi := { dst := some 9, op := Op.load 22 (Operand.tmp 2), type := 22, pos := "bittree.go:58", after := #[], guard := none }) (v := ?_) rfl (by kernel_rfl) (by kernel_rfl) (by kernel_rfl) (fun c a w h => (lateQ_panic h).elim) (Or.inl ⟨by rfl, ?_⟩) hHeld ?_
    rotate_left
    · (intro w hSw; (try dsimp only at hSw); go_simp; first | done | with_reducible rfl)
    simp only [Act.put, List.setIfInBounds_toArray, List.set_cons_zero, List.set_cons_succ]
    refine wpAnyH_take (i := 8) (oi := { dst := some 17, op := Op.load 23 (Operand.tmp 4), type := 23, pos := "bittree.go:58", after := #[], guard := none }) (v := ?_) rfl (by kernel_rfl) (by kernel_rfl) (by kernel_rfl) (fun c a w h => (lateQ_panic h).elim) (Or.inl ⟨by rfl, ?_⟩) hHeld ?_
    rotate_left
    · (intro w hSw; (try dsimp only at hSw); go_simp; first | done | with_reducible rfl)
    simp only [Act.put, List.setIfInBounds_toArray, List.set_cons_zero, List.set_cons_succ]
    refine wpAnyH_ready (rs := [6, 10]) (by kernel_rfl) (by simp) ?_
    refine AllReadyH.cons (o := { dst := some 15, op := Op.buildSlice 22 1 #[(0, Operand.tmp 14)], type := 22, pos := "bittree.go:58", after := #[{ on := 5, ground := Ground.data }], guard := none }) rfl (fun K hK => ?_) ?_
    · go_simp
      refine hK.out _ _ (M2.cells (m.alloc _)) (fun hHeld => ?_)
      have m := m.alloc (.cells #[.bool BV] 4)
      clear hK K
      simp only [Act.put, List.setIfInBounds_toArray, List.set_cons_zero, List.set_cons_succ]
      refine wpAnyH_ready (rs := [7, 10]) (by kernel_rfl) (by simp) ?_
      refine AllReadyH.cons (o := { dst := some 16, op := Op.call { callee := Callee.builtin Builtin.append, args := #[Operand.tmp 9, Operand.tmp 15], argTypes := #[22, 22] }, type := 22, pos := "bittree.go:58", after := #[{ on := 0, ground := Ground.data }, { on := 6, ground := Ground.data }], guard := none }) rfl (fun K hK => ?_) ?_
      · refine step_grow (P := Try.prog) (f := fB) info_bool rfl HDE.out.2 Try.underlying22 flatB rfl (Operand.tmp 9) (Operand.tmp 15) ?_ B vb bl BV (.bool BV) rfl ?_ ?_ (W.heap.size) 1 ?_ 4 ?_ HLB.out ?_ ?_
        · rfl
        · rfl
        · exact m.rb
        · rfl
        · exact (heap_alloc_new _ _)
        · exact Nat.le_trans HBW.out m.kp.size
        intro u1 w1 ho1 hg1 hv1
        refine hK.out _ _ (M2.cells (m.growB hg1 ho1 hv1)) (fun hHeld => ?_)
        have m := m.growB hg1 ho1 hv1
        clear hK K
        simp only [Act.put, List.setIfInBounds_toArray, List.set_cons_zero, List.set_cons_succ]
        refine wpAnyH_ready (rs := [10]) (by kernel_rfl) (by simp) ?_
        refine AllReadyH.cons (o := { dst := some 19, op := Op.buildSlice 23 1 #[(0, Operand.tmp 18)], type := 23, pos := "bittree.go:58", after := #[{ on := 9, ground := Ground.data }], guard := none }) rfl (fun K hK => ?_) ?_
        · go_simp
          refine hK.out _ _ (M2.cells (m.alloc _)) (fun hHeld => ?_)
          have m := m.alloc (.cells #[.int .i64 Z] 3)
          clear hK K
          simp only [Act.put, List.setIfInBounds_toArray, List.set_cons_zero, List.set_cons_succ]
          refine wpAnyH_ready (rs := [11]) (by kernel_rfl) (by simp) ?_
          refine AllReadyH.cons (o := { dst := some 20, op := Op.call { callee := Callee.builtin Builtin.append, args := #[Operand.tmp 17, Operand.tmp 19], argTypes := #[23, 23] }, type := 23, pos := "bittree.go:58", after := #[{ on := 8, ground := Ground.data }, { on := 10, ground := Ground.data }, { on := 7, ground := Ground.chain }], guard := none }) rfl (fun K hK => ?_) ?_
          · refine step_grow (P := Try.prog) (f := fI) info_int rfl HDE.out.1 Try.underlying23 flatI rfl (Operand.tmp 17) (Operand.tmp 19) ?_ B vp pl Z (.int .i64 Z) rfl ?_ ?_ (w1.heap.size) 1 ?_ 3 ?_ HLI.out ?_ ?_
            · rfl
            · rfl
            · exact m.rp
            · rfl
            · exact (heap_alloc_new _ _)
            · exact Nat.le_trans HBW.out m.kp.size
            intro u2 w2 ho2 hg2 hv2
            refine hK.out _ _ (M2.cells (m.growI hg2 ho2 hv2)) (fun hHeld => ?_)
            have m := m.growI hg2 ho2 hv2
            clear hK K
            simp only [Act.put, List.setIfInBounds_toArray, List.set_cons_zero, List.set_cons_succ]
            refine wpAnyH_done (by kernel_rfl) ?_ _
            refine lateQ_normal 2 (by kernel_rfl) #[true, true, true, true, true, true, true, true, true, true, true, true, false, false] (by kernel_rfl) (fun k => ?_)
            obtain ⟨a1, d1, rfl⟩ := own_slice m.rb
            obtain ⟨a2, d2, rfl⟩ := own_slice m.rp
            have c2 := cell_lit m.bb 0 _ rfl
            have c4 := cell_lit m.bp 0 _ rfl
            have f2 := free_in m.bb 0
            have f4 := free_in m.bp 0
            refine wpAnyH_ready (rs := [12]) (by kernel_rfl) (by simp) ?_
            refine AllReadyH.cons (o := { dst := none, op := Op.store 22 (Operand.tmp 2) (Operand.tmp 16), type := 0, pos := "bittree.go:58", after := #[{ on := 7, ground := Ground.data }, { on := 11, ground := Ground.chain }, { on := 0, ground := Ground.phase }, { on := 1, ground := Ground.phase }, { on := 2, ground := Ground.phase }, { on := 3, ground := Ground.phase }, { on := 4, ground := Ground.phase }, { on := 5, ground := Ground.phase }, { on := 6, ground := Ground.phase }, { on := 7, ground := Ground.phase }, { on := 8, ground := Ground.phase }, { on := 9, ground := Ground.textOnly Departure.lateStores }, { on := 10, ground := Ground.textOnly Departure.lateStoresUnsure }, { on := 11, ground := Ground.phase }], guard := none }) rfl (fun K hK => ?_) AllReadyH.nil
            go_simp
            refine hK.out _ _ trivial (fun _ => ?_)
            clear hK K
            simp only [Act.put, List.setIfInBounds_toArray, List.set_cons_zero, List.set_cons_succ]
            refine wpAnyH_ready (rs := [13]) (by kernel_rfl) (by simp) ?_
            refine AllReadyH.cons (o := { dst := none, op := Op.store 23 (Operand.tmp 4) (Operand.tmp 20), type := 0, pos := "bittree.go:58", after := #[{ on := 11, ground := Ground.data }, { on := 12, ground := Ground.chain }, { on := 0, ground := Ground.phase }, { on := 1, ground := Ground.phase }, { on := 2, ground := Ground.phase }, { on := 3, ground := Ground.phase }, { on := 4, ground := Ground.phase }, { on := 5, ground := Ground.phase }, { on := 6, ground := Ground.phase }, { on := 7, ground := Ground.phase }, { on := 8, ground := Ground.phase }, { on := 9, ground := Ground.phase }, { on := 10, ground := Ground.phase }, { on := 11, ground := Ground.phase }, { on := 12, ground := Ground.phase }], guard := none }) rfl (fun K hK => ?_) AllReadyH.nil
            go_simp
            refine hK.out _ _ trivial (fun _ => ?_)
            clear hK K
            simp only [Act.put, List.setIfInBounds_toArray, List.set_cons_zero, List.set_cons_succ]
            refine wpAnyH_done (by kernel_rfl) ?_ _
            refine NoPanic.normal ?_
            have e1 : (bl ++ [BV]).length = bl.length + 1 := by simp
            have e2 : (pl ++ [Z]).length = pl.length + 1 := by simp
            have d := M2.done m HE'.out.kx HE'.out.Bk HE'.out.Bb HE'.out.Bx HE'.out.Bp
            have np := m.np
            rw [e1, e2] at d
            rw [e2] at np
            have HD := Lib.hid d
            have HNP := Lib.hid np
            clear d np e1 e2
            go_wp2_with fail
            go_meet
            case rel => exact ⟨_, _, by rw [← HBV.out]; exact HD.out.1, HD.out.2, HNP.out⟩
          exact AllReadyH.nil
        exact AllReadyH.nil
      refine AllReadyH.cons (o := { dst := some 19, op := Op.buildSlice 23 1 #[(0, Operand.tmp 18)], type := 23, pos := "bittree.go:58", after := #[{ on := 9, ground := Ground.data }], guard := none }) rfl (fun K hK => ?_) ?_
      · go_simp
        refine hK.out _ _ (M2.cells (m.alloc _)) (fun hHeld => ?_)
        have m := m.alloc (.cells #[.int .i64 Z] 3)
        clear hK K
        simp only [Act.put, List.setIfInBounds_toArray, List.set_cons_zero, List.set_cons_succ]
        refine wpAnyH_ready (rs := [7]) (by kernel_rfl) (by simp) ?_
        refine AllReadyH.cons (o := { dst := some 16, op := Op.call { callee := Callee.builtin Builtin.append, args := #[Operand.tmp 9, Operand.tmp 15], argTypes := #[22, 22] }, type := 22, pos := "bittree.go:58", after := #[{ on := 0, ground := Ground.data }, { on := 6, ground := Ground.data }], guard := none }) rfl (fun K hK => ?_) ?_
        · refine step_grow (P := Try.prog) (f := fB) info_bool rfl HDE.out.2 Try.underlying22 flatB rfl (Operand.tmp 9) (Operand.tmp 15) ?_ B vb bl BV (.bool BV) rfl ?_ ?_ (W.heap.size) 1 ?_ 4 ?_ HLB.out ?_ ?_
          · rfl
          · rfl
          · exact m.rb
          · rfl
          · exact (heap_old (heap_alloc_new _ _) _)
          · exact Nat.le_trans HBW.out m.kp.size
          intro u3 w3 ho3 hg3 hv3
          refine hK.out _ _ (M2.cells (m.growB hg3 ho3 hv3)) (fun hHeld => ?_)
          have hc := grown_heap hg3 (heap_two W.drew (.cells #[.bool BV] 4) (.cells #[.int .i64 Z] 3)) (own_ne m.rb (heap_two W.drew (.cells #[.bool BV] 4) (.cells #[.int .i64 Z] 3)) HBI.out)
          have m := m.growB hg3 ho3 hv3
          clear hK K
          simp only [Act.put, List.setIfInBounds_toArray, List.set_cons_zero, List.set_cons_succ]
          refine wpAnyH_ready (rs := [11]) (by kernel_rfl) (by simp) ?_
          refine AllReadyH.cons (o := { dst := some 20, op := Op.call { callee := Callee.builtin Builtin.append, args := #[Operand.tmp 17, Operand.tmp 19], argTypes := #[23, 23] }, type := 23, pos := "bittree.go:58", after := #[{ on := 8, ground := Ground.data }, { on := 10, ground := Ground.data }, { on := 7, ground := Ground.chain }], guard := none }) rfl (fun K hK => ?_) ?_
          · refine step_grow (P := Try.prog) (f := fI) info_int rfl HDE.out.1 Try.underlying23 flatI rfl (Operand.tmp 17) (Operand.tmp 19) ?_ B vp pl Z (.int .i64 Z) rfl ?_ ?_ (W.heap.size + 1) 1 ?_ 3 ?_ HLI.out ?_ ?_
            · rfl
            · rfl
            · exact m.rp
            · rfl
            · exact hc
            · exact Nat.le_trans HBW.out m.kp.size
            intro u4 w4 ho4 hg4 hv4
            refine hK.out _ _ (M2.cells (m.growI hg4 ho4 hv4)) (fun hHeld => ?_)
            have m := m.growI hg4 ho4 hv4
            clear hK K
            simp only [Act.put, List.setIfInBounds_toArray, List.set_cons_zero, List.set_cons_succ]
            refine wpAnyH_done (by kernel_rfl) ?_ _
            refine lateQ_normal 2 (by kernel_rfl) #[true, true, true, true, true, true, true, true, true, true, true, true, false, false] (by kernel_rfl) (fun k => ?_)
            obtain ⟨a1, d1, rfl⟩ := own_slice m.rb
            obtain ⟨a2, d2, rfl⟩ := own_slice m.rp
            have c2 := cell_lit m.bb 0 _ rfl
            have c4 := cell_lit m.bp 0 _ rfl
            have f2 := free_in m.bb 0
            have f4 := free_in m.bp 0
            refine wpAnyH_ready (rs := [12]) (by kernel_rfl) (by simp) ?_
            refine AllReadyH.cons (o := { dst := none, op := Op.store 22 (Operand.tmp 2) (Operand.tmp 16), type := 0, pos := "bittree.go:58", after := #[{ on := 7, ground := Ground.data }, { on := 11, ground := Ground.chain }, { on := 0, ground := Ground.phase }, { on := 1, ground := Ground.phase }, { on := 2, ground := Ground.phase }, { on := 3, ground := Ground.phase }, { on := 4, ground := Ground.phase }, { on := 5, ground := Ground.phase }, { on := 6, ground := Ground.phase }, { on := 7, ground := Ground.phase }, { on := 8, ground := Ground.phase }, { on := 9, ground := Ground.textOnly Departure.lateStores }, { on := 10, ground := Ground.textOnly Departure.lateStoresUnsure }, { on := 11, ground := Ground.phase }], guard := none }) rfl (fun K hK => ?_) AllReadyH.nil
            go_simp
            refine hK.out _ _ trivial (fun _ => ?_)
            clear hK K
            simp only [Act.put, List.setIfInBounds_toArray, List.set_cons_zero, List.set_cons_succ]
            refine wpAnyH_ready (rs := [13]) (by kernel_rfl) (by simp) ?_
            refine AllReadyH.cons (o := { dst := none, op := Op.store 23 (Operand.tmp 4) (Operand.tmp 20), type := 0, pos := "bittree.go:58", after := #[{ on := 11, ground := Ground.data }, { on := 12, ground := Ground.chain }, { on := 0, ground := Ground.phase }, { on := 1, ground := Ground.phase }, { on := 2, ground := Ground.phase }, { on := 3, ground := Ground.phase }, { on := 4, ground := Ground.phase }, { on := 5, ground := Ground.phase }, { on := 6, ground := Ground.phase }, { on := 7, ground := Ground.phase }, { on := 8, ground := Ground.phase }, { on := 9, ground := Ground.phase }, { on := 10, ground := Ground.phase }, { on := 11, ground := Ground.phase }, { on := 12, ground := Ground.phase }], guard := none }) rfl (fun K hK => ?_) AllReadyH.nil
            go_simp
            refine hK.out _ _ trivial (fun _ => ?_)
            clear hK K
            simp only [Act.put, List.setIfInBounds_toArray, List.set_cons_zero, List.set_cons_succ]
            refine wpAnyH_done (by kernel_rfl) ?_ _
            refine NoPanic.normal ?_
            have e1 : (bl ++ [BV]).length = bl.length + 1 := by simp
            have e2 : (pl ++ [Z]).length = pl.length + 1 := by simp
            have d := M2.done m HE'.out.kx HE'.out.Bk HE'.out.Bb HE'.out.Bx HE'.out.Bp
            have np := m.np
            rw [e1, e2] at d
            rw [e2] at np
            have HD := Lib.hid d
            have HNP := Lib.hid np
            clear d np e1 e2
            go_wp2_with fail
            go_meet
            case rel => exact ⟨_, _, by rw [← HBV.out]; exact HD.out.1, HD.out.2, HNP.out⟩
          exact AllReadyH.nil
        exact AllReadyH.nil
      exact AllReadyH.nil
    refine AllReadyH.cons (o := { dst := some 19, op := Op.buildSlice 23 1 #[(0, Operand.tmp 18)], type := 23, pos := "bittree.go:58", after := #[{ on := 9, ground := Ground.data }], guard := none }) rfl (fun K hK => ?_) ?_
    · go_simp
      refine hK.out _ _ (M2.cells (m.alloc _)) (fun hHeld => ?_)
      have m := m.alloc (.cells #[.int .i64 Z] 3)
      clear hK K
      simp only [Act.put, List.setIfInBounds_toArray, List.set_cons_zero, List.set_cons_succ]
      refine wpAnyH_ready (rs := [6]) (by kernel_rfl) (by simp) ?_
      refine AllReadyH.cons (o := { dst := some 15, op := Op.buildSlice 22 1 #[(0, Operand.tmp 14)], type := 22, pos := "bittree.go:58", after := #[{ on := 5, ground := Ground.data }], guard := none }) rfl (fun K hK => ?_) ?_
      · go_simp
        refine hK.out _ _ (M2.cells (m.alloc _)) (fun hHeld => ?_)
        have m := m.alloc (.cells #[.bool BV] 4)
        clear hK K
        simp only [Act.put, List.setIfInBounds_toArray, List.set_cons_zero, List.set_cons_succ]
        refine wpAnyH_ready (rs := [7]) (by kernel_rfl) (by simp) ?_
        refine AllReadyH.cons (o := { dst := some 16, op := Op.call { callee := Callee.builtin Builtin.append, args := #[Operand.tmp 9, Operand.tmp 15], argTypes := #[22, 22] }, type := 22, pos := "bittree.go:58", after := #[{ on := 0, ground := Ground.data }, { on := 6, ground := Ground.data }], guard := none }) rfl (fun K hK => ?_) ?_
        · refine step_grow (P := Try.prog) (f := fB) info_bool rfl HDE.out.2 Try.underlying22 flatB rfl (Operand.tmp 9) (Operand.tmp 15) ?_ B vb bl BV (.bool BV) rfl ?_ ?_ (W.heap.size + 1) 1 ?_ 4 ?_ HLB.out ?_ ?_
          · rfl
          · rfl
          · exact m.rb
          · rfl
          · exact heap_two W.drew (.cells #[.int .i64 Z] 3) (.cells #[.bool BV] 4)
          · exact Nat.le_trans HBW.out m.kp.size
          intro u5 w5 ho5 hg5 hv5
          refine hK.out _ _ (M2.cells (m.growB hg5 ho5 hv5)) (fun hHeld => ?_)
          have hc := grown_heap hg5 (heap_old (heap_alloc_new W.drew (.cells #[.int .i64 Z] 3)) (.cells #[.bool BV] 4)) (own_ne m.rb (heap_old (heap_alloc_new W.drew (.cells #[.int .i64 Z] 3)) (.cells #[.bool BV] 4)) HBI.out)
          have m := m.growB hg5 ho5 hv5
          clear hK K
          simp only [Act.put, List.setIfInBounds_toArray, List.set_cons_zero, List.set_cons_succ]
          refine wpAnyH_ready (rs := [11]) (by kernel_rfl) (by simp) ?_
          refine AllReadyH.cons (o := { dst := some 20, op := Op.call { callee := Callee.builtin Builtin.append, args := #[Operand.tmp 17, Operand.tmp 19], argTypes := #[23, 23] }, type := 23, pos := "bittree.go:58", after := #[{ on := 8, ground := Ground.data }, { on := 10, ground := Ground.data }, { on := 7, ground := Ground.chain }], guard := none }) rfl (fun K hK => ?_) ?_
          · refine step_grow (P := Try.prog) (f := fI) info_int rfl HDE.out.1 Try.underlying23 flatI rfl (Operand.tmp 17) (Operand.tmp 19) ?_ B vp pl Z (.int .i64 Z) rfl ?_ ?_ (W.heap.size) 1 ?_ 3 ?_ HLI.out ?_ ?_
            · rfl
            · rfl
            · exact m.rp
            · rfl
            · exact hc
            · exact Nat.le_trans HBW.out m.kp.size
            intro u6 w6 ho6 hg6 hv6
            refine hK.out _ _ (M2.cells (m.growI hg6 ho6 hv6)) (fun hHeld => ?_)
            have m := m.growI hg6 ho6 hv6
            clear hK K
            simp only [Act.put, List.setIfInBounds_toArray, List.set_cons_zero, List.set_cons_succ]
            refine wpAnyH_done (by kernel_rfl) ?_ _
            refine lateQ_normal 2 (by kernel_rfl) #[true, true, true, true, true, true, true, true, true, true, true, true, false, false] (by kernel_rfl) (fun k => ?_)
            obtain ⟨a1, d1, rfl⟩ := own_slice m.rb
            obtain ⟨a2, d2, rfl⟩ := own_slice m.rp
            have c2 := cell_lit m.bb 0 _ rfl
            have c4 := cell_lit m.bp 0 _ rfl
            have f2 := free_in m.bb 0
            have f4 := free_in m.bp 0
            refine wpAnyH_ready (rs := [12]) (by kernel_rfl) (by simp) ?_
            refine AllReadyH.cons (o := { dst := none, op := Op.store 22 (Operand.tmp 2) (Operand.tmp 16), type := 0, pos := "bittree.go:58", after := #[{ on := 7, ground := Ground.data }, { on := 11, ground := Ground.chain }, { on := 0, ground := Ground.phase }, { on := 1, ground := Ground.phase }, { on := 2, ground := Ground.phase }, { on := 3, ground := Ground.phase }, { on := 4, ground := Ground.phase }, { on := 5, ground := Ground.phase }, { on := 6, ground := Ground.phase }, { on := 7, ground := Ground.phase }, { on := 8, ground := Ground.phase }, { on := 9, ground := Ground.textOnly Departure.lateStores }, { on := 10, ground := Ground.textOnly Departure.lateStoresUnsure }, { on := 11, ground := Ground.phase }], guard := none }) rfl (fun K hK => ?_) AllReadyH.nil
            go_simp
            refine hK.out _ _ trivial (fun _ => ?_)
            clear hK K
            simp only [Act.put, List.setIfInBounds_toArray, List.set_cons_zero, List.set_cons_succ]
            refine wpAnyH_ready (rs := [13]) (by kernel_rfl) (by simp) ?_
            refine AllReadyH.cons (o := { dst := none, op := Op.store 23 (Operand.tmp 4) (Operand.tmp 20), type := 0, pos := "bittree.go:58", after := #[{ on := 11, ground := Ground.data }, { on := 12, ground := Ground.chain }, { on := 0, ground := Ground.phase }, { on := 1, ground := Ground.phase }, { on := 2, ground := Ground.phase }, { on := 3, ground := Ground.phase }, { on := 4, ground := Ground.phase }, { on := 5, ground := Ground.phase }, { on := 6, ground := Ground.phase }, { on := 7, ground := Ground.phase }, { on := 8, ground := Ground.phase }, { on := 9, ground := Ground.phase }, { on := 10, ground := Ground.phase }, { on := 11, ground := Ground.phase }, { on := 12, ground := Ground.phase }], guard := none }) rfl (fun K hK => ?_) AllReadyH.nil
            go_simp
            refine hK.out _ _ trivial (fun _ => ?_)
            clear hK K
            simp only [Act.put, List.setIfInBounds_toArray, List.set_cons_zero, List.set_cons_succ]
            refine wpAnyH_done (by kernel_rfl) ?_ _
            refine NoPanic.normal ?_
            have e1 : (bl ++ [BV]).length = bl.length + 1 := by simp
            have e2 : (pl ++ [Z]).length = pl.length + 1 := by simp
            have d := M2.done m HE'.out.kx HE'.out.Bk HE'.out.Bb HE'.out.Bx HE'.out.Bp
            have np := m.np
            rw [e1, e2] at d
            rw [e2] at np
            have HD := Lib.hid d
            have HNP := Lib.hid np
            clear d np e1 e2
            go_wp2_with fail
            go_meet
            case rel => exact ⟨_, _, by rw [← HBV.out]; exact HD.out.1, HD.out.2, HNP.out⟩
          exact AllReadyH.nil
        exact AllReadyH.nil
      exact AllReadyH.nil
    exact AllReadyH.nil

  case rest =>
    obtain ⟨vb', vp', he, hk', hp'⟩ := hcut
    have hrb := he.rb
    obtain ⟨g, cap, rfl, hgB, hgl⟩ := OwnS.form hrb (by simp) (by decide)
    have hcl := OwnS.cell flatB hrb bl.length 0 (bitK x k) (by simp) (by decide)
    have hcb := cell_lit he.bb 0 _ rfl
    have hlen : (bl ++ [bitK x k]).length = bl.length + 1 := by simp
    simp only [Nat.mul_one, Nat.add_zero] at hcl
    have hcl2 : wc.cell? ⟨g, bl.length, none⟩ = some (.bool (bitK x k)) := hcl
    have HE := Lib.hid he
    rw [hlen] at hcb HE
    have HKK := Lib.hid hk'
    have HPP := Lib.hid hp'
    obtain ⟨L, hL⟩ : ∃ L, bl.length = L := ⟨_, rfl⟩
    rw [hL] at hcb hcl2 hbl
    obtain ⟨BK, hBK⟩ : ∃ BK, bitK x k = BK := ⟨_, rfl⟩
    rw [hBK] at hcl2 HE
    rw [hL] at HE
    clear hcl hrb he hk' hp' HH HK HE' HSZ c1 c2 c3 c4 f2 f4
    go_wp2_with fail
    subst hBK
    subst hL
    go_ret
    exact ⟨_, _, rfl, HE.out, HKK.out, HPP.out⟩
end Go.Proofs.Ytkdkedgpchcfpaa
