/- Layer 61: what an encoder's model asks: two rows that grow in one statement. -/
import Derived.Test.YtkdkedgpchcfpaaV5
namespace Go.Proofs.Ytkdkedgpchcfpaa
open Go.ChangeShapes Go.WideShapes Go.ChangeAt Go.RowKit
set_option linter.unusedVariables false
set_option linter.unusedSimpArgs false
set_option maxRecDepth 100000
open Range
structure EM (w : World) (B gx gb gp x : Nat) (vb vp : Value) (bl : List Bool) (pl : List Int) : Prop where
  bx : w.heap[gx]? = some (.cells #[.int .u8 x] 5 (0, 0))
  bb : w.heap[gb]? = some (.cells #[vb] 22 (0, 0))
  bp : w.heap[gp]? = some (.cells #[vp] 23 (0, 0))
  rb : OwnB B w vb bl
  rp : OwnI B w vp pl
  Bx : B ≤ gx
  Bb : B ≤ gb
  Bp : B ≤ gp
def emFeet (gx gb gp : Nat) (vb vp : Value) : Nat → Prop := fun j => j = gx ∨ j = gb ∨ j = gp ∨ vb.ownBlock = some j ∨ vp.ownBlock = some j
structure MM (W w' : World) (B gx gb gp x : Nat) (vb vp ub up : Value) (bl : List Bool) (pl : List Int) : Prop where
  bx : w'.heap[gx]? = some (.cells #[.int .u8 x] 5 (0, 0))
  bb : w'.heap[gb]? = some (.cells #[vb] 22 (0, 0))
  bp : w'.heap[gp]? = some (.cells #[vp] 23 (0, 0))
  rb : OwnB B w' ub bl
  rp : OwnI B w' up pl
  kp : Keeps (emFeet gx gb gp vb vp) W w'
  nb : ub.ownBlock = vb.ownBlock ∨ ∃ j, ub.ownBlock = some j ∧ W.heap.size ≤ j
  np : up.ownBlock = vp.ownBlock ∨ ∃ j, up.ownBlock = some j ∧ W.heap.size ≤ j
section
variable {W w' w2 : World} {B gx gb gp x : Nat} {vb vp ub up u2 : Value} {bl bl2 : List Bool} {pl pl2 : List Int}
theorem MM.alloc (h : MM W w' B gx gb gp x vb vp ub up bl pl) (o : Obj) : MM W (w'.alloc o) B gx gb gp x vb vp ub up bl pl :=
  ⟨heap_old h.bx _, heap_old h.bb _, heap_old h.bp _, h.rb.alloc _, h.rp.alloc _, h.kp.alloc _, h.nb, h.np⟩
theorem MM.drew (h : MM W w' B gx gb gp x vb vp ub up bl pl) : MM W w'.drew B gx gb gp x vb vp ub up bl pl := ⟨h.bx, h.bb, h.bp, h.rb, h.rp, h.kp.drew, h.nb, h.np⟩
theorem MM.growB (h : MM W w' B gx gb gp x vb vp ub up bl pl) (hg : w'.grownBy w2 ub.ownBlock) (ho : OwnB B w2 u2 bl2) (hv : u2.ownBlock = ub.ownBlock ∨ u2.ownBlock = some w'.heap.size) : MM W w2 B gx gb gp x vb vp u2 up bl2 pl := by
  refine ⟨grown_heap hg h.bx (own_ne h.rb h.bx (by decide)), grown_heap hg h.bb (own_ne h.rb h.bb (by decide)), grown_heap hg h.bp (own_ne h.rb h.bp (by decide)), ho, OwnS.grown h.rp hg (own_apart h.rp h.rb (by decide)), h.kp.grown hg (fun j hj => ?_), ?_, h.np⟩
  · rcases h.nb with e | ⟨q, e, hq⟩
    · exact .inr (.inr (.inr (.inr (.inl (by rw [← e]; exact hj)))))
    · rw [e] at hj; injection hj with hj; exact .inl (by omega)
  · rcases hv with e | e
    · rw [e]; exact h.nb
    · exact .inr ⟨_, e, h.kp.size⟩
theorem MM.growI (h : MM W w' B gx gb gp x vb vp ub up bl pl) (hg : w'.grownBy w2 up.ownBlock) (ho : OwnI B w2 u2 pl2) (hv : u2.ownBlock = up.ownBlock ∨ u2.ownBlock = some w'.heap.size) : MM W w2 B gx gb gp x vb vp ub u2 bl pl2 := by
  refine ⟨grown_heap hg h.bx (own_ne h.rp h.bx (by decide)), grown_heap hg h.bb (own_ne h.rp h.bb (by decide)), grown_heap hg h.bp (own_ne h.rp h.bp (by decide)), OwnS.grown h.rb hg (own_apart h.rb h.rp (by decide)), ho, h.kp.grown hg (fun j hj => ?_), h.nb, ?_⟩
  · rcases h.np with e | ⟨q, e, hq⟩
    · exact .inr (.inr (.inr (.inr (.inr (by rw [← e]; exact hj)))))
    · rw [e] at hj; injection hj with hj; exact .inl (by omega)
  · rcases hv with e | e
    · rw [e]; exact h.np
    · exact .inr ⟨_, e, h.kp.size⟩
theorem MM.cells (h : MM W w' B gx gb gp x vb vp ub up bl pl) : w'.cell? ⟨gb, 0, none⟩ = some vb ∧ w'.cell? ⟨gp, 0, none⟩ = some vp := ⟨cell_lit h.bb 0 _ rfl, cell_lit h.bp 0 _ rfl⟩
theorem MM.done (h : MM W w' B gx gb gp x vb vp ub up bl pl) (h2 : B ≤ gb) (h3 : B ≤ gx) (h4 : B ≤ gp) :
    EM ((w'.setCell ⟨gb, 0, none⟩ ub).setCell ⟨gp, 0, none⟩ up) B gx gb gp x ub up bl pl ∧ Keeps (emFeet gx gb gp vb vp) W ((w'.setCell ⟨gb, 0, none⟩ ub).setCell ⟨gp, 0, none⟩ up) := by
  have hk : Keeps (fun j => j = gb ∨ j = gp) w' ((w'.setCell ⟨gb, 0, none⟩ ub).setCell ⟨gp, 0, none⟩ up) := ((Keeps.refl _ w').setCell (p := ⟨gb, 0, none⟩) (.inr (.inl rfl)) _).setCell (p := ⟨gp, 0, none⟩) (.inr (.inr rfl)) _
  have nbp : gb ≠ gp := block_ne h.bb h.bp (by decide)
  refine ⟨⟨hk.heap h.bx ?_, ?_, ?_, hk.ownsRow h.rb ?_, hk.ownsRow h.rp ?_, h3, h2, h4⟩, (h.kp.setCell (p := ⟨gb, 0, none⟩) (.inr (.inr (.inl rfl))) _).setCell (p := ⟨gp, 0, none⟩) (.inr (.inr (.inr (.inl rfl)))) _⟩
  · rintro (e | e)
    · exact block_ne h.bx h.bb (by decide) e
    · exact block_ne h.bx h.bp (by decide) e
  · exact (Below.heap_setCell _ _ _ _ nbp).trans (block_set h.bb 0 ub)
  · exact block_set ((Below.heap_setCell _ _ _ _ nbp.symm).trans h.bp) 0 up
  · rintro j hj (e | e)
    · exact own_ne h.rb h.bb (by decide) (by rw [hj, e])
    · exact own_ne h.rb h.bp (by decide) (by rw [hj, e])
  · rintro j hj (e | e)
    · exact own_ne h.rp h.bb (by decide) (by rw [hj, e])
    · exact own_ne h.rp h.bp (by decide) (by rw [hj, e])
end
set_option maxHeartbeats 3200000 in
theorem mAskE (w : World) (B gx gb gp x : Nat) (vb vp : Value) (bl : List Bool) (pl : List Int) (Z : Int) (h : EM w B gx gb gp x vb vp bl pl) (hB : B ≤ w.heap.size) (hx : x < 256) (hbl : bl.length ≤ 1000000) (hpl : pl.length ≤ 1000000) (BV : Bool) (hBV : decide ((128 : Int) ≤ (x : Int)) = BV) :
    Calls Try.prog 81 #[.int .i64 Z, .pointer (some ⟨gx, 0, none⟩), .pointer (some ⟨gb, 0, none⟩), .pointer (some ⟨gp, 0, none⟩)] w fun e w' => ∃ vb' vp', e = .returned (.bool BV) ∧ EM w' B gx gb gp (x * 2 % 256) vb' vp' (bl ++ [BV]) (pl ++ [Z]) ∧ Keeps (emFeet gx gb gp vb vp) w w' ∧
      (vp'.ownBlock = vp.ownBlock ∨ ∃ j, vp'.ownBlock = some j ∧ w.heap.size ≤ j) := by
  have HH := Lib.hid h
  have c1 : w.cell? ⟨gx, 0, none⟩ = some (.int .u8 x) := cell_lit h.bx 0 _ rfl
  have f1 := free_in h.bx 0
  clear h
  go_enter Try.func81, Try.ntmps81
  go_wp2_with fail
  obtain ⟨W, hW⟩ : ∃ W, w.setCell ⟨gx, 0, none⟩ (.int .u8 ((x : Int) * 2 % 256)) = W := ⟨_, rfl⟩
  have HE : EM W B gx gb gp (x * 2 % 256) vb vp bl pl := by
    have e := HH.out
    have hkk : Keeps (fun j => j = gx) w W := by rw [← hW]; exact (Keeps.refl (fun j => j = gx) w).setCell (p := ⟨gx, 0, none⟩) (.inr rfl) _
    refine ⟨by rw [← hW]; exact block_set e.bx 0 _, hkk.heap e.bb (block_ne e.bb e.bx (by decide)), hkk.heap e.bp (block_ne e.bp e.bx (by decide)), hkk.ownsRow e.rb (fun j hj q => own_ne e.rb e.bx (by decide) (by rw [hj, q])), hkk.ownsRow e.rp (fun j hj q => own_ne e.rp e.bx (by decide) (by rw [hj, q])), e.Bx, e.Bb, e.Bp⟩
  have hK : Keeps (emFeet gx gb gp vb vp) w W := by rw [← hW]; exact (Keeps.refl _ w).setCell (p := ⟨gx, 0, none⟩) (.inr (.inl rfl)) _
  have hsz : W.heap.size = w.heap.size := by rw [← hW]; simp
  rw [hW]
  have HK := Lib.hid hK
  have HE' := Lib.hid HE
  have HSZ := Lib.hid hsz
  clear hW c1 f1 hK hsz HE
  go_cut [] from 11 to 18 (fun wx => ∃ vb' vp', EM wx B gx gb gp (x * 2 % 256) vb' vp' (bl ++ [BV]) (pl ++ [Z]) ∧ Keeps (emFeet gx gb gp vb vp) w wx ∧ (vp'.ownBlock = vp.ownBlock ∨ ∃ j, vp'.ownBlock = some j ∧ w.heap.size ≤ j))
  case first =>
    have nbp : gb ≠ gp := block_ne HE'.out.bb HE'.out.bp (by decide)
    have npb : gp ≠ gb := nbp.symm
    have m : MM w W B gx gb gp (x * 2 % 256) vb vp vb vp bl pl := ⟨HE'.out.bx, HE'.out.bb, HE'.out.bp, HE'.out.rb, HE'.out.rp, HK.out, .inl rfl, .inl rfl⟩
    have HDE : Hid ((8 : Nat) ≤ 64 ∧ (1 : Nat) ≤ 64) := Lib.hid ⟨by decide, by decide⟩
    have HBI : Hid ((4 : Nat) ≠ 3) := Lib.hid (by decide)
    have HIB : Hid ((3 : Nat) ≠ 4) := Lib.hid (by decide)
    have HLB := Lib.hid (show bl.length ≤ 1099511627776 by omega)
    have HLI := Lib.hid (show pl.length ≤ 1099511627776 by omega)
    have HBW := Lib.hid hB
    refine wp_region_noPanic ?_
    refine wp_region_late 8 (fun w1 => w1.cell? ⟨gb, 0, none⟩ = some vb ∧ w1.cell? ⟨gp, 0, none⟩ = some vp) (by kernel_rfl) (by kernel_rfl) #[false, false, false, false, false, false, false, false, true, true] (by kernel_rfl) (MM.cells m.drew) (fun hHeld => ?_)
    have m := m.drew
    refine wpAnyH_take (i := 1) (oi := { dst := some 12, op := Op.move (Operand.tmp 6), type := 4, pos := "markov.go:60", after := #[], guard := none }) (v := ?_) rfl (by kernel_rfl) (by kernel_rfl) (by kernel_rfl) (fun c a w h => (lateQ_panic h).elim) (Or.inl ⟨by rfl, ?_⟩) hHeld ?_
    rotate_left
    · (intro w hSw; (try dsimp only at hSw); go_simp; first | done | with_reducible rfl)
    simp only [Act.put, List.setIfInBounds_toArray, List.set_cons_zero, List.set_cons_succ]
    refine wpAnyH_take (i := 5) (oi := { dst := some 16, op := Op.move (Operand.tmp 0), type := 3, pos := "markov.go:60", after := #[], guard := none }) (v := ?_) rfl (by kernel_rfl) (by kernel_rfl) (by kernel_rfl) (fun c a w h => (lateQ_panic h).elim) (Or.inl ⟨by rfl, ?_⟩) hHeld ?_
    rotate_left
    · (intro w hSw; (try dsimp only at hSw); go_simp; first | done | with_reducible rfl)
    simp only [Act.put, List.setIfInBounds_toArray, List.set_cons_zero, List.set_cons_succ]
    refine wpAnyH_take (i := 0) (oi := { dst := some 11, op := Op.load 22 (Operand.tmp 2), type := 22, pos := "markov.go:60", after := #[], guard := none }) (v := ?_) rfl (by kernel_rfl) (by kernel_rfl) (by kernel_rfl) (fun c a w h => (lateQ_panic h).elim) (Or.inl ⟨by rfl, ?_⟩) hHeld ?_
    rotate_left
    · (intro w hSw; (try dsimp only at hSw); go_simp; first | done | with_reducible rfl)
    simp only [Act.put, List.setIfInBounds_toArray, List.set_cons_zero, List.set_cons_succ]
    refine wpAnyH_take (i := 4) (oi := { dst := some 15, op := Op.load 23 (Operand.tmp 3), type := 23, pos := "markov.go:60", after := #[], guard := none }) (v := ?_) rfl (by kernel_rfl) (by kernel_rfl) (by kernel_rfl) (fun c a w h => (lateQ_panic h).elim) (Or.inl ⟨by rfl, ?_⟩) hHeld ?_
    rotate_left
    · (intro w hSw; (try dsimp only at hSw); go_simp; first | done | with_reducible rfl)
    simp only [Act.put, List.setIfInBounds_toArray, List.set_cons_zero, List.set_cons_succ]
    refine wpAnyH_ready (rs := [2, 6]) (by kernel_rfl) (by simp) ?_
    refine AllReadyH.cons (o := { dst := some 13, op := Op.buildSlice 22 1 #[(0, Operand.tmp 12)], type := 22, pos := "markov.go:60", after := #[{ on := 1, ground := Ground.data }], guard := none }) rfl (fun K hK => ?_) ?_
    · go_simp
      refine hK.out _ _ (MM.cells (m.alloc _)) (fun hHeld => ?_)
      have m := m.alloc (.cells #[.bool BV] 4)
      clear hK K
      simp only [Act.put, List.setIfInBounds_toArray, List.set_cons_zero, List.set_cons_succ]
      refine wpAnyH_ready (rs := [3, 6]) (by kernel_rfl) (by simp) ?_
      refine AllReadyH.cons (o := { dst := some 14, op := Op.call { callee := Callee.builtin Builtin.append, args := #[Operand.tmp 11, Operand.tmp 13], argTypes := #[22, 22] }, type := 22, pos := "markov.go:60", after := #[{ on := 0, ground := Ground.data }, { on := 2, ground := Ground.data }], guard := none }) rfl (fun K hK => ?_) ?_
      · refine step_grow (P := Try.prog) (f := fB) info_bool rfl HDE.out.2 Try.underlying22 flatB rfl (Operand.tmp 11) (Operand.tmp 13) ?_ B vb bl BV (.bool BV) rfl ?_ ?_ (W.heap.size) 1 ?_ 4 ?_ HLB.out ?_ ?_
        · rfl
        · rfl
        · exact m.rb
        · rfl
        · exact (heap_alloc_new _ _)
        · exact Nat.le_trans HBW.out m.kp.size
        intro u1 w1 ho1 hg1 hv1
        refine hK.out _ _ (MM.cells (m.growB hg1 ho1 hv1)) (fun hHeld => ?_)
        have m := m.growB hg1 ho1 hv1
        clear hK K
        simp only [Act.put, List.setIfInBounds_toArray, List.set_cons_zero, List.set_cons_succ]
        refine wpAnyH_ready (rs := [6]) (by kernel_rfl) (by simp) ?_
        refine AllReadyH.cons (o := { dst := some 17, op := Op.buildSlice 23 1 #[(0, Operand.tmp 16)], type := 23, pos := "markov.go:60", after := #[{ on := 5, ground := Ground.data }], guard := none }) rfl (fun K hK => ?_) ?_
        · go_simp
          refine hK.out _ _ (MM.cells (m.alloc _)) (fun hHeld => ?_)
          have m := m.alloc (.cells #[.int .i64 Z] 3)
          clear hK K
          simp only [Act.put, List.setIfInBounds_toArray, List.set_cons_zero, List.set_cons_succ]
          refine wpAnyH_ready (rs := [7]) (by kernel_rfl) (by simp) ?_
          refine AllReadyH.cons (o := { dst := some 18, op := Op.call { callee := Callee.builtin Builtin.append, args := #[Operand.tmp 15, Operand.tmp 17], argTypes := #[23, 23] }, type := 23, pos := "markov.go:60", after := #[{ on := 4, ground := Ground.data }, { on := 6, ground := Ground.data }, { on := 3, ground := Ground.chain }], guard := none }) rfl (fun K hK => ?_) ?_
          · refine step_grow (P := Try.prog) (f := fI) info_int rfl HDE.out.1 Try.underlying23 flatI rfl (Operand.tmp 15) (Operand.tmp 17) ?_ B vp pl Z (.int .i64 Z) rfl ?_ ?_ (w1.heap.size) 1 ?_ 3 ?_ HLI.out ?_ ?_
            · rfl
            · rfl
            · exact m.rp
            · rfl
            · exact (heap_alloc_new _ _)
            · exact Nat.le_trans HBW.out m.kp.size
            intro u2 w2 ho2 hg2 hv2
            refine hK.out _ _ (MM.cells (m.growI hg2 ho2 hv2)) (fun hHeld => ?_)
            have m := m.growI hg2 ho2 hv2
            clear hK K
            simp only [Act.put, List.setIfInBounds_toArray, List.set_cons_zero, List.set_cons_succ]
            refine wpAnyH_done (by kernel_rfl) ?_ _
            refine lateQ_normal 2 (by kernel_rfl) #[true, true, true, true, true, true, true, true, false, false] (by kernel_rfl) (fun k => ?_)
            obtain ⟨a1, d1, rfl⟩ := own_slice m.rb
            obtain ⟨a2, d2, rfl⟩ := own_slice m.rp
            have c2 := cell_lit m.bb 0 _ rfl
            have c4 := cell_lit m.bp 0 _ rfl
            have f2 := free_in m.bb 0
            have f4 := free_in m.bp 0
            refine wpAnyH_ready (rs := [8]) (by kernel_rfl) (by simp) ?_
            refine AllReadyH.cons (o := { dst := none, op := Op.store 22 (Operand.tmp 2) (Operand.tmp 14), type := 0, pos := "markov.go:60", after := #[{ on := 3, ground := Ground.data }, { on := 7, ground := Ground.chain }, { on := 0, ground := Ground.phase }, { on := 1, ground := Ground.phase }, { on := 2, ground := Ground.phase }, { on := 3, ground := Ground.phase }, { on := 4, ground := Ground.textOnly Departure.inlinedCapture }, { on := 5, ground := Ground.textOnly Departure.lateStores }, { on := 6, ground := Ground.textOnly Departure.inlinedCapture }, { on := 7, ground := Ground.textOnly Departure.lateStoresUnsure }], guard := none }) rfl (fun K hK => ?_) AllReadyH.nil
            go_simp
            refine hK.out _ _ trivial (fun _ => ?_)
            clear hK K
            simp only [Act.put, List.setIfInBounds_toArray, List.set_cons_zero, List.set_cons_succ]
            refine wpAnyH_ready (rs := [9]) (by kernel_rfl) (by simp) ?_
            refine AllReadyH.cons (o := { dst := none, op := Op.store 23 (Operand.tmp 3) (Operand.tmp 18), type := 0, pos := "markov.go:60", after := #[{ on := 7, ground := Ground.data }, { on := 8, ground := Ground.chain }, { on := 0, ground := Ground.phase }, { on := 1, ground := Ground.phase }, { on := 2, ground := Ground.phase }, { on := 3, ground := Ground.phase }, { on := 4, ground := Ground.phase }, { on := 5, ground := Ground.phase }, { on := 6, ground := Ground.phase }, { on := 7, ground := Ground.phase }, { on := 8, ground := Ground.phase }], guard := none }) rfl (fun K hK => ?_) AllReadyH.nil
            go_simp
            refine hK.out _ _ trivial (fun _ => ?_)
            clear hK K
            simp only [Act.put, List.setIfInBounds_toArray, List.set_cons_zero, List.set_cons_succ]
            refine wpAnyH_done (by kernel_rfl) ?_ _
            refine NoPanic.normal ?_
            have e1 : (bl ++ [BV]).length = bl.length + 1 := by simp
            have e2 : (pl ++ [Z]).length = pl.length + 1 := by simp
            have d := MM.done m HE'.out.Bb HE'.out.Bx HE'.out.Bp
            have np := m.np
            rw [e1, e2] at d
            rw [e2] at np
            have HD := Lib.hid d
            have HNP := Lib.hid np
            clear d np e1 e2
            go_wp2_with fail
            go_meet
            case rel => exact ⟨_, _, HD.out.1, HD.out.2, HNP.out⟩
          exact AllReadyH.nil
        exact AllReadyH.nil
      refine AllReadyH.cons (o := { dst := some 17, op := Op.buildSlice 23 1 #[(0, Operand.tmp 16)], type := 23, pos := "markov.go:60", after := #[{ on := 5, ground := Ground.data }], guard := none }) rfl (fun K hK => ?_) ?_
      · go_simp
        refine hK.out _ _ (MM.cells (m.alloc _)) (fun hHeld => ?_)
        have m := m.alloc (.cells #[.int .i64 Z] 3)
        clear hK K
        simp only [Act.put, List.setIfInBounds_toArray, List.set_cons_zero, List.set_cons_succ]
        refine wpAnyH_ready (rs := [3]) (by kernel_rfl) (by simp) ?_
        refine AllReadyH.cons (o := { dst := some 14, op := Op.call { callee := Callee.builtin Builtin.append, args := #[Operand.tmp 11, Operand.tmp 13], argTypes := #[22, 22] }, type := 22, pos := "markov.go:60", after := #[{ on := 0, ground := Ground.data }, { on := 2, ground := Ground.data }], guard := none }) rfl (fun K hK => ?_) ?_
        · refine step_grow (P := Try.prog) (f := fB) info_bool rfl HDE.out.2 Try.underlying22 flatB rfl (Operand.tmp 11) (Operand.tmp 13) ?_ B vb bl BV (.bool BV) rfl ?_ ?_ (W.heap.size) 1 ?_ 4 ?_ HLB.out ?_ ?_
          · rfl
          · rfl
          · exact m.rb
          · rfl
          · exact (heap_old (heap_alloc_new _ _) _)
          · exact Nat.le_trans HBW.out m.kp.size
          intro u3 w3 ho3 hg3 hv3
          refine hK.out _ _ (MM.cells (m.growB hg3 ho3 hv3)) (fun hHeld => ?_)
          have hc := grown_heap hg3 (heap_two W.drew (.cells #[.bool BV] 4) (.cells #[.int .i64 Z] 3)) (own_ne m.rb (heap_two W.drew (.cells #[.bool BV] 4) (.cells #[.int .i64 Z] 3)) HBI.out)
          have m := m.growB hg3 ho3 hv3
          clear hK K
          simp only [Act.put, List.setIfInBounds_toArray, List.set_cons_zero, List.set_cons_succ]
          refine wpAnyH_ready (rs := [7]) (by kernel_rfl) (by simp) ?_
          refine AllReadyH.cons (o := { dst := some 18, op := Op.call { callee := Callee.builtin Builtin.append, args := #[Operand.tmp 15, Operand.tmp 17], argTypes := #[23, 23] }, type := 23, pos := "markov.go:60", after := #[{ on := 4, ground := Ground.data }, { on := 6, ground := Ground.data }, { on := 3, ground := Ground.chain }], guard := none }) rfl (fun K hK => ?_) ?_
          · refine step_grow (P := Try.prog) (f := fI) info_int rfl HDE.out.1 Try.underlying23 flatI rfl (Operand.tmp 15) (Operand.tmp 17) ?_ B vp pl Z (.int .i64 Z) rfl ?_ ?_ (W.heap.size + 1) 1 ?_ 3 ?_ HLI.out ?_ ?_
            · rfl
            · rfl
            · exact m.rp
            · rfl
            · exact hc
            · exact Nat.le_trans HBW.out m.kp.size
            intro u4 w4 ho4 hg4 hv4
            refine hK.out _ _ (MM.cells (m.growI hg4 ho4 hv4)) (fun hHeld => ?_)
            have m := m.growI hg4 ho4 hv4
            clear hK K
            simp only [Act.put, List.setIfInBounds_toArray, List.set_cons_zero, List.set_cons_succ]
            refine wpAnyH_done (by kernel_rfl) ?_ _
            refine lateQ_normal 2 (by kernel_rfl) #[true, true, true, true, true, true, true, true, false, false] (by kernel_rfl) (fun k => ?_)
            obtain ⟨a1, d1, rfl⟩ := own_slice m.rb
            obtain ⟨a2, d2, rfl⟩ := own_slice m.rp
            have c2 := cell_lit m.bb 0 _ rfl
            have c4 := cell_lit m.bp 0 _ rfl
            have f2 := free_in m.bb 0
            have f4 := free_in m.bp 0
            refine wpAnyH_ready (rs := [8]) (by kernel_rfl) (by simp) ?_
            refine AllReadyH.cons (o := { dst := none, op := Op.store 22 (Operand.tmp 2) (Operand.tmp 14), type := 0, pos := "markov.go:60", after := #[{ on := 3, ground := Ground.data }, { on := 7, ground := Ground.chain }, { on := 0, ground := Ground.phase }, { on := 1, ground := Ground.phase }, { on := 2, ground := Ground.phase }, { on := 3, ground := Ground.phase }, { on := 4, ground := Ground.textOnly Departure.inlinedCapture }, { on := 5, ground := Ground.textOnly Departure.lateStores }, { on := 6, ground := Ground.textOnly Departure.inlinedCapture }, { on := 7, ground := Ground.textOnly Departure.lateStoresUnsure }], guard := none }) rfl (fun K hK => ?_) AllReadyH.nil
            go_simp
            refine hK.out _ _ trivial (fun _ => ?_)
            clear hK K
            simp only [Act.put, List.setIfInBounds_toArray, List.set_cons_zero, List.set_cons_succ]
            refine wpAnyH_ready (rs := [9]) (by kernel_rfl) (by simp) ?_
            refine AllReadyH.cons (o := { dst := none, op := Op.store 23 (Operand.tmp 3) (Operand.tmp 18), type := 0, pos := "markov.go:60", after := #[{ on := 7, ground := Ground.data }, { on := 8, ground := Ground.chain }, { on := 0, ground := Ground.phase }, { on := 1, ground := Ground.phase }, { on := 2, ground := Ground.phase }, { on := 3, ground := Ground.phase }, { on := 4, ground := Ground.phase }, { on := 5, ground := Ground.phase }, { on := 6, ground := Ground.phase }, { on := 7, ground := Ground.phase }, { on := 8, ground := Ground.phase }], guard := none }) rfl (fun K hK => ?_) AllReadyH.nil
            go_simp
            refine hK.out _ _ trivial (fun _ => ?_)
            clear hK K
            simp only [Act.put, List.setIfInBounds_toArray, List.set_cons_zero, List.set_cons_succ]
            refine wpAnyH_done (by kernel_rfl) ?_ _
            refine NoPanic.normal ?_
            have e1 : (bl ++ [BV]).length = bl.length + 1 := by simp
            have e2 : (pl ++ [Z]).length = pl.length + 1 := by simp
            have d := MM.done m HE'.out.Bb HE'.out.Bx HE'.out.Bp
            have np := m.np
            rw [e1, e2] at d
            rw [e2] at np
            have HD := Lib.hid d
            have HNP := Lib.hid np
            clear d np e1 e2
            go_wp2_with fail
            go_meet
            case rel => exact ⟨_, _, HD.out.1, HD.out.2, HNP.out⟩
          exact AllReadyH.nil
        exact AllReadyH.nil
      exact AllReadyH.nil
    refine AllReadyH.cons (o := { dst := some 17, op := Op.buildSlice 23 1 #[(0, Operand.tmp 16)], type := 23, pos := "markov.go:60", after := #[{ on := 5, ground := Ground.data }], guard := none }) rfl (fun K hK => ?_) ?_
    · go_simp
      refine hK.out _ _ (MM.cells (m.alloc _)) (fun hHeld => ?_)
      have m := m.alloc (.cells #[.int .i64 Z] 3)
      clear hK K
      simp only [Act.put, List.setIfInBounds_toArray, List.set_cons_zero, List.set_cons_succ]
      refine wpAnyH_ready (rs := [2]) (by kernel_rfl) (by simp) ?_
      refine AllReadyH.cons (o := { dst := some 13, op := Op.buildSlice 22 1 #[(0, Operand.tmp 12)], type := 22, pos := "markov.go:60", after := #[{ on := 1, ground := Ground.data }], guard := none }) rfl (fun K hK => ?_) ?_
      · go_simp
        refine hK.out _ _ (MM.cells (m.alloc _)) (fun hHeld => ?_)
        have m := m.alloc (.cells #[.bool BV] 4)
        clear hK K
        simp only [Act.put, List.setIfInBounds_toArray, List.set_cons_zero, List.set_cons_succ]
        refine wpAnyH_ready (rs := [3]) (by kernel_rfl) (by simp) ?_
        refine AllReadyH.cons (o := { dst := some 14, op := Op.call { callee := Callee.builtin Builtin.append, args := #[Operand.tmp 11, Operand.tmp 13], argTypes := #[22, 22] }, type := 22, pos := "markov.go:60", after := #[{ on := 0, ground := Ground.data }, { on := 2, ground := Ground.data }], guard := none }) rfl (fun K hK => ?_) ?_
        · refine step_grow (P := Try.prog) (f := fB) info_bool rfl HDE.out.2 Try.underlying22 flatB rfl (Operand.tmp 11) (Operand.tmp 13) ?_ B vb bl BV (.bool BV) rfl ?_ ?_ (W.heap.size + 1) 1 ?_ 4 ?_ HLB.out ?_ ?_
          · rfl
          · rfl
          · exact m.rb
          · rfl
          · exact heap_two W.drew (.cells #[.int .i64 Z] 3) (.cells #[.bool BV] 4)
          · exact Nat.le_trans HBW.out m.kp.size
          intro u5 w5 ho5 hg5 hv5
          refine hK.out _ _ (MM.cells (m.growB hg5 ho5 hv5)) (fun hHeld => ?_)
          have hc := grown_heap hg5 (heap_old (heap_alloc_new W.drew (.cells #[.int .i64 Z] 3)) (.cells #[.bool BV] 4)) (own_ne m.rb (heap_old (heap_alloc_new W.drew (.cells #[.int .i64 Z] 3)) (.cells #[.bool BV] 4)) HBI.out)
          have m := m.growB hg5 ho5 hv5
          clear hK K
          simp only [Act.put, List.setIfInBounds_toArray, List.set_cons_zero, List.set_cons_succ]
          refine wpAnyH_ready (rs := [7]) (by kernel_rfl) (by simp) ?_
          refine AllReadyH.cons (o := { dst := some 18, op := Op.call { callee := Callee.builtin Builtin.append, args := #[Operand.tmp 15, Operand.tmp 17], argTypes := #[23, 23] }, type := 23, pos := "markov.go:60", after := #[{ on := 4, ground := Ground.data }, { on := 6, ground := Ground.data }, { on := 3, ground := Ground.chain }], guard := none }) rfl (fun K hK => ?_) ?_
          · refine step_grow (P := Try.prog) (f := fI) info_int rfl HDE.out.1 Try.underlying23 flatI rfl (Operand.tmp 15) (Operand.tmp 17) ?_ B vp pl Z (.int .i64 Z) rfl ?_ ?_ (W.heap.size) 1 ?_ 3 ?_ HLI.out ?_ ?_
            · rfl
            · rfl
            · exact m.rp
            · rfl
            · exact hc
            · exact Nat.le_trans HBW.out m.kp.size
            intro u6 w6 ho6 hg6 hv6
            refine hK.out _ _ (MM.cells (m.growI hg6 ho6 hv6)) (fun hHeld => ?_)
            have m := m.growI hg6 ho6 hv6
            clear hK K
            simp only [Act.put, List.setIfInBounds_toArray, List.set_cons_zero, List.set_cons_succ]
            refine wpAnyH_done (by kernel_rfl) ?_ _
            refine lateQ_normal 2 (by kernel_rfl) #[true, true, true, true, true, true, true, true, false, false] (by kernel_rfl) (fun k => ?_)
            obtain ⟨a1, d1, rfl⟩ := own_slice m.rb
            obtain ⟨a2, d2, rfl⟩ := own_slice m.rp
            have c2 := cell_lit m.bb 0 _ rfl
            have c4 := cell_lit m.bp 0 _ rfl
            have f2 := free_in m.bb 0
            have f4 := free_in m.bp 0
            refine wpAnyH_ready (rs := [8]) (by kernel_rfl) (by simp) ?_
            refine AllReadyH.cons (o := { dst := none, op := Op.store 22 (Operand.tmp 2) (Operand.tmp 14), type := 0, pos := "markov.go:60", after := #[{ on := 3, ground := Ground.data }, { on := 7, ground := Ground.chain }, { on := 0, ground := Ground.phase }, { on := 1, ground := Ground.phase }, { on := 2, ground := Ground.phase }, { on := 3, ground := Ground.phase }, { on := 4, ground := Ground.textOnly Departure.inlinedCapture }, { on := 5, ground := Ground.textOnly Departure.lateStores }, { on := 6, ground := Ground.textOnly Departure.inlinedCapture }, { on := 7, ground := Ground.textOnly Departure.lateStoresUnsure }], guard := none }) rfl (fun K hK => ?_) AllReadyH.nil
            go_simp
            refine hK.out _ _ trivial (fun _ => ?_)
            clear hK K
            simp only [Act.put, List.setIfInBounds_toArray, List.set_cons_zero, List.set_cons_succ]
            refine wpAnyH_ready (rs := [9]) (by kernel_rfl) (by simp) ?_
            refine AllReadyH.cons (o := { dst := none, op := Op.store 23 (Operand.tmp 3) (Operand.tmp 18), type := 0, pos := "markov.go:60", after := #[{ on := 7, ground := Ground.data }, { on := 8, ground := Ground.chain }, { on := 0, ground := Ground.phase }, { on := 1, ground := Ground.phase }, { on := 2, ground := Ground.phase }, { on := 3, ground := Ground.phase }, { on := 4, ground := Ground.phase }, { on := 5, ground := Ground.phase }, { on := 6, ground := Ground.phase }, { on := 7, ground := Ground.phase }, { on := 8, ground := Ground.phase }], guard := none }) rfl (fun K hK => ?_) AllReadyH.nil
            go_simp
            refine hK.out _ _ trivial (fun _ => ?_)
            clear hK K
            simp only [Act.put, List.setIfInBounds_toArray, List.set_cons_zero, List.set_cons_succ]
            refine wpAnyH_done (by kernel_rfl) ?_ _
            refine NoPanic.normal ?_
            have e1 : (bl ++ [BV]).length = bl.length + 1 := by simp
            have e2 : (pl ++ [Z]).length = pl.length + 1 := by simp
            have d := MM.done m HE'.out.Bb HE'.out.Bx HE'.out.Bp
            have np := m.np
            rw [e1, e2] at d
            rw [e2] at np
            have HD := Lib.hid d
            have HNP := Lib.hid np
            clear d np e1 e2
            go_wp2_with fail
            go_meet
            case rel => exact ⟨_, _, HD.out.1, HD.out.2, HNP.out⟩
          exact AllReadyH.nil
        exact AllReadyH.nil
      exact AllReadyH.nil
    exact AllReadyH.nil
  case rest =>
    obtain ⟨vb', vp', he, hk', hp'⟩ := hcut
    have HE2 := Lib.hid he; have HKK := Lib.hid hk'; have HPP := Lib.hid hp'
    clear he hk' hp'
    go_wp2_with fail
    go_ret
    exact ⟨_, _, rfl, HE2.out, HKK.out, HPP.out⟩
end Go.Proofs.Ytkdkedgpchcfpaa
