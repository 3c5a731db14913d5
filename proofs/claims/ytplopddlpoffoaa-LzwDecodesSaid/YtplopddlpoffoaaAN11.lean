/- Layer 60: the reader's next: a row. -/
import Derived.Test.YtplopddlpoffoaaAN10
namespace Go.Proofs.Ytplopddlpoffoaa
open Go.ChangeShapes Go.WideShapes Go.ChangeAt Go.RowKit
set_option linter.unusedVariables false
set_option linter.unusedSimpArgs false
set_option maxRecDepth 100000
open Bits
theorem copyZ_at (f : Nat) (O : List UInt8) : ∀ (k i : Nat), i ≤ k → ∀ j, j < (copyZ f O i).length → (copyZ f O k).getD j 0 = (copyZ f O i).getD j 0 := by
  intro k
  induction k with
  | zero => intro i hi j hj; have e : i = 0 := by omega
            rw [e]
  | succ k ih =>
    intro i hi j hj
    by_cases e : i = k + 1
    · subst e; rfl
    · have hlk : j < (copyZ f O k).length := by rw [copyZ_len] at hj ⊢; omega
      rw [← ih i (by omega) j hj]
      simp only [copyZ]
      rw [List.getD_eq_getElem?_getD, List.getElem?_append_left hlk, ← List.getD_eq_getElem?_getD]
/-- What the copying has left. -/
structure Mid (w : World) (B g gs : Nat) (ov rv : Value) (lf ln f k : Nat) (O : List UInt8) (ps : List (Nat × Nat)) (wr : World) : Prop where
  post : RdPost w B g ov rv O ps lf ln wr
  span : wr.heap[gs]? = some (.cells #[.int .i64 (f : Int), .int .i64 (k : Int)] 97 (0, 0))
  far : w.heap.size ≤ gs
theorem undrewZ {w w' : World} {r : Option Nat} (h : w.drew.grownBy w' r) : w.grownBy w' r := ⟨h.os, h.tape, h.output, h.size, h.block⟩
theorem grown_heap' {w w' : World} {r : Option Nat} {k : Nat} {o : Obj} (h : w.grownBy w' r) (hk : w.heap[k]? = some o) (hne : r ≠ some k) : w'.heap[k]? = some o := grown_heap h hk hne
theorem Mid.start {w : World} {B g f k : Nat} {ov rv : Value} {lf ln : Nat} {O : List UInt8} {ps : List (Nat × Nat)} (h : Rd w B g ov rv lf ln O ps) : Mid w B g w.heap.size ov rv lf ln f k O ps (w.alloc (.cells #[.int .i64 (f : Int), .int .i64 (k : Int)] 97)) :=
  ⟨⟨ov, h.below ((Below.refl _ _).alloc (Nat.le_refl _) _), (Keeps.refl _ w).alloc _, fun _ h => .inl h⟩, heap_alloc_new w _, Nat.le_refl _⟩
/-- Behind the append of one byte. -/
theorem Mid.step {w wr w1 : World} {B g gs f k j cap : Nat} {ov rv ov' : Value} {lf ln : Nat} {O : List UInt8} {ps : List (Nat × Nat)} {x : UInt8} {o : Obj} (hr : Rd wr B g ov' rv lf ln O ps) (hkp : Keeps (fun k => k = g ∨ ov.ownBlock = some k) w wr) (hv : ∀ k, ov'.ownBlock = some k → ov.ownBlock = some k ∨ w.heap.size ≤ k) (hs : wr.heap[gs]? = some (.cells #[.int .i64 (f : Int), .int .i64 (k : Int)] 97 (0, 0))) (hfar : w.heap.size ≤ gs)
    (ho : w1.ownsRow B 5 1 (.slice (some ⟨j, 0, none⟩) (O.length + 1) cap) (O.length + 1) (O.flatMap fU8 ++ [.int .u8 (x.toNat : Int)])) (hg : (wr.alloc o).grownBy w1 ov'.ownBlock) (hj : ov'.ownBlock = some j ∨ (wr.alloc o).heap.size ≤ j) :
    Mid w B g gs ov rv lf ln f k (O ++ [x]) ps (w1.setCell ⟨g, 0, none⟩ (.slice (some ⟨j, 0, none⟩) (O.length + 1) cap)) := by
  have ho2 : OwnU B w1 (.slice (some ⟨j, 0, none⟩) (O.length + 1) cap) (O ++ [x]) := by
    have e : (O ++ [x]).flatMap fU8 = O.flatMap fU8 ++ [.int .u8 (x.toNat : Int)] := by simp [fU8]
    unfold OwnU OwnS; rw [e, List.length_append]; exact ho
  have hk1 : Keeps (fun k => ov'.ownBlock = some k) wr w1 := ((Keeps.refl _ wr).alloc _).grown hg (fun j hj => .inr hj)
  have hrow : Row1 wr ov' w1 (.slice (some ⟨j, 0, none⟩) (O.length + 1) cap) := ⟨hk1, fun q hq => by
    obtain rfl : j = q := by simpa [Value.ownBlock] using hq
    rcases hj with hj | hj
    · exact .inl hj
    · right; simp at hj; omega⟩
  obtain ⟨hg3, ov2, hr2, hk2, hv2⟩ := hr.grown ho2 hrow
  have hgs : gs ≠ g := by
    intro e
    rw [e, hr.block] at hs
    injection hs with hs
    injection hs with _ hs _
    exact absurd hs (by decide)
  have hns : ov'.ownBlock ≠ some gs := own_ne hr.out hs (by decide)
  refine ⟨⟨ov2, hr2, ?_, fun q hq => ?_⟩, ?_, hfar⟩
  · exact hkp.trans' hk2 (fun q hq hh => by
      rcases hh with hh | hh
      · exact .inl hh
      · rcases hv q hh with h1 | h1
        · exact .inr h1
        · omega)
  · rcases hv2 q hq with h1 | h1
    · exact hv q h1
    · right; have := hkp.size; omega
  · rw [Below.heap_setCell _ _ _ _ hgs]
    exact hk1.heap hs hns
set_option maxHeartbeats 6400000 in
theorem cNextRow (w : World) (B g : Nat) (ov rv : Value) (lf ln : Nat) (O : List UInt8) (ps : List (Nat × Nat)) (x f k : Nat) (h : Rd w B g ov rv lf ln O ps) (hx : 256 ≤ x) (hx2 : x ≤ 1000000) (hp : ps[x - 256]? = some (f, k)) (hk : f + k ≤ O.length + 1) (hf : f < O.length) (hO : O.length ≤ 100000000) (hB : B ≤ w.heap.size) :
    Calls Try.prog 50 #[.pointer (some ⟨g, 0, none⟩), .int .i64 x] w fun e w' => e = .returned (.int .i64 0) ∧ RdPost w B g ov rv (copyZ f O k) ps O.length k w' := by
  obtain ⟨i0, hi, hz0, hz1, hz2⟩ := info_get info_u8
  have cg := cell_lit h.block 0 ov rfl
  have cr := cell_lit h.block 1 rv rfl
  obtain ⟨oa, oc, hov⟩ := h.out.slice
  obtain ⟨ra, rc, hrv⟩ := h.rows.slice
  have hpl : x - 256 < ps.length := (List.getElem?_eq_some_iff.1 hp).1
  have hx1 : ¬ (x : Int) < 256 := by omega
  obtain ⟨y, hy⟩ : ∃ y, x - 256 = y := ⟨_, rfl⟩
  have hyi : (x : Int) - 256 = (y : Int) := by omega
  have hw1 : IntKind.i64.wrap ((x : Int) - 256) = (y : Int) := by rw [IntKind.wrap_i64]; omega
  rw [hy] at hp hpl
  obtain ⟨gr, hra⟩ : ∃ gr, ra = some ⟨gr, 0, none⟩ := by
    have := h.rows.2
    rw [hrv] at this
    rcases this with ⟨h0, h1⟩ | ⟨g', cap', cur', h0, -⟩
    · simp at h0; omega
    · simp at h0; exact ⟨g', h0.1⟩
  subst hra
  have hrw := h.rows
  rw [hrv] at hrw
  have s0 := OwnS.cell flatSp hrw y 0 (f, k) hp (by decide)
  have s1 := OwnS.cell flatSp hrw y 1 (f, k) hp (by decide)
  simp only [fSp, List.getElem?_cons_zero, List.getElem?_cons_succ, Nat.add_zero] at s0 s1
  have HH := Lib.hid h
  have hypl : (y : Int) < (ps.length : Int) := by omega
  have hcg : w.cell? ⟨g, 0, none⟩ = some (.slice oa O.length oc) := by rw [cg, hov]
  have hcr : w.cell? ⟨g, 1, none⟩ = some (.slice (some ⟨gr, 0, none⟩) ps.length rc) := by rw [cr, hrv]
  have hgl := block_lt h.block
  have hgrl := (World.ownsRow.lt hrw gr rfl).2
  clear h cg cr hov hrv hrw hp hpl hy
  go_enter Try.func50, Try.ntmps50
  go_wp2_with fail
  obtain ⟨gs, hgs⟩ : ∃ gs, w.heap.size = gs := ⟨_, rfl⟩
  have HM0 := Lib.hid (show Mid w B g gs ov rv lf ln f k O ps (w.alloc (.cells #[.int .i64 (f : Int), .int .i64 (k : Int)] 97)) by rw [← hgs]; exact Mid.start HH.out)
  obtain ⟨W3, hW3⟩ : ∃ W3, w.alloc (.cells #[.int .i64 (f : Int), .int .i64 (k : Int)] 97) = W3 := ⟨_, rfl⟩
  rw [hW3] at HM0 ⊢
  rw [hgs]
  clear hW3 hcg hcr s0 s1 hgl hgrl hypl hyi hw1 hx1
  go_loopw [46] (fun iv wr => ∃ i : Nat, i ≤ k ∧ iv = .int .i64 i ∧ Hid (Mid w B g gs ov rv lf ln f k (copyZ f O i) ps wr)) (fun iv _ => k - (intOf iv).toNat)
  case atStart => exact ⟨0, Nat.zero_le _, rfl, HM0⟩
  case round =>
    clear HM0
    obtain ⟨i, hile, rfl, hmid⟩ := hrel
    obtain ⟨⟨ov', hr, hkp, hv⟩, hsp, hfar⟩ := hmid.out
    have hlen := copyZ_len f O i
    by_cases hik : i < k
    · have hiki : (i : Int) < (k : Int) := by omega
      obtain ⟨pa, pc, hov'⟩ := hr.out.slice
      obtain ⟨go, hpa⟩ : ∃ go, pa = some ⟨go, 0, none⟩ := by
        have := hr.out.2
        rw [hov'] at this
        rcases this with ⟨h0, h1⟩ | ⟨g', cap', cur', h0, -⟩
        · simp at h0; omega
        · simp at h0; exact ⟨g', h0.1⟩
      subst hpa
      obtain ⟨N, hN⟩ : ∃ N, (copyZ f O i).length = N := ⟨_, rfl⟩
      rw [hN] at hov' hlen
      have hr' := hr
      rw [hov'] at hr'
      obtain ⟨b, hb⟩ : ∃ b, (copyZ f O i)[f + i]? = some b := ⟨_, List.getElem?_eq_getElem (by omega)⟩
      have cb := OwnS.cell flatU8 hr'.out (f + i) 0 b hb (by decide)
      simp only [fU8, List.getElem?_cons_zero, Nat.mul_one, Nat.add_zero] at cb
      have c0 := cell_lit hr'.block 0 (.slice (some ⟨go, 0, none⟩) N pc) rfl
      have s0 := cell_lit hsp 0 (.int .i64 (f : Int)) rfl
      have hcz : copyZ f O (i + 1) = copyZ f O i ++ [b] := by
        simp only [copyZ]
        rw [List.getD_eq_getElem?_getD, hb]; rfl
      have HCZ := Lib.hid hcz
      have HR := Lib.hid hr
      have HKP := Lib.hid hkp
      have HV := Lib.hid hv
      have HSP := Lib.hid hsp
      have HFA := Lib.hid hfar
      have HOV := Lib.hid hov'
      have hgl := block_lt hr.block
      have hgsl := block_lt hsp
      have hgol := (World.ownsRow.lt hr'.out go rfl).2
      have HBR := Lib.hid (show B ≤ wr.heap.size from Nat.le_trans hB hkp.size)
      have HR' := Lib.hid hr'
      have f0 := free_in hr'.block 0
      obtain ⟨F, hF⟩ : ∃ F, f + i = F := ⟨_, rfl⟩
      have hFi : (f : Int) + (i : Int) = (F : Int) := by omega
      have hFN : (F : Int) < (N : Int) := by omega
      rw [hF] at cb
      have HROW := Lib.hid (show wr.ownsRow B 5 1 (.slice (some ⟨go, 0, none⟩) N pc) N ((copyZ f O i).flatMap fU8) by
        have := hr'.out
        unfold OwnU OwnS at this
        rw [hN] at this; exact this)
      have HNB := Lib.hid (show N ≤ 300000000 by omega)
      have HLN := Lib.hid hlen
      have HNN := Lib.hid hN
      have HVV := Lib.hid (show ∀ q, (Value.slice (some ⟨go, 0, none⟩) N pc).ownBlock = some q → ov.ownBlock = some q ∨ w.heap.size ≤ q from fun q hq => hv q (by rw [hov']; exact hq))
      have hwF : IntKind.i64.wrap (F : Int) = (F : Int) := by rw [IntKind.wrap_i64]; omega
      clear hcz hr hkp hv hsp hfar hov' hr' hb hmid hF hlen hN
      go_wp2_with fail
      go_region_law (refine step_append_at rfl (.tmp 53) (.tmp 64) 94 rfl B 5 i0 (.int .u8 0) 1 Try.underlying94 hi hz0 hz1 hz2 rfl (.slice (some ⟨go, 0, none⟩) N pc) N ((copyZ f O i).flatMap fU8) rfl (HROW.out.alloc _) ⟨wr.heap.size, 0, none⟩ 1 1 [.int .u8 (b.toNat : Int)] rfl rfl (cell_new1 wr _ _ _ rfl) (by simp [Value.oneCell']) (by have := HNB.out; unfold maxLen; omega) (by have := HNB.out; omega) (by have := HBR.out; simp; omega) (by decide) ?_; intro kk cap w1 hown1 hgrow hk; have HOW := Lib.hid hown1; have HGR := Lib.hid hgrow; have hbk := grown_heap hgrow (heap_old HR'.out.block _) (own_ne HROW.out HR'.out.block (by decide)); have d0 := cell_lit hbk 0 (.slice (some ⟨go, 0, none⟩) N pc) rfl; have e0 := free_in hbk 0; clear hown1 hgrow hbk)
      all_goals
        have HST := Lib.hid (show Mid w B g gs ov rv lf ln f k (copyZ f O (i + 1)) ps (w1.setCell ⟨g, 0, none⟩ (.slice (some ⟨kk, 0, none⟩) (N + 1) cap)) by
          have := Mid.step (gs := gs) (f := f) (k := k) (j := kk) (cap := cap) (x := b) HR'.out HKP.out HVV.out HSP.out HFA.out (by rw [HNN.out]; exact HOW.out) (by first | exact HGR.out | exact undrewZ HGR.out) (hk.imp_right (fun e => Nat.le_of_eq e.symm))
          rw [HNN.out, ← HCZ.out] at this
          exact this)
        clear d0 e0
        go_wp2_with fail
        go_roundw
        case rel => exact ⟨i + 1, by omega, by go_num, HST⟩
        case measure => simp [intOf]; omega
    · obtain rfl : k = i := by omega
      obtain ⟨pa, pc, hov'⟩ := hr.out.slice
      have c0 := cell_lit hr.block 0 ov' rfl
      rw [hov', hlen] at c0
      have c2 := cell_lit hr.block 2 _ rfl
      have c3 := cell_lit hr.block 3 _ rfl
      have f2 := free_in hr.block 2
      have f3 := free_in hr.block 3
      have HP := Lib.hid hmid.out.post
      have hkk : ¬ (k : Int) < (k : Int) := by omega
      clear hr hkp hv hsp hfar hov' hmid hlen
      go_wp2_with fail
      go_ret
      exact ⟨rfl, HP.out.last (by omega)⟩
end Go.Proofs.Ytplopddlpoffoaa
