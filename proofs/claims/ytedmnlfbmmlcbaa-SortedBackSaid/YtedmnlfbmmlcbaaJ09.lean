import Derived.Orders
import Derived.OrdersHeld
import Derived.Deep.RegionHeld3
import Derived.Test.YtedmnlfbmmlcbaaJ08
import Derived.Deep.CutRange
/- Regions that draw their order: operations that wait for all others are carried out behind them. -/
namespace Go.Proofs.Ytedmnlfbmmlcbaa
open Go
set_option linter.unusedVariables false
/-- What stands at the end of the first part: the late ones are still to come. -/
def LateQ (P : Program) (md : Region.Mode) (ops : Array Oper) (n : Nat) (Q : Exit → Act → World → Prop) : Exit → Act → World → Prop := fun e a w =>
  (e = .normal → ∀ listed : Array Bool, listed.size = ops.size → (∀ i, i < n → listed.getD i true = true) → (∀ i, n ≤ i → i < ops.size → listed.getD i true = false) → ∀ k, wpAny P md ops Q (k + (ops.size - n)) listed a w) ∧ (e ≠ .normal → Q e a w)
/-- Does j wait for i, if by others? -/
def awaits (md : Region.Mode) (ops : Array Oper) : Nat → Nat → Nat → Bool
  | 0, _, _ => false
  | f + 1, j, i => match ops[j]? with
    | none => false
    | some o => o.after.any fun e => Region.binds md e && (decide (e.on = i) || awaits md ops f e.on i)
def Closed (md : Region.Mode) (ops : Array Oper) (listed : Array Bool) : Prop := ∀ (j : Nat) (o : Oper), ops[j]? = some o → listed.getD j false = true → ∀ e ∈ o.after, Region.binds md e = true → listed.getD e.on false = true
theorem awaits_listed {md : Region.Mode} {ops : Array Oper} {listed : Array Bool} (hc : Closed md ops listed) : ∀ (f j i : Nat), awaits md ops f j i = true → (∀ o, ops[j]? = some o → ∀ e ∈ o.after, Region.binds md e = true → listed.getD e.on false = true) → listed.getD i false = true
  | 0, _, _, h, _ => by simp [awaits] at h
  | f + 1, j, i, h, hd => by
    unfold awaits at h
    cases ho : ops[j]? with
    | none => rw [ho] at h; simp at h
    | some o =>
      rw [ho] at h
      simp only at h
      rw [← Array.any_toList, List.any_eq_true] at h
      obtain ⟨e, he, h2⟩ := h
      have he : e ∈ o.after := by simpa using he
      simp only [Bool.and_eq_true, Bool.or_eq_true, decide_eq_true_eq] at h2
      have hl := hd o ho e he h2.1
      rcases h2.2 with h3 | h3
      · rw [← h3]; exact hl
      · exact awaits_listed hc f e.on i h3 (fun o' ho' => hc e.on o' ho' hl)
def lateB (md : Region.Mode) (ops : Array Oper) (n : Nat) : Bool :=
  decide (n ≤ ops.size) && (List.range ops.size).all fun j => match ops[j]? with
    | none => true
    | some o => if j < n then o.after.all fun e => !Region.binds md e || decide (e.on < j)
      else (List.range n).all fun i => awaits md ops ops.size j i
def mark (listed : Array Bool) (n : Nat) : Array Bool := (List.range listed.size).toArray.map fun i => listed.getD i true || decide (n ≤ i)
theorem mark_size (listed : Array Bool) (n : Nat) : (mark listed n).size = listed.size := by simp [mark]
theorem mark_at (listed : Array Bool) (n i : Nat) (d : Bool) (hi : i < listed.size) : (mark listed n).getD i d = (listed.getD i d || decide (n ≤ i)) := by
  simp [mark, hi]
theorem mark_set (listed : Array Bool) (n i : Nat) : mark (listed.setIfInBounds i true) n = (mark listed n).setIfInBounds i true := by
  apply Array.ext
  · simp [mark]
  · intro j h1 h2
    have hj : j < listed.size := by simpa [mark] using h1
    have e1 : (mark (listed.setIfInBounds i true) n)[j] = (mark (listed.setIfInBounds i true) n).getD j true := by simp [h1]
    have e2 : ((mark listed n).setIfInBounds i true)[j] = ((mark listed n).setIfInBounds i true).getD j true := by rw [Array.getD_eq_getD_getElem?, Array.getElem?_eq_getElem h2]; rfl
    rw [e1, e2, mark_at _ _ _ _ (by simpa using hj)]
    by_cases hij : i = j
    · subst hij
      simp [hj, mark_size]
    · rw [getD_set_ne true hij, getD_set_ne true hij, mark_at _ _ _ _ hj]
theorem wpOp_exits {P : Program} {ops : Array Oper} {Q Q2 : Exit → Act → World → Prop} {i : Nat} {a : Act} {w : World} {K K' : Act → World → Prop} (hQ : ∀ e a w, e ≠ .normal → Q2 e a w → Q e a w) (hL : LetsOut Q2 → LetsOut Q) (h : ∀ a w, K a w → K' a w)
    (hh : wpOp P ops Q2 i K a w) : wpOp P ops Q i K' a w := by
  unfold wpOp at *
  split
  · exact h _ _ (by simpa [*] using hh)
  · rename_i o ho
    simp only [ho] at hh
    split
    · rename_i hw
      simp only [hw, if_true] at hh
      rcases hh with hh | ⟨h1, h2⟩
      case inr => exact .inr ⟨h1, hL h2⟩
      refine .inl ?_
      unfold Oper.wp at *
      generalize (execOp a.eval o).run P w = r at *
      cases r with
      | ok n w' =>
        cases n <;> simp only [Oper.upon] at hh ⊢
        case value u => exact h _ _ hh
        case skip => exact h _ _ hh
        case defer d => exact h _ _ hh
        case enter f args =>
          refine Calls.mono hh fun e w'' he => ?_
          cases e with
          | returned u => exact h _ _ he
          | panicked c => exact hQ _ _ _ (by simp) he
          | outgrown => exact hL he
        case row row args => exact Rows.mono hh fun u w'' he => h _ _ he
      | halt x w' =>
        cases x <;> simp only [Oper.upon] at hh ⊢
        case panic u => exact hQ _ _ _ (by simp) hh
    · rename_i hw
      simp only [hw] at hh
      exact h _ _ hh
theorem lateB_n {md : Region.Mode} {ops : Array Oper} {n : Nat} (h : lateB md ops n = true) : n ≤ ops.size := by
  unfold lateB at h
  simp only [Bool.and_eq_true, decide_eq_true_eq] at h
  exact h.1
theorem lateB_early {md : Region.Mode} {ops : Array Oper} {n : Nat} (h : lateB md ops n = true) {j : Nat} {o : Oper} (ho : ops[j]? = some o) (hj : j < n) : ∀ e ∈ o.after, Region.binds md e = true → e.on < j := by
  unfold lateB at h
  simp only [Bool.and_eq_true, decide_eq_true_eq, List.all_eq_true, List.mem_range] at h
  have := h.2 j ((Array.getElem?_eq_some_iff.1 ho).1)
  rw [ho] at this
  simp only [hj, if_true, Array.all_eq_true_iff_forall_mem, Bool.or_eq_true, Bool.not_eq_true', decide_eq_true_eq] at this
  intro e he hb
  rcases this e he with h1 | h1
  · rw [hb] at h1; cases h1
  · exact h1
theorem lateB_late {md : Region.Mode} {ops : Array Oper} {n : Nat} (h : lateB md ops n = true) {j : Nat} {o : Oper} (ho : ops[j]? = some o) (hj : n ≤ j) {i : Nat} (hi : i < n) : awaits md ops ops.size j i = true := by
  unfold lateB at h
  simp only [Bool.and_eq_true, decide_eq_true_eq, List.all_eq_true, List.mem_range] at h
  have := h.2 j ((Array.getElem?_eq_some_iff.1 ho).1)
  rw [ho] at this
  simp only [Nat.not_lt.2 hj, if_false, List.all_eq_true, List.mem_range] at this
  exact this i hi
section
variable {P : Program} {ops : Array Oper} {Q : Exit → Act → World → Prop} {md : Region.Mode} {n : Nat}
theorem ready_all (hB : lateB md ops n = true) {listed : Array Bool} (hsz : listed.size = ops.size) (hr : Region.ready md ops (mark listed n) = []) : ∀ i, i < n → listed.getD i true = true := by
  intro i
  induction i using Nat.strongRecOn with
  | ind i ih =>
    intro hi
    cases hc : listed.getD i true with
    | true => rfl
    | false =>
      have hlt : i < listed.size := by have := lateB_n hB; omega
      have hm : i ∈ Region.ready md ops (mark listed n) := by
        refine mem_ready.2 ⟨?_, ops[i]'(by omega), by simp, ?_⟩
        · rw [mark_at _ _ _ _ hlt, hc]; simp; omega
        · intro e he hb
          have h1 := lateB_early hB (o := ops[i]'(by omega)) (by simp) hi e he hb
          have h2 := ih e.on h1 (by omega)
          rw [mark_at _ _ _ _ (by omega)]
          have : listed.getD e.on false = true := by
            have hl : e.on < listed.size := by omega
            simp only [Array.getD_eq_getD_getElem?, Array.getElem?_eq_getElem hl, Option.getD_some] at h2 ⊢
            exact h2
          rw [this]; rfl
      rw [hr] at hm; cases hm
theorem wpAny_late (hB : lateB md ops n = true) : ∀ (fuel : Nat) (listed : Array Bool) (a : Act) (w : World), listed.size = ops.size → (∀ i, n ≤ i → i < ops.size → listed.getD i true = false) → Closed md ops listed →
    wpAny P md ops (LateQ P md ops n Q) fuel (mark listed n) a w → ∀ k, wpAny P md ops Q (fuel + (k + (ops.size - n))) listed a w := by
  intro fuel
  induction fuel with
  | zero =>
    intro listed a w hsz hl hcl h k
    have := h.2.1 rfl listed hsz (ready_all hB hsz h.1) hl k
    rw [Nat.zero_add]; exact this
  | succ fuel ih =>
    intro listed a w hsz hl hcl h k
    by_cases hr : Region.ready md ops (mark listed n) = []
    · have := (h.1 hr).1 rfl listed hsz (ready_all hB hsz hr) hl (fuel + 1 + k)
      rw [← Nat.add_assoc]; exact this
    · obtain ⟨i0, hi0⟩ := List.exists_mem_of_ne_nil _ hr
      obtain ⟨u0, o0, ho0, d0⟩ := mem_ready.1 hi0
      have hi0s : i0 < ops.size := (Array.getElem?_eq_some_iff.1 ho0).1
      rw [mark_at _ _ _ _ (by omega)] at u0
      simp only [Bool.or_eq_false_iff, decide_eq_false_iff_not, Nat.not_le] at u0
      have hsub : ∀ j, j ∈ Region.ready md ops listed → j < n := by
        intro j hj
        obtain ⟨u, o, ho, d⟩ := mem_ready.1 hj
        refine Nat.lt_of_not_le fun hnj => ?_
        have := awaits_listed hcl _ _ _ (lateB_late hB ho hnj u0.2) (fun o' ho' => by rw [ho] at ho'; injection ho' with ho'; subst ho'; exact d)
        have hl0 : i0 < listed.size := by omega
        have u1 := u0.1
        simp only [Array.getD_eq_getD_getElem?, Array.getElem?_eq_getElem hl0, Option.getD_some] at this u1
        rw [u1] at this; cases this
      have hin : ∀ j, j ∈ Region.ready md ops listed → j ∈ Region.ready md ops (mark listed n) := by
        intro j hj
        have hjn := hsub j hj
        obtain ⟨u, o, ho, d⟩ := mem_ready.1 hj
        have hjs : j < ops.size := (Array.getElem?_eq_some_iff.1 ho).1
        refine mem_ready.2 ⟨?_, o, ho, ?_⟩
        · rw [mark_at _ _ _ _ (by omega), u]; simp; omega
        · intro e he hb
          have := lateB_early hB ho hjn e he hb
          rw [mark_at _ _ _ _ (by omega), d e he hb]; rfl
      have e1 : fuel + 1 + (k + (ops.size - n)) = (fuel + (k + (ops.size - n))) + 1 := by omega
      rw [e1]
      refine ⟨fun h0 => ?_, fun j hj => ?_⟩
      · exfalso
        have : i0 ∈ Region.ready md ops listed := by
          refine mem_ready.2 ⟨u0.1, o0, ho0, ?_⟩
          intro e he hb
          have h1 := lateB_early hB ho0 u0.2 e he hb
          have h2 := d0 e he hb
          rw [mark_at _ _ _ _ (by omega)] at h2
          simp only [Bool.or_eq_true, decide_eq_true_eq] at h2
          rcases h2 with h2 | h2
          · exact h2
          · omega
        rw [h0] at this; cases this
      · refine wpOp_exits (fun e a w he hq => hq.2 he) (fun ⟨a, w, hq⟩ => ⟨a, w, hq.2 (by simp)⟩) (fun a' w' h' => ?_) (h.2 j (hin j hj))
        refine ih (listed.setIfInBounds j true) a' w' (by simpa using hsz) ?_ ?_ (by rw [mark_set]; exact h') k
        · intro i h1 h2
          rw [getD_set_ne true (by have := hsub j hj; omega)]
          exact hl i h1 h2
        · intro j' o ho hlj e he hb
          by_cases hjj : j = j'
          · subst hjj
            obtain ⟨u, o', ho', d⟩ := mem_ready.1 hj
            rw [ho] at ho'; injection ho' with ho'; subst ho'
            exact getD_set_true (d e he hb)
          · rw [getD_set_ne false hjj] at hlj
            exact getD_set_true (hcl j' o ho hlj e he hb)
/-- **A region whose operations from number n on wait for all others**: those first, under S; then the late ones. -/
theorem wp_region_late {id : Nat} {a : Act} {w : World} (n : Nat) (S : World → Prop) (hm : P.follows .mixedOrders = true) (hB : lateB .any ops n = true) (L : Array Bool) (hL : mark (Array.replicate ops.size false) n = L) (hS : S w.drew)
    (h : S w.drew → wpAnyH P .any ops (LateQ P .any ops n Q) S n L a w.drew) : (Code.region id ops true).wp P Q a w := by
  refine wp_region_any hm ?_
  have h1 := wpAny_of_held _ _ _ _ (h hS)
  rw [← hL] at h1
  have := wpAny_late hB n (Array.replicate ops.size false) a w.drew (by simp) (by intro i _ hi; simp [hi]) (by intro j o ho hl; have hj := (Array.getElem?_eq_some_iff.1 ho).1; simp [hj] at hl) h1 0
  have e : n + (0 + (ops.size - n)) = ops.size := by have := lateB_n hB; omega
  rw [e] at this
  exact this
/-- The late ones, one behind the other, whatever was shown before them. -/
theorem lateQ_normal {a : Act} {w : World} (m : Nat) (hm : ops.size = n + m) (L : Array Bool) (hL : (Array.replicate n true ++ Array.replicate m false) = L) (h : ∀ k, wpAnyH P md ops Q (fun _ => True) (k + m) L a w) : LateQ P md ops n Q .normal a w := by
  obtain rfl : m = ops.size - n := by omega
  have hn : n ≤ ops.size := by omega
  refine ⟨fun _ listed hsz h1 h2 k => ?_, fun h => absurd rfl h⟩
  have : listed = L := by
    rw [← hL]
    apply Array.ext
    · simp [hsz]; omega
    · intro i hi hi2
      rcases Nat.lt_or_ge i n with hin | hin
      · have := h1 i hin
        simp only [Array.getD_eq_getD_getElem?, Array.getElem?_eq_getElem hi, Option.getD_some] at this
        rw [this, Array.getElem_append_left (by simpa using hin)]
        simp
      · have := h2 i hin (by omega)
        simp only [Array.getD_eq_getD_getElem?, Array.getElem?_eq_getElem hi, Option.getD_some] at this
        rw [this, Array.getElem_append_right (by simpa using hin)]
        simp
  rw [this]
  exact wpAny_of_held _ _ _ _ (h k)
theorem lateQ_panic {c : _} {a : Act} {w : World} (h : LateQ P md ops n (NoPanic Q) (.panic c) a w) : False := h.2 (by simp)
end
end Go.Proofs.Ytedmnlfbmmlcbaa

/- Layer 46: what an encoder's tree asks: two rows that grow in one statement. -/
namespace Go.Proofs.Ytedmnlfbmmlcbaa
open Go.ChangeShapes Go.WideShapes Go.ChangeAt Go.RowKit
set_option linter.unusedVariables false
set_option linter.unusedSimpArgs false
set_option maxRecDepth 100000
open Range
/-- append of one cell to a row of the call's own, as a step of a region that draws: what stays. -/
theorem step_grow {P : Program} {α : Type} {f : α → List Value} {E ST bytes : Nat} {z0 : Value} (hE : (P.info? E).map (fun i => (i.zero, i.size, i.bytes)) = some (some z0, 1, bytes)) (hz0 : z0.cells.size = 1) (hby : bytes ≤ 64) (hST : P.underlying ST = some (.slice E)) (hf : Flat f 1)
    {ops : Array Oper} {o : Oper} {a : Act} {W : World} {K : Act → World → Prop} {Q : Exit → Act → World → Prop} {R : Prop} (hgd : o.guard = none) (s x : Operand)
    (ho : o.op = .call { callee := .builtin .append, args := #[s, x], argTypes := #[ST, ST] })
    (B : Nat) (v : Value) (l : List α) (c : α) (u : Value) (hu : f c = [u]) (hs : a.eval s = v) (hown : OwnS f E 1 B W v l) (g c1 : Nat) (hx : a.eval x = .slice (some ⟨g, 0, none⟩) 1 c1) (T : TypeId) (hcell : W.heap[g]? = some (.cells #[u] T (0, 0))) (hl : l.length ≤ 1099511627776) (hB : B ≤ W.heap.size)
    (h : ∀ v' w', OwnS f E 1 B w' v' (l ++ [c]) → W.grownBy w' v.ownBlock → (v'.ownBlock = v.ownBlock ∨ v'.ownBlock = some W.heap.size) → K (a.put o.dst v') w') :
    if Region.wanted o (yielded ops a.tmps) = true then Oper.wp P o a W K Q else R := by
  obtain ⟨i0, hi, h1, h2, h3⟩ := info_get hE
  have hone : u.oneCell' = true := (hf c).2 u (by rw [hu]; simp)
  have hlen := flat_len hf l
  refine step_append_at hgd s x ST ho B E i0 z0 bytes hST hi h1 h2 h3 hz0 v l.length (l.flatMap f) hs hown ⟨g, 0, none⟩ 1 c1 [u] hx rfl ?_ (by intro y hy; simp at hy; subst hy; exact hone) (by unfold maxLen; omega) ?_ hB (by decide) ?_
  · refine cells_of (fun j hj => ?_)
    match j, hj with
    | 0, _ => rw [cell_in hcell]; rfl
  · have : (l.length + 1) * bytes ≤ (l.length + 1) * 64 := Nat.mul_le_mul_left _ hby
    omega
  · intro k cap w' ho' hg' hk
    have e : (l ++ [c]).flatMap f = l.flatMap f ++ [u] := by rw [List.flatMap_append]; simp [hu]
    refine h _ w' ?_ hg' ?_
    · unfold OwnS; rw [e, List.length_append]; exact ho'
    · rcases hk with hk | hk
      · exact .inl (by rw [hk]; rfl)
      · exact .inr (by rw [hk]; rfl)
/-- The boxes of a closure that tells bits: how many are left, the rows, the number. -/
structure EB (w : World) (B gk gb gx gp k x : Nat) (vb vp : Value) (bl : List Bool) (pl : List Int) : Prop where
  bk : w.heap[gk]? = some (.cells #[.int .i64 k] 3 (0, 0))
  bb : w.heap[gb]? = some (.cells #[vb] 54 (0, 0))
  bx : w.heap[gx]? = some (.cells #[.int .i64 x] 3 (0, 0))
  bp : w.heap[gp]? = some (.cells #[vp] 29 (0, 0))
  rb : OwnB B w vb bl
  rp : OwnI B w vp pl
  kx : gk ≠ gx
  pk : vp.ownBlock ≠ some gk
  px : vp.ownBlock ≠ some gx
  Bk : B ≤ gk
  Bb : B ≤ gb
  Bx : B ≤ gx
  Bp : B ≤ gp
def ebFeet (gk gb gp : Nat) (vb vp : Value) : Nat → Prop := fun j => j = gk ∨ j = gb ∨ j = gp ∨ vb.ownBlock = some j ∨ vp.ownBlock = some j
theorem block_ne {w : World} {g h : Nat} {C D : Array Value} {t u : TypeId} {p q : Nat × Nat} (h1 : w.heap[g]? = some (.cells C t p)) (h2 : w.heap[h]? = some (.cells D u q)) (hne : t ≠ u) : g ≠ h := by
  rintro rfl; rw [h1] at h2; injection h2 with h2; injection h2 with _ h2 _; exact hne h2
/-- In the midst of a statement that lets both rows grow. -/
structure M2 (W w' : World) (B gk gb gx gp k x : Nat) (vb vp ub up : Value) (bl : List Bool) (pl : List Int) : Prop where
  bk : w'.heap[gk]? = some (.cells #[.int .i64 k] 3 (0, 0))
  bb : w'.heap[gb]? = some (.cells #[vb] 54 (0, 0))
  bx : w'.heap[gx]? = some (.cells #[.int .i64 x] 3 (0, 0))
  bp : w'.heap[gp]? = some (.cells #[vp] 29 (0, 0))
  rb : OwnB B w' ub bl
  rp : OwnI B w' up pl
  pk : up.ownBlock ≠ some gk
  px : up.ownBlock ≠ some gx
  kp : Keeps (ebFeet gk gb gp vb vp) W w'
  nb : ub.ownBlock = vb.ownBlock ∨ ∃ j, ub.ownBlock = some j ∧ W.heap.size ≤ j
  np : up.ownBlock = vp.ownBlock ∨ ∃ j, up.ownBlock = some j ∧ W.heap.size ≤ j
section
variable {W w' w2 : World} {B gk gb gx gp k x : Nat} {vb vp ub up u2 : Value} {bl bl2 : List Bool} {pl pl2 : List Int}
theorem M2.alloc (h : M2 W w' B gk gb gx gp k x vb vp ub up bl pl) (o : Obj) : M2 W (w'.alloc o) B gk gb gx gp k x vb vp ub up bl pl :=
  ⟨heap_old h.bk _, heap_old h.bb _, heap_old h.bx _, heap_old h.bp _, h.rb.alloc _, h.rp.alloc _, h.pk, h.px, h.kp.alloc _, h.nb, h.np⟩
theorem M2.drew (h : M2 W w' B gk gb gx gp k x vb vp ub up bl pl) : M2 W w'.drew B gk gb gx gp k x vb vp ub up bl pl :=
  ⟨h.bk, h.bb, h.bx, h.bp, h.rb, h.rp, h.pk, h.px, h.kp.drew, h.nb, h.np⟩
theorem M2.kept (h : M2 W w' B gk gb gx gp k x vb vp ub up bl pl) (hb : Below w'.heap.size w' w2) : M2 W w2 B gk gb gx gp k x vb vp ub up bl pl :=
  ⟨(hb.block _ (block_lt h.bk)).trans h.bk, (hb.block _ (block_lt h.bb)).trans h.bb, (hb.block _ (block_lt h.bx)).trans h.bx, (hb.block _ (block_lt h.bp)).trans h.bp, OwnS.kept h.rb hb, OwnS.kept h.rp hb, h.pk, h.px, h.kp.trans (Keeps.of_below hb), h.nb, h.np⟩
theorem M2.growB (h : M2 W w' B gk gb gx gp k x vb vp ub up bl pl) (hg : w'.grownBy w2 ub.ownBlock) (ho : OwnB B w2 u2 bl2) (hv : u2.ownBlock = ub.ownBlock ∨ u2.ownBlock = some w'.heap.size) : M2 W w2 B gk gb gx gp k x vb vp u2 up bl2 pl := by
  refine ⟨grown_heap hg h.bk (own_ne h.rb h.bk (by decide)), grown_heap hg h.bb (own_ne h.rb h.bb (by decide)), grown_heap hg h.bx (own_ne h.rb h.bx (by decide)), grown_heap hg h.bp (own_ne h.rb h.bp (by decide)), ho, OwnS.grown h.rp hg (own_apart h.rp h.rb (by decide)), h.pk, h.px, h.kp.grown hg (fun j hj => ?_), ?_, h.np⟩
  · rcases h.nb with e | ⟨q, e, hq⟩
    · exact .inr (.inr (.inr (.inr (.inl (by rw [← e]; exact hj)))))
    · rw [e] at hj; injection hj with hj; exact .inl (by omega)
  · rcases hv with e | e
    · rw [e]; exact h.nb
    · exact .inr ⟨_, e, h.kp.size⟩
theorem M2.growI (h : M2 W w' B gk gb gx gp k x vb vp ub up bl pl) (hg : w'.grownBy w2 up.ownBlock) (ho : OwnI B w2 u2 pl2) (hv : u2.ownBlock = up.ownBlock ∨ u2.ownBlock = some w'.heap.size) : M2 W w2 B gk gb gx gp k x vb vp ub u2 bl pl2 := by
  have lk := block_lt h.bk
  have lx := block_lt h.bx
  refine ⟨grown_heap hg h.bk h.pk, grown_heap hg h.bb (own_ne h.rp h.bb (by decide)), grown_heap hg h.bx h.px, grown_heap hg h.bp (own_ne h.rp h.bp (by decide)), OwnS.grown h.rb hg (own_apart h.rb h.rp (by decide)), ho, ?_, ?_, h.kp.grown hg (fun j hj => ?_), h.nb, ?_⟩
  · rcases hv with e | e
    · rw [e]; exact h.pk
    · rw [e]; intro q; injection q with q; omega
  · rcases hv with e | e
    · rw [e]; exact h.px
    · rw [e]; intro q; injection q with q; omega
  · rcases h.np with e | ⟨q, e, hq⟩
    · exact .inr (.inr (.inr (.inr (.inr (by rw [← e]; exact hj)))))
    · rw [e] at hj; injection hj with hj; exact .inl (by omega)
  · rcases hv with e | e
    · rw [e]; exact h.np
    · exact .inr ⟨_, e, h.kp.size⟩
theorem M2.cells (h : M2 W w' B gk gb gx gp k x vb vp ub up bl pl) : w'.cell? ⟨gk, 0, none⟩ = some (.int .i64 k) ∧ w'.cell? ⟨gx, 0, none⟩ = some (.int .i64 x) ∧ w'.cell? ⟨gb, 0, none⟩ = some vb ∧ w'.cell? ⟨gp, 0, none⟩ = some vp := ⟨cell_lit h.bk 0 _ rfl, cell_lit h.bx 0 _ rfl, cell_lit h.bb 0 _ rfl, cell_lit h.bp 0 _ rfl⟩
theorem heap_two (w : World) (a b : Obj) : ((w.alloc a).alloc b).heap[w.heap.size + 1]? = some b := by
  have := heap_alloc_new (w.alloc a) b
  simpa using this
theorem M2.done (h : M2 W w' B gk gb gx gp k x vb vp ub up bl pl) (hkx : gk ≠ gx) (h1 : B ≤ gk) (h2 : B ≤ gb) (h3 : B ≤ gx) (h4 : B ≤ gp) :
    EB ((w'.setCell ⟨gb, 0, none⟩ ub).setCell ⟨gp, 0, none⟩ up) B gk gb gx gp k x ub up bl pl ∧ Keeps (ebFeet gk gb gp vb vp) W ((w'.setCell ⟨gb, 0, none⟩ ub).setCell ⟨gp, 0, none⟩ up) := by
  have hk : Keeps (fun j => j = gb ∨ j = gp) w' ((w'.setCell ⟨gb, 0, none⟩ ub).setCell ⟨gp, 0, none⟩ up) := ((Keeps.refl _ w').setCell (p := ⟨gb, 0, none⟩) (.inr (.inl rfl)) _).setCell (p := ⟨gp, 0, none⟩) (.inr (.inr rfl)) _
  have nbp : gb ≠ gp := block_ne h.bb h.bp (by decide)
  refine ⟨⟨hk.heap h.bk ?_, ?_, hk.heap h.bx ?_, ?_, hk.ownsRow h.rb ?_, hk.ownsRow h.rp ?_, hkx, h.pk, h.px, h1, h2, h3, h4⟩, (h.kp.setCell (p := ⟨gb, 0, none⟩) (.inr (.inr (.inl rfl))) _).setCell (p := ⟨gp, 0, none⟩) (.inr (.inr (.inr (.inl rfl)))) _⟩
  · rintro (e | e)
    · exact block_ne h.bk h.bb (by decide) e
    · exact block_ne h.bk h.bp (by decide) e
  · exact (Below.heap_setCell _ _ _ _ nbp).trans (block_set h.bb 0 ub)
  · rintro (e | e)
    · exact block_ne h.bx h.bb (by decide) e
    · exact block_ne h.bx h.bp (by decide) e
  · exact block_set ((Below.heap_setCell _ _ _ _ nbp.symm).trans h.bp) 0 up
  · rintro j hj (e | e)
    · exact own_ne h.rb h.bb (by decide) (by rw [hj, e])
    · exact own_ne h.rb h.bp (by decide) (by rw [hj, e])
  · rintro j hj (e | e)
    · exact own_ne h.rp h.bb (by decide) (by rw [hj, e])
    · exact own_ne h.rp h.bp (by decide) (by rw [hj, e])
end
set_option maxHeartbeats 3200000 in
theorem tAskE (w : World) (B gk gb gx gp k x : Nat) (vb vp : Value) (bl : List Bool) (pl : List Int) (Z : Int) (h : EB w B gk gb gx gp (k + 1) x vb vp bl pl) (hB : B ≤ w.heap.size) (hk : k ≤ 16) (hx : x ≤ 1000000) (hbl : bl.length ≤ 1000000) (hpl : pl.length ≤ 1000000) :
    Calls Try.prog 31 #[.int .i64 Z, .pointer (some ⟨gk, 0, none⟩), .pointer (some ⟨gb, 0, none⟩), .pointer (some ⟨gx, 0, none⟩), .pointer (some ⟨gp, 0, none⟩)] w fun e w' => ∃ vb' vp', e = .returned (.bool (bitK x k)) ∧ EB w' B gk gb gx gp k x vb' vp' (bl ++ [bitK x k]) (pl ++ [Z]) ∧ Keeps (ebFeet gk gb gp vb vp) w w' ∧
      (vp'.ownBlock = vp.ownBlock ∨ ∃ j, vp'.ownBlock = some j ∧ w.heap.size ≤ j) := by
  have HH := Lib.hid h
  have c1 := cell_lit h.bk 0 _ rfl
  have c2 := cell_lit h.bb 0 _ rfl
  have c3 := cell_lit h.bx 0 _ rfl
  have c4 := cell_lit h.bp 0 _ rfl
  have f1 := free_in h.bk 0
  have f2 := free_in h.bb 0
  have f4 := free_in h.bp 0
  clear h
  go_enter Try.func31, Try.ntmps31
  go_wp2_with fail
  obtain ⟨W, hW⟩ : ∃ W, w.setCell ⟨gk, 0, none⟩ (.int .i64 (k : Int)) = W := ⟨_, rfl⟩
  have HE : EB W B gk gb gx gp k x vb vp bl pl := by
    have e := HH.out
    have hkk : Keeps (fun j => j = gk) w W := by rw [← hW]; exact (Keeps.refl (fun j => j = gk) w).setCell (p := ⟨gk, 0, none⟩) (.inr rfl) _
    refine ⟨by rw [← hW]; exact block_set e.bk 0 _, hkk.heap e.bb (block_ne e.bb e.bk (by decide)), hkk.heap e.bx e.kx.symm, hkk.heap e.bp (block_ne e.bp e.bk (by decide)), hkk.ownsRow e.rb (fun j hj q => own_ne e.rb e.bk (by decide) (by rw [hj, q])), hkk.ownsRow e.rp (fun j hj q => e.pk (by rw [hj, q])), e.kx, e.pk, e.px, e.Bk, e.Bb, e.Bx, e.Bp⟩
  have hK : Keeps (ebFeet gk gb gp vb vp) w W := by rw [← hW]; exact (Keeps.refl _ w).setCell (p := ⟨gk, 0, none⟩) (.inr (.inl rfl)) _
  have hsz : W.heap.size = w.heap.size := by rw [← hW]; simp
  rw [hW]
  have HK := Lib.hid hK
  have HE' := Lib.hid HE
  have HSZ := Lib.hid hsz
  clear hW c1 c2 c3 c4 f1 f2 f4 hK hsz
  have c1 := cell_lit HE.bk 0 _ rfl
  have c2 := cell_lit HE.bb 0 _ rfl
  have c3 := cell_lit HE.bx 0 _ rfl
  have c4 := cell_lit HE.bp 0 _ rfl
  have f2 := free_in HE.bb 0
  have f4 := free_in HE.bp 0
  clear HE
  go_cut [] from 7 to 27 (fun wx => ∃ vb' vp', EB wx B gk gb gx gp k x vb' vp' (bl ++ [bitK x k]) (pl ++ [Z]) ∧ Keeps (ebFeet gk gb gp vb vp) w wx ∧ (vp'.ownBlock = vp.ownBlock ∨ ∃ j, vp'.ownBlock = some j ∧ w.heap.size ≤ j))
  case first =>
    have nkb : gk ≠ gb := block_ne HE'.out.bk HE'.out.bb (by decide)
    have nkp : gk ≠ gp := block_ne HE'.out.bk HE'.out.bp (by decide)
    have nxb : gx ≠ gb := block_ne HE'.out.bx HE'.out.bb (by decide)
    have nxp : gx ≠ gp := block_ne HE'.out.bx HE'.out.bp (by decide)
    have nbp : gb ≠ gp := block_ne HE'.out.bb HE'.out.bp (by decide)
    have npb : gp ≠ gb := nbp.symm
    have m : M2 w W B gk gb gx gp k x vb vp vb vp bl pl := ⟨HE'.out.bk, HE'.out.bb, HE'.out.bx, HE'.out.bp, HE'.out.rb, HE'.out.rp, HE'.out.pk, HE'.out.px, HK.out, .inl rfl, .inl rfl⟩
    have l1 := block_lt m.bk
    have l2 := block_lt m.bb
    have l3 := block_lt m.bx
    have l4 := block_lt m.bp
    obtain ⟨BV, hBV⟩ : ∃ BV, (bits .and .i64 ((x : Int) / 2 ^ k) 1 == 1) = BV := ⟨_, rfl⟩
    have HDE : Hid ((8 : Nat) ≤ 64 ∧ (1 : Nat) ≤ 64) := Lib.hid ⟨by decide, by decide⟩
    have HBI : Hid ((4 : Nat) ≠ 3) := Lib.hid (by decide)
    have HIB : Hid ((3 : Nat) ≠ 4) := Lib.hid (by decide)
    have HLB := Lib.hid (show bl.length ≤ 1099511627776 by omega)
    have HLI := Lib.hid (show pl.length ≤ 1099511627776 by omega)
    have HBW := Lib.hid hB
    have HBV := Lib.hid (hBV.symm.trans (and1 x k hx))
    refine wp_region_noPanic ?_
    refine wp_region_late 12 (fun w1 => w1.cell? ⟨gk, 0, none⟩ = some (.int .i64 k) ∧ w1.cell? ⟨gx, 0, none⟩ = some (.int .i64 x) ∧ w1.cell? ⟨gb, 0, none⟩ = some vb ∧ w1.cell? ⟨gp, 0, none⟩ = some vp) (by kernel_rfl) (by kernel_rfl) #[false, false, false, false, false, false, false, false, false, false, false, false, true, true] (by kernel_rfl) (M2.cells m.drew) (fun hHeld => ?_)
    have m := m.drew
    refine wpAnyH_take (i := 1) (oi := { dst := some 10, op := Op.load 3 (Operand.tmp 3), type := 3, pos := "bittree.go:58", after := #[], guard := none }) (v := ?_) rfl (by kernel_rfl) (by kernel_rfl) (by kernel_rfl) (fun c a w h => (lateQ_panic h).elim) (Or.inl ⟨by rfl, ?_⟩) hHeld ?_
    rotate_left
    · (intro w hSw; (try dsimp only at hSw); go_simp; first | done | with_reducible rfl)
    simp only [Act.put, List.setIfInBounds_toArray, List.set_cons_zero, List.set_cons_succ]
    refine wpAnyH_take (i := 2) (oi := { dst := some 11, op := Op.load 3 (Operand.tmp 1), type := 3, pos := "bittree.go:58", after := #[], guard := none }) (v := ?_) rfl (by kernel_rfl) (by kernel_rfl) (by kernel_rfl) (fun c a w h => (lateQ_panic h).elim) (Or.inl ⟨by rfl, ?_⟩) hHeld ?_
    rotate_left
    · (intro w hSw; (try dsimp only at hSw); go_simp; first | done | with_reducible rfl)
    simp only [Act.put, List.setIfInBounds_toArray, List.set_cons_zero, List.set_cons_succ]
    refine wpAnyH_take (i := 3) (oi := { dst := some 12, op := Op.binOp BinOp.shr 3 (Operand.tmp 10) (Operand.tmp 11) 3, type := 3, pos := "bittree.go:58", after := #[{ on := 1, ground := Ground.data }, { on := 2, ground := Ground.data }], guard := none }) (v := ?_) rfl (by kernel_rfl) (by kernel_rfl) (by kernel_rfl) (fun c a w h => (lateQ_panic h).elim) (Or.inl ⟨by rfl, ?_⟩) hHeld ?_
    rotate_left
    · (intro w hSw; (try dsimp only at hSw); go_simp; first | done | with_reducible rfl)
    simp only [Act.put, List.setIfInBounds_toArray, List.set_cons_zero, List.set_cons_succ]
    refine wpAnyH_take (i := 4) (oi := { dst := some 13, op := Op.binOp BinOp.and 3 (Operand.tmp 12) (Operand.const (Value.int IntKind.i64 1)) 3, type := 3, pos := "bittree.go:58", after := #[{ on := 3, ground := Ground.data }], guard := none }) (v := ?_) rfl (by kernel_rfl) (by kernel_rfl) (by kernel_rfl) (fun c a w h => (lateQ_panic h).elim) (Or.inl ⟨by rfl, ?_⟩) hHeld ?_
    rotate_left
    · (intro w hSw; (try dsimp only at hSw); go_simp; first | done | with_reducible rfl)
    simp only [Act.put, List.setIfInBounds_toArray, List.set_cons_zero, List.set_cons_succ]
    refine wpAnyH_take (i := 5) (oi := { dst := some 14, op := Op.binOp BinOp.eql 3 (Operand.tmp 13) (Operand.const (Value.int IntKind.i64 1)) 3, type := 4, pos := "bittree.go:58", after := #[{ on := 4, ground := Ground.data }], guard := none }) (v := ?_) rfl (by kernel_rfl) (by kernel_rfl) (by kernel_rfl) (fun c a w h => (lateQ_panic h).elim) (Or.inl ⟨by rfl, ?_⟩) hHeld ?_
    rotate_left
    · (intro w hSw; (try dsimp only at hSw); go_simp; first | done | with_reducible rfl)
    simp only [Act.put, List.setIfInBounds_toArray, List.set_cons_zero, List.set_cons_succ]
    refine wpAnyH_take (i := 9) (oi := { dst := some 18, op := Op.move (Operand.tmp 0), type := 3, pos := "bittree.go:58", after := #[], guard := none }) (v := ?_) rfl (by kernel_rfl) (by kernel_rfl) (by kernel_rfl) (fun c a w h => (lateQ_panic h).elim) (Or.inl ⟨by rfl, ?_⟩) hHeld ?_
    rotate_left
    · (intro w hSw; (try dsimp only at hSw); go_simp; first | done | with_reducible rfl)
    simp only [Act.put, List.setIfInBounds_toArray, List.set_cons_zero, List.set_cons_succ]
    refine wpAnyH_take (i := 0) (oi := { dst := some 9, op := Op.load 54 (Operand.tmp 2), type := 54, pos := "bittree.go:58", after := #[], guard := none }) (v := ?_) rfl (by kernel_rfl) (by kernel_rfl) (by kernel_rfl) (fun c a w h => (lateQ_panic h).elim) (Or.inl ⟨by rfl, ?_⟩) hHeld ?_
    rotate_left
    · (intro w hSw; (try dsimp only at hSw); go_simp; first | done | with_reducible rfl)
    simp only [Act.put, List.setIfInBounds_toArray, List.set_cons_zero, List.set_cons_succ]
    refine wpAnyH_take (i := 8) (oi := { dst := some 17, op := Op.load 29 (Operand.tmp 4), type := 29, pos := "bittree.go:58", after := #[], guard := none }) (v := ?_) rfl (by kernel_rfl) (by kernel_rfl) (by kernel_rfl) (fun c a w h => (lateQ_panic h).elim) (Or.inl ⟨by rfl, ?_⟩) hHeld ?_
    rotate_left
    · (intro w hSw; (try dsimp only at hSw); go_simp; first | done | with_reducible rfl)
    simp only [Act.put, List.setIfInBounds_toArray, List.set_cons_zero, List.set_cons_succ]
    refine wpAnyH_ready (rs := [6, 10]) (by kernel_rfl) (by simp) ?_
    refine AllReadyH.cons (o := { dst := some 15, op := Op.buildSlice 54 1 #[(0, Operand.tmp 14)], type := 54, pos := "bittree.go:58", after := #[{ on := 5, ground := Ground.data }], guard := none }) rfl (fun K hK => ?_) ?_
    · go_simp
      refine hK.out _ _ (M2.cells (m.alloc _)) (fun hHeld => ?_)
      have m := m.alloc (.cells #[.bool BV] 4)
      clear hK K
      simp only [Act.put, List.setIfInBounds_toArray, List.set_cons_zero, List.set_cons_succ]
      refine wpAnyH_ready (rs := [7, 10]) (by kernel_rfl) (by simp) ?_
      refine AllReadyH.cons (o := { dst := some 16, op := Op.call { callee := Callee.builtin Builtin.append, args := #[Operand.tmp 9, Operand.tmp 15], argTypes := #[54, 54] }, type := 54, pos := "bittree.go:58", after := #[{ on := 0, ground := Ground.data }, { on := 6, ground := Ground.data }], guard := none }) rfl (fun K hK => ?_) ?_
      · refine step_grow (P := Try.prog) (f := fB) info_bool rfl HDE.out.2 Try.underlying54 flatB rfl (Operand.tmp 9) (Operand.tmp 15) ?_ B vb bl BV (.bool BV) rfl ?_ ?_ (W.heap.size) 1 ?_ 4 ?_ HLB.out ?_ ?_
        · rfl
        · rfl
        · exact m.rb
        · rfl
        · exact (heap_alloc_new _ _)
        · exact Nat.le_trans HBW.out m.kp.size
        intro u1 w1 ho1 hg1 hv1
        refine hK.out _ _ (M2.cells (m.growB hg1 ho1 hv1)) (fun hHeld => ?_)
        have m := m.growB hg1 ho1 hv1
        clear hK K
        simp only [Act.put, List.setIfInBounds_toArray, List.set_cons_zero, List.set_cons_succ]
        refine wpAnyH_ready (rs := [10]) (by kernel_rfl) (by simp) ?_
        refine AllReadyH.cons (o := { dst := some 19, op := Op.buildSlice 29 1 #[(0, Operand.tmp 18)], type := 29, pos := "bittree.go:58", after := #[{ on := 9, ground := Ground.data }], guard := none }) rfl (fun K hK => ?_) ?_
        · go_simp
          refine hK.out _ _ (M2.cells (m.alloc _)) (fun hHeld => ?_)
          have m := m.alloc (.cells #[.int .i64 Z] 3)
          clear hK K
          simp only [Act.put, List.setIfInBounds_toArray, List.set_cons_zero, List.set_cons_succ]
          refine wpAnyH_ready (rs := [11]) (by kernel_rfl) (by simp) ?_
          refine AllReadyH.cons (o := { dst := some 20, op := Op.call { callee := Callee.builtin Builtin.append, args := #[Operand.tmp 17, Operand.tmp 19], argTypes := #[29, 29] }, type := 29, pos := "bittree.go:58", after := #[{ on := 8, ground := Ground.data }, { on := 10, ground := Ground.data }, { on := 7, ground := Ground.chain }], guard := none }) rfl (fun K hK => ?_) ?_
          · refine step_grow (P := Try.prog) (f := fI) info_int rfl HDE.out.1 Try.underlying29 flatI rfl (Operand.tmp 17) (Operand.tmp 19) ?_ B vp pl Z (.int .i64 Z) rfl ?_ ?_ (w1.heap.size) 1 ?_ 3 ?_ HLI.out ?_ ?_
            · rfl
            · rfl
            · exact m.rp
            · rfl
            · exact (heap_alloc_new _ _)
            · exact Nat.le_trans HBW.out m.kp.size
            intro u2 w2 ho2 hg2 hv2
            refine hK.out _ _ (M2.cells (m.growI hg2 ho2 hv2)) (fun hHeld => ?_)
            have m := m.growI hg2 ho2 hv2
            clear hK K
            simp only [Act.put, List.setIfInBounds_toArray, List.set_cons_zero, List.set_cons_succ]
            refine wpAnyH_done (by kernel_rfl) ?_ _
            refine lateQ_normal 2 (by kernel_rfl) #[true, true, true, true, true, true, true, true, true, true, true, true, false, false] (by kernel_rfl) (fun k => ?_)
            obtain ⟨a1, d1, rfl⟩ := own_slice m.rb
            obtain ⟨a2, d2, rfl⟩ := own_slice m.rp
            have c2 := cell_lit m.bb 0 _ rfl
            have c4 := cell_lit m.bp 0 _ rfl
            have f2 := free_in m.bb 0
            have f4 := free_in m.bp 0
            refine wpAnyH_ready (rs := [12]) (by kernel_rfl) (by simp) ?_
            refine AllReadyH.cons (o := { dst := none, op := Op.store 54 (Operand.tmp 2) (Operand.tmp 16), type := 0, pos := "bittree.go:58", after := #[{ on := 7, ground := Ground.data }, { on := 11, ground := Ground.chain }, { on := 0, ground := Ground.phase }, { on := 1, ground := Ground.phase }, { on := 2, ground := Ground.phase }, { on := 3, ground := Ground.phase }, { on := 4, ground := Ground.phase }, { on := 5, ground := Ground.phase }, { on := 6, ground := Ground.phase }, { on := 7, ground := Ground.phase }, { on := 8, ground := Ground.phase }, { on := 9, ground := Ground.textOnly Departure.lateStores }, { on := 10, ground := Ground.textOnly Departure.lateStoresUnsure }, { on := 11, ground := Ground.phase }], guard := none }) rfl (fun K hK => ?_) AllReadyH.nil
            go_simp
            refine hK.out _ _ trivial (fun _ => ?_)
            clear hK K
            simp only [Act.put, List.setIfInBounds_toArray, List.set_cons_zero, List.set_cons_succ]
            refine wpAnyH_ready (rs := [13]) (by kernel_rfl) (by simp) ?_
            refine AllReadyH.cons (o := { dst := none, op := Op.store 29 (Operand.tmp 4) (Operand.tmp 20), type := 0, pos := "bittree.go:58", after := #[{ on := 11, ground := Ground.data }, { on := 12, ground := Ground.chain }, { on := 0, ground := Ground.phase }, { on := 1, ground := Ground.phase }, { on := 2, ground := Ground.phase }, { on := 3, ground := Ground.phase }, { on := 4, ground := Ground.phase }, { on := 5, ground := Ground.phase }, { on := 6, ground := Ground.phase }, { on := 7, ground := Ground.phase }, { on := 8, ground := Ground.phase }, { on := 9, ground := Ground.phase }, { on := 10, ground := Ground.phase }, { on := 11, ground := Ground.phase }, { on := 12, ground := Ground.phase }], guard := none }) rfl (fun K hK => ?_) AllReadyH.nil
            go_simp
            refine hK.out _ _ trivial (fun _ => ?_)
            clear hK K
            simp only [Act.put, List.setIfInBounds_toArray, List.set_cons_zero, List.set_cons_succ]
            refine wpAnyH_done (by kernel_rfl) ?_ _
            refine NoPanic.normal ?_
            have e1 : (bl ++ [BV]).length = bl.length + 1 := by simp
            have e2 : (pl ++ [Z]).length = pl.length + 1 := by simp
            have d := M2.done m HE'.out.kx HE'.out.Bk HE'.out.Bb HE'.out.Bx HE'.out.Bp
            have np := m.np
            rw [e1, e2] at d
            rw [e2] at np
            have HD := Lib.hid d
            have HNP := Lib.hid np
            clear d np e1 e2
            go_wp2_with fail
            go_meet
            case rel => exact ⟨_, _, by rw [← HBV.out]; exact HD.out.1, HD.out.2, HNP.out⟩
          exact AllReadyH.nil
        exact AllReadyH.nil
      refine AllReadyH.cons (o := { dst := some 19, op := Op.buildSlice 29 1 #[(0, Operand.tmp 18)], type := 29, pos := "bittree.go:58", after := #[{ on := 9, ground := Ground.data }], guard := none }) rfl (fun K hK => ?_) ?_
      · go_simp
        refine hK.out _ _ (M2.cells (m.alloc _)) (fun hHeld => ?_)
        have m := m.alloc (.cells #[.int .i64 Z] 3)
        clear hK K
        simp only [Act.put, List.setIfInBounds_toArray, List.set_cons_zero, List.set_cons_succ]
        refine wpAnyH_ready (rs := [7]) (by kernel_rfl) (by simp) ?_
        refine AllReadyH.cons (o := { dst := some 16, op := Op.call { callee := Callee.builtin Builtin.append, args := #[Operand.tmp 9, Operand.tmp 15], argTypes := #[54, 54] }, type := 54, pos := "bittree.go:58", after := #[{ on := 0, ground := Ground.data }, { on := 6, ground := Ground.data }], guard := none }) rfl (fun K hK => ?_) ?_
        · refine step_grow (P := Try.prog) (f := fB) info_bool rfl HDE.out.2 Try.underlying54 flatB rfl (Operand.tmp 9) (Operand.tmp 15) ?_ B vb bl BV (.bool BV) rfl ?_ ?_ (W.heap.size) 1 ?_ 4 ?_ HLB.out ?_ ?_
          · rfl
          · rfl
          · exact m.rb
          · rfl
          · exact (heap_old (heap_alloc_new _ _) _)
          · exact Nat.le_trans HBW.out m.kp.size
          intro u3 w3 ho3 hg3 hv3
          refine hK.out _ _ (M2.cells (m.growB hg3 ho3 hv3)) (fun hHeld => ?_)
          have hc := grown_heap hg3 (heap_two W.drew (.cells #[.bool BV] 4) (.cells #[.int .i64 Z] 3)) (own_ne m.rb (heap_two W.drew (.cells #[.bool BV] 4) (.cells #[.int .i64 Z] 3)) HBI.out)
          have m := m.growB hg3 ho3 hv3
          clear hK K
          simp only [Act.put, List.setIfInBounds_toArray, List.set_cons_zero, List.set_cons_succ]
          refine wpAnyH_ready (rs := [11]) (by kernel_rfl) (by simp) ?_
          refine AllReadyH.cons (o := { dst := some 20, op := Op.call { callee := Callee.builtin Builtin.append, args := #[Operand.tmp 17, Operand.tmp 19], argTypes := #[29, 29] }, type := 29, pos := "bittree.go:58", after := #[{ on := 8, ground := Ground.data }, { on := 10, ground := Ground.data }, { on := 7, ground := Ground.chain }], guard := none }) rfl (fun K hK => ?_) ?_
          · refine step_grow (P := Try.prog) (f := fI) info_int rfl HDE.out.1 Try.underlying29 flatI rfl (Operand.tmp 17) (Operand.tmp 19) ?_ B vp pl Z (.int .i64 Z) rfl ?_ ?_ (W.heap.size + 1) 1 ?_ 3 ?_ HLI.out ?_ ?_
            · rfl
            · rfl
            · exact m.rp
            · rfl
            · exact hc
            · exact Nat.le_trans HBW.out m.kp.size
            intro u4 w4 ho4 hg4 hv4
            refine hK.out _ _ (M2.cells (m.growI hg4 ho4 hv4)) (fun hHeld => ?_)
            have m := m.growI hg4 ho4 hv4
            clear hK K
            simp only [Act.put, List.setIfInBounds_toArray, List.set_cons_zero, List.set_cons_succ]
            refine wpAnyH_done (by kernel_rfl) ?_ _
            refine lateQ_normal 2 (by kernel_rfl) #[true, true, true, true, true, true, true, true, true, true, true, true, false, false] (by kernel_rfl) (fun k => ?_)
            obtain ⟨a1, d1, rfl⟩ := own_slice m.rb
            obtain ⟨a2, d2, rfl⟩ := own_slice m.rp
            have c2 := cell_lit m.bb 0 _ rfl
            have c4 := cell_lit m.bp 0 _ rfl
            have f2 := free_in m.bb 0
            have f4 := free_in m.bp 0
            refine wpAnyH_ready (rs := [12]) (by kernel_rfl) (by simp) ?_
            refine AllReadyH.cons (o := { dst := none, op := Op.store 54 (Operand.tmp 2) (Operand.tmp 16), type := 0, pos := "bittree.go:58", after := #[{ on := 7, ground := Ground.data }, { on := 11, ground := Ground.chain }, { on := 0, ground := Ground.phase }, { on := 1, ground := Ground.phase }, { on := 2, ground := Ground.phase }, { on := 3, ground := Ground.phase }, { on := 4, ground := Ground.phase }, { on := 5, ground := Ground.phase }, { on := 6, ground := Ground.phase }, { on := 7, ground := Ground.phase }, { on := 8, ground := Ground.phase }, { on := 9, ground := Ground.textOnly Departure.lateStores }, { on := 10, ground := Ground.textOnly Departure.lateStoresUnsure }, { on := 11, ground := Ground.phase }], guard := none }) rfl (fun K hK => ?_) AllReadyH.nil
            go_simp
            refine hK.out _ _ trivial (fun _ => ?_)
            clear hK K
            simp only [Act.put, List.setIfInBounds_toArray, List.set_cons_zero, List.set_cons_succ]
            refine wpAnyH_ready (rs := [13]) (by kernel_rfl) (by simp) ?_
            refine AllReadyH.cons (o := { dst := none, op := Op.store 29 (Operand.tmp 4) (Operand.tmp 20), type := 0, pos := "bittree.go:58", after := #[{ on := 11, ground := Ground.data }, { on := 12, ground := Ground.chain }, { on := 0, ground := Ground.phase }, { on := 1, ground := Ground.phase }, { on := 2, ground := Ground.phase }, { on := 3, ground := Ground.phase }, { on := 4, ground := Ground.phase }, { on := 5, ground := Ground.phase }, { on := 6, ground := Ground.phase }, { on := 7, ground := Ground.phase }, { on := 8, ground := Ground.phase }, { on := 9, ground := Ground.phase }, { on := 10, ground := Ground.phase }, { on := 11, ground := Ground.phase }, { on := 12, ground := Ground.phase }], guard := none }) rfl (fun K hK => ?_) AllReadyH.nil
            go_simp
            refine hK.out _ _ trivial (fun _ => ?_)
            clear hK K
            simp only [Act.put, List.setIfInBounds_toArray, List.set_cons_zero, List.set_cons_succ]
            refine wpAnyH_done (by kernel_rfl) ?_ _
            refine NoPanic.normal ?_
            have e1 : (bl ++ [BV]).length = bl.length + 1 := by simp
            have e2 : (pl ++ [Z]).length = pl.length + 1 := by simp
            have d := M2.done m HE'.out.kx HE'.out.Bk HE'.out.Bb HE'.out.Bx HE'.out.Bp
            have np := m.np
            rw [e1, e2] at d
            rw [e2] at np
            have HD := Lib.hid d
            have HNP := Lib.hid np
            clear d np e1 e2
            go_wp2_with fail
            go_meet
            case rel => exact ⟨_, _, by rw [← HBV.out]; exact HD.out.1, HD.out.2, HNP.out⟩
          exact AllReadyH.nil
        exact AllReadyH.nil
      exact AllReadyH.nil
    refine AllReadyH.cons (o := { dst := some 19, op := Op.buildSlice 29 1 #[(0, Operand.tmp 18)], type := 29, pos := "bittree.go:58", after := #[{ on := 9, ground := Ground.data }], guard := none }) rfl (fun K hK => ?_) ?_
    · go_simp
      refine hK.out _ _ (M2.cells (m.alloc _)) (fun hHeld => ?_)
      have m := m.alloc (.cells #[.int .i64 Z] 3)
      clear hK K
      simp only [Act.put, List.setIfInBounds_toArray, List.set_cons_zero, List.set_cons_succ]
      refine wpAnyH_ready (rs := [6]) (by kernel_rfl) (by simp) ?_
      refine AllReadyH.cons (o := { dst := some 15, op := Op.buildSlice 54 1 #[(0, Operand.tmp 14)], type := 54, pos := "bittree.go:58", after := #[{ on := 5, ground := Ground.data }], guard := none }) rfl (fun K hK => ?_) ?_
      · go_simp
        refine hK.out _ _ (M2.cells (m.alloc _)) (fun hHeld => ?_)
        have m := m.alloc (.cells #[.bool BV] 4)
        clear hK K
        simp only [Act.put, List.setIfInBounds_toArray, List.set_cons_zero, List.set_cons_succ]
        refine wpAnyH_ready (rs := [7]) (by kernel_rfl) (by simp) ?_
        refine AllReadyH.cons (o := { dst := some 16, op := Op.call { callee := Callee.builtin Builtin.append, args := #[Operand.tmp 9, Operand.tmp 15], argTypes := #[54, 54] }, type := 54, pos := "bittree.go:58", after := #[{ on := 0, ground := Ground.data }, { on := 6, ground := Ground.data }], guard := none }) rfl (fun K hK => ?_) ?_
        · refine step_grow (P := Try.prog) (f := fB) info_bool rfl HDE.out.2 Try.underlying54 flatB rfl (Operand.tmp 9) (Operand.tmp 15) ?_ B vb bl BV (.bool BV) rfl ?_ ?_ (W.heap.size + 1) 1 ?_ 4 ?_ HLB.out ?_ ?_
          · rfl
          · rfl
          · exact m.rb
          · rfl
          · exact heap_two W.drew (.cells #[.int .i64 Z] 3) (.cells #[.bool BV] 4)
          · exact Nat.le_trans HBW.out m.kp.size
          intro u5 w5 ho5 hg5 hv5
          refine hK.out _ _ (M2.cells (m.growB hg5 ho5 hv5)) (fun hHeld => ?_)
          have hc := grown_heap hg5 (heap_old (heap_alloc_new W.drew (.cells #[.int .i64 Z] 3)) (.cells #[.bool BV] 4)) (own_ne m.rb (heap_old (heap_alloc_new W.drew (.cells #[.int .i64 Z] 3)) (.cells #[.bool BV] 4)) HBI.out)
          have m := m.growB hg5 ho5 hv5
          clear hK K
          simp only [Act.put, List.setIfInBounds_toArray, List.set_cons_zero, List.set_cons_succ]
          refine wpAnyH_ready (rs := [11]) (by kernel_rfl) (by simp) ?_
          refine AllReadyH.cons (o := { dst := some 20, op := Op.call { callee := Callee.builtin Builtin.append, args := #[Operand.tmp 17, Operand.tmp 19], argTypes := #[29, 29] }, type := 29, pos := "bittree.go:58", after := #[{ on := 8, ground := Ground.data }, { on := 10, ground := Ground.data }, { on := 7, ground := Ground.chain }], guard := none }) rfl (fun K hK => ?_) ?_
          · refine step_grow (P := Try.prog) (f := fI) info_int rfl HDE.out.1 Try.underlying29 flatI rfl (Operand.tmp 17) (Operand.tmp 19) ?_ B vp pl Z (.int .i64 Z) rfl ?_ ?_ (W.heap.size) 1 ?_ 3 ?_ HLI.out ?_ ?_
            · rfl
            · rfl
            · exact m.rp
            · rfl
            · exact hc
            · exact Nat.le_trans HBW.out m.kp.size
            intro u6 w6 ho6 hg6 hv6
            refine hK.out _ _ (M2.cells (m.growI hg6 ho6 hv6)) (fun hHeld => ?_)
            have m := m.growI hg6 ho6 hv6
            clear hK K
            simp only [Act.put, List.setIfInBounds_toArray, List.set_cons_zero, List.set_cons_succ]
            refine wpAnyH_done (by kernel_rfl) ?_ _
            refine lateQ_normal 2 (by kernel_rfl) #[true, true, true, true, true, true, true, true, true, true, true, true, false, false] (by kernel_rfl) (fun k => ?_)
            obtain ⟨a1, d1, rfl⟩ := own_slice m.rb
            obtain ⟨a2, d2, rfl⟩ := own_slice m.rp
            have c2 := cell_lit m.bb 0 _ rfl
            have c4 := cell_lit m.bp 0 _ rfl
            have f2 := free_in m.bb 0
            have f4 := free_in m.bp 0
            refine wpAnyH_ready (rs := [12]) (by kernel_rfl) (by simp) ?_
            refine AllReadyH.cons (o := { dst := none, op := Op.store 54 (Operand.tmp 2) (Operand.tmp 16), type := 0, pos := "bittree.go:58", after := #[{ on := 7, ground := Ground.data }, { on := 11, ground := Ground.chain }, { on := 0, ground := Ground.phase }, { on := 1, ground := Ground.phase }, { on := 2, ground := Ground.phase }, { on := 3, ground := Ground.phase }, { on := 4, ground := Ground.phase }, { on := 5, ground := Ground.phase }, { on := 6, ground := Ground.phase }, { on := 7, ground := Ground.phase }, { on := 8, ground := Ground.phase }, { on := 9, ground := Ground.textOnly Departure.lateStores }, { on := 10, ground := Ground.textOnly Departure.lateStoresUnsure }, { on := 11, ground := Ground.phase }], guard := none }) rfl (fun K hK => ?_) AllReadyH.nil
            go_simp
            refine hK.out _ _ trivial (fun _ => ?_)
            clear hK K
            simp only [Act.put, List.setIfInBounds_toArray, List.set_cons_zero, List.set_cons_succ]
            refine wpAnyH_ready (rs := [13]) (by kernel_rfl) (by simp) ?_
            refine AllReadyH.cons (o := { dst := none, op := Op.store 29 (Operand.tmp 4) (Operand.tmp 20), type := 0, pos := "bittree.go:58", after := #[{ on := 11, ground := Ground.data }, { on := 12, ground := Ground.chain }, { on := 0, ground := Ground.phase }, { on := 1, ground := Ground.phase }, { on := 2, ground := Ground.phase }, { on := 3, ground := Ground.phase }, { on := 4, ground := Ground.phase }, { on := 5, ground := Ground.phase }, { on := 6, ground := Ground.phase }, { on := 7, ground := Ground.phase }, { on := 8, ground := Ground.phase }, { on := 9, ground := Ground.phase }, { on := 10, ground := Ground.phase }, { on := 11, ground := Ground.phase }, { on := 12, ground := Ground.phase }], guard := none }) rfl (fun K hK => ?_) AllReadyH.nil
            go_simp
            refine hK.out _ _ trivial (fun _ => ?_)
            clear hK K
            simp only [Act.put, List.setIfInBounds_toArray, List.set_cons_zero, List.set_cons_succ]
            refine wpAnyH_done (by kernel_rfl) ?_ _
            refine NoPanic.normal ?_
            have e1 : (bl ++ [BV]).length = bl.length + 1 := by simp
            have e2 : (pl ++ [Z]).length = pl.length + 1 := by simp
            have d := M2.done m HE'.out.kx HE'.out.Bk HE'.out.Bb HE'.out.Bx HE'.out.Bp
            have np := m.np
            rw [e1, e2] at d
            rw [e2] at np
            have HD := Lib.hid d
            have HNP := Lib.hid np
            clear d np e1 e2
            go_wp2_with fail
            go_meet
            case rel => exact ⟨_, _, by rw [← HBV.out]; exact HD.out.1, HD.out.2, HNP.out⟩
          exact AllReadyH.nil
        exact AllReadyH.nil
      exact AllReadyH.nil
    exact AllReadyH.nil

  case rest =>
    obtain ⟨vb', vp', he, hk', hp'⟩ := hcut
    have hrb := he.rb
    obtain ⟨g, cap, rfl, hgB, hgl⟩ := OwnS.form hrb (by simp) (by decide)
    have hcl := OwnS.cell flatB hrb bl.length 0 (bitK x k) (by simp) (by decide)
    have hcb := cell_lit he.bb 0 _ rfl
    have hlen : (bl ++ [bitK x k]).length = bl.length + 1 := by simp
    simp only [Nat.mul_one, Nat.add_zero] at hcl
    have hcl2 : wc.cell? ⟨g, bl.length, none⟩ = some (.bool (bitK x k)) := hcl
    have HE := Lib.hid he
    rw [hlen] at hcb HE
    have HKK := Lib.hid hk'
    have HPP := Lib.hid hp'
    obtain ⟨L, hL⟩ : ∃ L, bl.length = L := ⟨_, rfl⟩
    rw [hL] at hcb hcl2 hbl
    obtain ⟨BK, hBK⟩ : ∃ BK, bitK x k = BK := ⟨_, rfl⟩
    rw [hBK] at hcl2 HE
    rw [hL] at HE
    clear hcl hrb he hk' hp' HH HK HE' HSZ c1 c2 c3 c4 f2 f4
    go_wp2_with fail
    subst hBK
    subst hL
    go_ret
    exact ⟨_, _, rfl, HE.out, HKK.out, HPP.out⟩
end Go.Proofs.Ytedmnlfbmmlcbaa
