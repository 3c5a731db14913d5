/- Regions that draw their order: operations that wait for all others are carried out behind them. -/
import Derived.Orders
import Derived.OrdersHeld
import Derived.Deep.RegionHeld3
namespace Go.Proofs.Ytkdkedgpchcfpaa
open Go
set_option linter.unusedVariables false
/-- What stands at the end of the first part: the late ones are still to come. -/
def LateQ (P : Program) (md : Region.Mode) (ops : Array Oper) (n : Nat) (Q : Exit → Act → World → Prop) : Exit → Act → World → Prop := fun e a w =>
  (e = .normal → ∀ listed : Array Bool, listed.size = ops.size → (∀ i, i < n → listed.getD i true = true) → (∀ i, n ≤ i → i < ops.size → listed.getD i true = false) → ∀ k, wpAny P md ops Q (k + (ops.size - n)) listed a w) ∧ (e ≠ .normal → Q e a w)
/-- Does j wait for i, if by others? -/
def awaits (md : Region.Mode) (ops : Array Oper) : Nat → Nat → Nat → Bool
  | 0, _, _ => false
  | f + 1, j, i => match ops[j]? with
    | none => false
    | some o => o.after.any fun e => Region.binds md e && (decide (e.on = i) || awaits md ops f e.on i)
def Closed (md : Region.Mode) (ops : Array Oper) (listed : Array Bool) : Prop := ∀ (j : Nat) (o : Oper), ops[j]? = some o → listed.getD j false = true → ∀ e ∈ o.after, Region.binds md e = true → listed.getD e.on false = true
theorem awaits_listed {md : Region.Mode} {ops : Array Oper} {listed : Array Bool} (hc : Closed md ops listed) : ∀ (f j i : Nat), awaits md ops f j i = true → (∀ o, ops[j]? = some o → ∀ e ∈ o.after, Region.binds md e = true → listed.getD e.on false = true) → listed.getD i false = true
  | 0, _, _, h, _ => by simp [awaits] at h
  | f + 1, j, i, h, hd => by
    unfold awaits at h
    cases ho : ops[j]? with
    | none => rw [ho] at h; simp at h
    | some o =>
      rw [ho] at h
      simp only at h
      rw [← Array.any_toList, List.any_eq_true] at h
      obtain ⟨e, he, h2⟩ := h
      have he : e ∈ o.after := by simpa using he
      simp only [Bool.and_eq_true, Bool.or_eq_true, decide_eq_true_eq] at h2
      have hl := hd o ho e he h2.1
      rcases h2.2 with h3 | h3
      · rw [← h3]; exact hl
      · exact awaits_listed hc f e.on i h3 (fun o' ho' => hc e.on o' ho' hl)
def lateB (md : Region.Mode) (ops : Array Oper) (n : Nat) : Bool :=
  decide (n ≤ ops.size) && (List.range ops.size).all fun j => match ops[j]? with
    | none => true
    | some o => if j < n then o.after.all fun e => !Region.binds md e || decide (e.on < j)
      else (List.range n).all fun i => awaits md ops ops.size j i
def mark (listed : Array Bool) (n : Nat) : Array Bool := (List.range listed.size).toArray.map fun i => listed.getD i true || decide (n ≤ i)
theorem mark_size (listed : Array Bool) (n : Nat) : (mark listed n).size = listed.size := by simp [mark]
theorem mark_at (listed : Array Bool) (n i : Nat) (d : Bool) (hi : i < listed.size) : (mark listed n).getD i d = (listed.getD i d || decide (n ≤ i)) := by
  simp [mark, hi]
theorem mark_set (listed : Array Bool) (n i : Nat) : mark (listed.setIfInBounds i true) n = (mark listed n).setIfInBounds i true := by
  apply Array.ext
  · simp [mark]
  · intro j h1 h2
    have hj : j < listed.size := by simpa [mark] using h1
    have e1 : (mark (listed.setIfInBounds i true) n)[j] = (mark (listed.setIfInBounds i true) n).getD j true := by simp [h1]
    have e2 : ((mark listed n).setIfInBounds i true)[j] = ((mark listed n).setIfInBounds i true).getD j true := by rw [Array.getD_eq_getD_getElem?, Array.getElem?_eq_getElem h2]; rfl
    rw [e1, e2, mark_at _ _ _ _ (by simpa using hj)]
    by_cases hij : i = j
    · subst hij
      simp [hj, mark_size]
    · rw [getD_set_ne true hij, getD_set_ne true hij, mark_at _ _ _ _ hj]
theorem wpOp_exits {P : Program} {ops : Array Oper} {Q Q2 : Exit → Act → World → Prop} {i : Nat} {a : Act} {w : World} {K K' : Act → World → Prop} (hQ : ∀ e a w, e ≠ .normal → Q2 e a w → Q e a w) (hL : LetsOut Q2 → LetsOut Q) (h : ∀ a w, K a w → K' a w)
    (hh : wpOp P ops Q2 i K a w) : wpOp P ops Q i K' a w := by
  unfold wpOp at *
  split
  · exact h _ _ (by simpa [*] using hh)
  · rename_i o ho
    simp only [ho] at hh
    split
    · rename_i hw
      simp only [hw, if_true] at hh
      rcases hh with hh | ⟨h1, h2⟩
      case inr => exact .inr ⟨h1, hL h2⟩
      refine .inl ?_
      unfold Oper.wp at *
      generalize (execOp a.eval o).run P w = r at *
      cases r with
      | ok n w' =>
        cases n <;> simp only [Oper.upon] at hh ⊢
        case value u => exact h _ _ hh
        case skip => exact h _ _ hh
        case defer d => exact h _ _ hh
        case enter f args =>
          refine Calls.mono hh fun e w'' he => ?_
          cases e with
          | returned u => exact h _ _ he
          | panicked c => exact hQ _ _ _ (by simp) he
          | outgrown => exact hL he
        case row row args => exact Rows.mono hh fun u w'' he => h _ _ he
      | halt x w' =>
        cases x <;> simp only [Oper.upon] at hh ⊢
        case panic u => exact hQ _ _ _ (by simp) hh
    · rename_i hw
      simp only [hw] at hh
      exact h _ _ hh
theorem lateB_n {md : Region.Mode} {ops : Array Oper} {n : Nat} (h : lateB md ops n = true) : n ≤ ops.size := by
  unfold lateB at h
  simp only [Bool.and_eq_true, decide_eq_true_eq] at h
  exact h.1
theorem lateB_early {md : Region.Mode} {ops : Array Oper} {n : Nat} (h : lateB md ops n = true) {j : Nat} {o : Oper} (ho : ops[j]? = some o) (hj : j < n) : ∀ e ∈ o.after, Region.binds md e = true → e.on < j := by
  unfold lateB at h
  simp only [Bool.and_eq_true, decide_eq_true_eq, List.all_eq_true, List.mem_range] at h
  have := h.2 j ((Array.getElem?_eq_some_iff.1 ho).1)
  rw [ho] at this
  simp only [hj, if_true, Array.all_eq_true_iff_forall_mem, Bool.or_eq_true, Bool.not_eq_true', decide_eq_true_eq] at this
  intro e he hb
  rcases this e he with h1 | h1
  · rw [hb] at h1; cases h1
  · exact h1
theorem lateB_late {md : Region.Mode} {ops : Array Oper} {n : Nat} (h : lateB md ops n = true) {j : Nat} {o : Oper} (ho : ops[j]? = some o) (hj : n ≤ j) {i : Nat} (hi : i < n) : awaits md ops ops.size j i = true := by
  unfold lateB at h
  simp only [Bool.and_eq_true, decide_eq_true_eq, List.all_eq_true, List.mem_range] at h
  have := h.2 j ((Array.getElem?_eq_some_iff.1 ho).1)
  rw [ho] at this
  simp only [Nat.not_lt.2 hj, if_false, List.all_eq_true, List.mem_range] at this
  exact this i hi
section
variable {P : Program} {ops : Array Oper} {Q : Exit → Act → World → Prop} {md : Region.Mode} {n : Nat}
theorem ready_all (hB : lateB md ops n = true) {listed : Array Bool} (hsz : listed.size = ops.size) (hr : Region.ready md ops (mark listed n) = []) : ∀ i, i < n → listed.getD i true = true := by
  intro i
  induction i using Nat.strongRecOn with
  | ind i ih =>
    intro hi
    cases hc : listed.getD i true with
    | true => rfl
    | false =>
      have hlt : i < listed.size := by have := lateB_n hB; omega
      have hm : i ∈ Region.ready md ops (mark listed n) := by
        refine mem_ready.2 ⟨?_, ops[i]'(by omega), by simp, ?_⟩
        · rw [mark_at _ _ _ _ hlt, hc]; simp; omega
        · intro e he hb
          have h1 := lateB_early hB (o := ops[i]'(by omega)) (by simp) hi e he hb
          have h2 := ih e.on h1 (by omega)
          rw [mark_at _ _ _ _ (by omega)]
          have : listed.getD e.on false = true := by
            have hl : e.on < listed.size := by omega
            simp only [Array.getD_eq_getD_getElem?, Array.getElem?_eq_getElem hl, Option.getD_some] at h2 ⊢
            exact h2
          rw [this]; rfl
      rw [hr] at hm; cases hm
theorem wpAny_late (hB : lateB md ops n = true) : ∀ (fuel : Nat) (listed : Array Bool) (a : Act) (w : World), listed.size = ops.size → (∀ i, n ≤ i → i < ops.size → listed.getD i true = false) → Closed md ops listed →
    wpAny P md ops (LateQ P md ops n Q) fuel (mark listed n) a w → ∀ k, wpAny P md ops Q (fuel + (k + (ops.size - n))) listed a w := by
  intro fuel
  induction fuel with
  | zero =>
    intro listed a w hsz hl hcl h k
    have := h.2.1 rfl listed hsz (ready_all hB hsz h.1) hl k
    rw [Nat.zero_add]; exact this
  | succ fuel ih =>
    intro listed a w hsz hl hcl h k
    by_cases hr : Region.ready md ops (mark listed n) = []
    · have := (h.1 hr).1 rfl listed hsz (ready_all hB hsz hr) hl (fuel + 1 + k)
      rw [← Nat.add_assoc]; exact this
    · obtain ⟨i0, hi0⟩ := List.exists_mem_of_ne_nil _ hr
      obtain ⟨u0, o0, ho0, d0⟩ := mem_ready.1 hi0
      have hi0s : i0 < ops.size := (Array.getElem?_eq_some_iff.1 ho0).1
      rw [mark_at _ _ _ _ (by omega)] at u0
      simp only [Bool.or_eq_false_iff, decide_eq_false_iff_not, Nat.not_le] at u0
      have hsub : ∀ j, j ∈ Region.ready md ops listed → j < n := by
        intro j hj
        obtain ⟨u, o, ho, d⟩ := mem_ready.1 hj
        refine Nat.lt_of_not_le fun hnj => ?_
        have := awaits_listed hcl _ _ _ (lateB_late hB ho hnj u0.2) (fun o' ho' => by rw [ho] at ho'; injection ho' with ho'; subst ho'; exact d)
        have hl0 : i0 < listed.size := by omega
        have u1 := u0.1
        simp only [Array.getD_eq_getD_getElem?, Array.getElem?_eq_getElem hl0, Option.getD_some] at this u1
        rw [u1] at this; cases this
      have hin : ∀ j, j ∈ Region.ready md ops listed → j ∈ Region.ready md ops (mark listed n) := by
        intro j hj
        have hjn := hsub j hj
        obtain ⟨u, o, ho, d⟩ := mem_ready.1 hj
        have hjs : j < ops.size := (Array.getElem?_eq_some_iff.1 ho).1
        refine mem_ready.2 ⟨?_, o, ho, ?_⟩
        · rw [mark_at _ _ _ _ (by omega), u]; simp; omega
        · intro e he hb
          have := lateB_early hB ho hjn e he hb
          rw [mark_at _ _ _ _ (by omega), d e he hb]; rfl
      have e1 : fuel + 1 + (k + (ops.size - n)) = (fuel + (k + (ops.size - n))) + 1 := by omega
      rw [e1]
      refine ⟨fun h0 => ?_, fun j hj => ?_⟩
      · exfalso
        have : i0 ∈ Region.ready md ops listed := by
          refine mem_ready.2 ⟨u0.1, o0, ho0, ?_⟩
          intro e he hb
          have h1 := lateB_early hB ho0 u0.2 e he hb
          have h2 := d0 e he hb
          rw [mark_at _ _ _ _ (by omega)] at h2
          simp only [Bool.or_eq_true, decide_eq_true_eq] at h2
          rcases h2 with h2 | h2
          · exact h2
          · omega
        rw [h0] at this; cases this
      · refine wpOp_exits (fun e a w he hq => hq.2 he) (fun ⟨a, w, hq⟩ => ⟨a, w, hq.2 (by simp)⟩) (fun a' w' h' => ?_) (h.2 j (hin j hj))
        refine ih (listed.setIfInBounds j true) a' w' (by simpa using hsz) ?_ ?_ (by rw [mark_set]; exact h') k
        · intro i h1 h2
          rw [getD_set_ne true (by have := hsub j hj; omega)]
          exact hl i h1 h2
        · intro j' o ho hlj e he hb
          by_cases hjj : j = j'
          · subst hjj
            obtain ⟨u, o', ho', d⟩ := mem_ready.1 hj
            rw [ho] at ho'; injection ho' with ho'; subst ho'
            exact getD_set_true (d e he hb)
          · rw [getD_set_ne false hjj] at hlj
            exact getD_set_true (hcl j' o ho hlj e he hb)
/-- **A region whose operations from number n on wait for all others**: those first, under S; then the late ones. -/
theorem wp_region_late {id : Nat} {a : Act} {w : World} (n : Nat) (S : World → Prop) (hm : P.follows .mixedOrders = true) (hB : lateB .any ops n = true) (L : Array Bool) (hL : mark (Array.replicate ops.size false) n = L) (hS : S w.drew)
    (h : S w.drew → wpAnyH P .any ops (LateQ P .any ops n Q) S n L a w.drew) : (Code.region id ops true).wp P Q a w := by
  refine wp_region_any hm ?_
  have h1 := wpAny_of_held _ _ _ _ (h hS)
  rw [← hL] at h1
  have := wpAny_late hB n (Array.replicate ops.size false) a w.drew (by simp) (by intro i _ hi; simp [hi]) (by intro j o ho hl; have hj := (Array.getElem?_eq_some_iff.1 ho).1; simp [hj] at hl) h1 0
  have e : n + (0 + (ops.size - n)) = ops.size := by have := lateB_n hB; omega
  rw [e] at this
  exact this
/-- The late ones, one behind the other, whatever was shown before them. -/
theorem lateQ_normal {a : Act} {w : World} (m : Nat) (hm : ops.size = n + m) (L : Array Bool) (hL : (Array.replicate n true ++ Array.replicate m false) = L) (h : ∀ k, wpAnyH P md ops Q (fun _ => True) (k + m) L a w) : LateQ P md ops n Q .normal a w := by
  obtain rfl : m = ops.size - n := by omega
  have hn : n ≤ ops.size := by omega
  refine ⟨fun _ listed hsz h1 h2 k => ?_, fun h => absurd rfl h⟩
  have : listed = L := by
    rw [← hL]
    apply Array.ext
    · simp [hsz]; omega
    · intro i hi hi2
      rcases Nat.lt_or_ge i n with hin | hin
      · have := h1 i hin
        simp only [Array.getD_eq_getD_getElem?, Array.getElem?_eq_getElem hi, Option.getD_some] at this
        rw [this, Array.getElem_append_left (by simpa using hin)]
        simp
      · have := h2 i hin (by omega)
        simp only [Array.getD_eq_getD_getElem?, Array.getElem?_eq_getElem hi, Option.getD_some] at this
        rw [this, Array.getElem_append_right (by simpa using hin)]
        simp
  rw [this]
  exact wpAny_of_held _ _ _ _ (h k)
theorem lateQ_panic {c : _} {a : Act} {w : World} (h : LateQ P md ops n (NoPanic Q) (.panic c) a w) : False := h.2 (by simp)
end
end Go.Proofs.Ytkdkedgpchcfpaa
