/- Layer 59: rows of states, by symbols. -/
import Derived.Test.YtplopddlpoffoaaAM13
import Derived.Test.YtplopddlpoffoaaAM14
namespace Go.Proofs.Ytplopddlpoffoaa
open Go.ChangeShapes Go.WideShapes Go.ChangeAt Go.RowKit
set_option linter.unusedVariables false
set_option linter.unusedSimpArgs false
set_option maxRecDepth 100000
open Bits
abbrev Sl := Option Nat × Nat × Nat
def slV (p : Sl) : Value := .slice (p.1.map (fun g => ⟨g, 0, none⟩)) p.2.1 p.2.2
def fX (p : Sl) : List Value := [slV p]
theorem flatX : Flat fX 1 := fun x => ⟨rfl, by intro u hu; simp [fX] at hu; subst hu; rfl⟩
theorem info_row : (Try.prog.info? 22).map (fun i => (i.zero, i.size, i.bytes)) = some (some (.slice none 0 0), 1, 24) := by kernel_rfl
abbrev OwnX (B : Nat) (w : World) (v : Value) (l : List Sl) : Prop := OwnS fX 22 1 B w v l
theorem slV_own (p : Sl) : (slV p).ownBlock = p.1 := by
  obtain ⟨a, b, c⟩ := p
  cases a <;> simp [slV, Value.ownBlock]
theorem app_int1 {X : World} {ops : Array Oper} {rest : List Oper} {o : Oper} {a : Act} {Q : Exit → Act → World → Prop} (hgd : o.guard = none) (s xo : Operand)
    (ho : o.op = .call { callee := .builtin .append, args := #[s, xo], argTypes := #[22, 22] })
    (B T : Nat) (v : Value) (l : List Int) (x : Int) (hs : a.eval s = v) (hown : OwnI B X v l) (g c1 : Nat) (hg : X.heap.size = g) (hx : a.eval xo = .slice (some ⟨g, 0, none⟩) 1 c1) (hl : l.length ≤ 1099511627776) (hB : B ≤ X.heap.size)
    (h : ∀ k cap w', OwnI B w' (.slice (some ⟨k, 0, none⟩) (l.length + 1) cap) (l ++ [x]) → Row1 X v w' (.slice (some ⟨k, 0, none⟩) (l.length + 1) cap) → wpList Try.prog ops Q rest (a.put o.dst (.slice (some ⟨k, 0, none⟩) (l.length + 1) cap)) w') : wpList Try.prog ops Q (o :: rest) a (X.alloc (.cells #[.int .i64 x] T)) := by
  subst hg
  obtain ⟨i0, hi, h1, h2, h3⟩ := info_get info_int
  refine wpList_append_at _ hgd s xo 22 ho B 3 i0 (.int .i64 0) 8 Try.underlying22 hi h1 h2 h3 rfl v l.length (l.flatMap fI) hs (World.ownsRow.alloc hown _) ⟨X.heap.size, 0, none⟩ 1 c1 [.int .i64 x] hx rfl (cell_new1 X _ T _ rfl) (by intro u hu; simp at hu; subst hu; rfl) (by unfold maxLen; omega) (by omega) (by simp; omega) (by decide) ?_
  intro k cap w' ho' hg' hk
  have e : (l ++ [x]).flatMap fI = l.flatMap fI ++ [.int .i64 x] := by simp [fI]
  refine h k cap w' ?_ ⟨((Keeps.refl _ X).alloc _).grown hg' (fun j hj => .inr hj), fun j hj => ?_⟩
  · unfold OwnI OwnS; rw [e, List.length_append]; exact ho'
  · obtain rfl : k = j := by simpa [Value.ownBlock] using hj
    rcases hk with hk | hk
    · exact .inl hk
    · right; rw [hk]; simp
structure Mat (w : World) (B gM n : Nat) (ps : List Sl) (rows : Nat → List Int) : Prop where
  own : OwnX B w (.slice (some ⟨gM, 0, none⟩) n n) ps
  len : ps.length = n
  row : ∀ i p, ps[i]? = some p → p.2.1 = (rows i).length ∧ OwnI B w (slV p) (rows i)
  dis : ∀ (i j : Nat) (p r : Sl) (k : Nat), i ≠ j → ps[i]? = some p → ps[j]? = some r → p.1 = some k → r.1 ≠ some k
theorem Mat.ne {w : World} {B gM n : Nat} {ps : List Sl} {rows : Nat → List Int} (h : Mat w B gM n ps rows) {i : Nat} {p : Sl} (hp : ps[i]? = some p) : p.1 ≠ some gM := by
  intro e
  obtain ⟨C, hC⟩ : ∃ C, w.heap[gM]? = some (.cells C 22 (0, 0)) := by
    rcases h.own.2 with ⟨h0, -⟩ | ⟨g', cap', cur, h0, _, hg, _⟩
    · simp at h0
    · simp only [Value.slice.injEq, Option.some.injEq, Addr.mk.injEq, and_true, true_and] at h0
      obtain ⟨rfl, -, -⟩ := h0
      exact ⟨cur, hg⟩
  exact own_ne (h.row i p hp).2 hC (by decide) (by rw [slV_own]; exact e)
theorem Mat.kept {w w' : World} {B gM n : Nat} {ps : List Sl} {rows : Nat → List Int} (h : Mat w B gM n ps rows) (hb : Below w.heap.size w w') : Mat w' B gM n ps rows :=
  ⟨OwnS.kept h.own hb, h.len, fun i p hp => ⟨(h.row i p hp).1, OwnS.kept (h.row i p hp).2 hb⟩, h.dis⟩
theorem Mat.away {w : World} {B gM n : Nat} {ps : List Sl} {rows : Nat → List Int} {g : Nat} {w' : World} (h : Mat w B gM n ps rows) (hk : Keeps (fun j => j = g) w w') (h1 : gM ≠ g) (h2 : ∀ (i : Nat) (p : Sl), ps[i]? = some p → p.1 ≠ some g) : Mat w' B gM n ps rows :=
  ⟨hk.ownsRow h.own (fun j hj e => h1 (by
    have e1 : gM = j := by simpa [Value.ownBlock] using hj
    rw [e1]; exact e)), h.len, fun i p hp => ⟨(h.row i p hp).1, hk.ownsRow (h.row i p hp).2 (fun j hj e => h2 i p hp (by
    rw [slV_own] at hj
    have e : j = g := e
    rw [hj, e]))⟩, h.dis⟩
theorem Mat.cell {w : World} {B gM n : Nat} {ps : List Sl} {rows : Nat → List Int} (h : Mat w B gM n ps rows) {i : Nat} {p : Sl} (hp : ps[i]? = some p) : w.cell? ⟨gM, i, none⟩ = some (slV p) := by
  have := OwnS.cell flatX h.own i 0 p hp (by decide)
  simpa [fX] using this
/-- A row grows by one state. -/
theorem Mat.step {w w' : World} {B gM n s k cap : Nat} {ps : List Sl} {rows : Nat → List Int} {p : Sl} {x : Int} (h : Mat w B gM n ps rows) (hp : ps[s]? = some p) (ho : OwnI B w' (.slice (some ⟨k, 0, none⟩) ((rows s).length + 1) cap) (rows s ++ [x])) (hr : Row1 w (slV p) w' (.slice (some ⟨k, 0, none⟩) ((rows s).length + 1) cap)) :
    Mat (w'.setCell ⟨gM, s, none⟩ (.slice (some ⟨k, 0, none⟩) ((rows s).length + 1) cap)) B gM n (ps.set s (some k, (rows s).length + 1, cap)) (fun i => if i = s then rows s ++ [x] else rows i) := by
  have hsl : s < ps.length := (List.getElem?_eq_some_iff.1 hp).1
  have hkp : Keeps (fun j => (slV p).ownBlock = some j) w w' := hr.1
  have hM : OwnX B w' (.slice (some ⟨gM, 0, none⟩) n n) ps := hkp.ownsRow h.own (fun j hj e => by
    have e1 : gM = j := by simpa [Value.ownBlock] using hj
    rw [slV_own] at e
    exact h.ne hp (by rw [e1]; exact e))
  obtain ⟨C, hC⟩ : ∃ C, w'.heap[gM]? = some (.cells C 22 (0, 0)) := by
    rcases hM.2 with ⟨h0, -⟩ | ⟨g', cap', cur, h0, _, hg, _⟩
    · simp at h0
    · simp only [Value.slice.injEq, Option.some.injEq, Addr.mk.injEq, and_true, true_and] at h0
      obtain ⟨rfl, -, -⟩ := h0
      exact ⟨cur, hg⟩
  have hset : ∀ {v : Value} {l : List Int}, OwnI B w' v l → OwnI B (w'.setCell ⟨gM, s, none⟩ (.slice (some ⟨k, 0, none⟩) ((rows s).length + 1) cap)) v l := fun hv =>
    ((Keeps.refl (fun j => j = gM) w').setCell (p := ⟨gM, s, none⟩) (.inr rfl) _).ownsRow hv (fun j hj e => own_ne hv hC (by decide) (by
      have e : j = gM := e
      rw [hj, e]))
  have hlt : ∀ (i : Nat) (r : Sl), ps[i]? = some r → ∀ j, r.1 = some j → j < w.heap.size := fun i r hr2 j hj => (World.ownsRow.lt (h.row i r hr2).2 j (by rw [slV_own]; exact hj)).2
  have hnew : ∀ (i : Nat) (r : Sl), i ≠ s → ps[i]? = some r → r.1 ≠ some k := fun i r hi hr2 e => by
    rcases hr.2 k (by simp [Value.ownBlock]) with h1 | h1
    · rw [slV_own] at h1
      exact h.dis i s r p k hi hr2 hp e h1
    · have := hlt i r hr2 k e
      omega
  refine ⟨OwnS.set1 flatX hM s (some k, (rows s).length + 1, cap) _ rfl hsl, by simp [h.len], fun i r hr2 => ?_, fun i j a b q hij ha hb hq => ?_⟩
  · rw [List.getElem?_set] at hr2
    by_cases e : s = i
    · subst e
      rw [if_pos rfl, if_pos hsl] at hr2
      injection hr2 with hr2
      subst hr2
      simp only [if_true]
      exact ⟨by simp, hset ho⟩
    · rw [if_neg e] at hr2
      rw [if_neg (fun e2 => e e2.symm)]
      have h3 := h.row i r hr2
      refine ⟨h3.1, hset (hkp.ownsRow h3.2 (fun j hj e2 => ?_))⟩
      rw [slV_own] at hj e2
      exact h.dis s i p r j e hp hr2 e2 hj
  · rw [List.getElem?_set] at ha hb
    by_cases e1 : s = i
    · subst e1
      rw [if_pos rfl, if_pos hsl] at ha
      rw [if_neg hij] at hb
      injection ha with ha
      subst ha
      simp only at hq
      injection hq with hq
      subst hq
      exact hnew j b (fun e => hij e.symm) hb
    · rw [if_neg e1] at ha
      by_cases e2 : s = j
      · subst e2
        rw [if_pos rfl, if_pos hsl] at hb
        injection hb with hb
        subst hb
        simp only
        intro e
        injection e with e
        subst e
        exact hnew i a (fun e => hij e) ha hq
      · rw [if_neg e2] at hb
        exact h.dis i j a b q hij ha hb hq
end Go.Proofs.Ytplopddlpoffoaa
