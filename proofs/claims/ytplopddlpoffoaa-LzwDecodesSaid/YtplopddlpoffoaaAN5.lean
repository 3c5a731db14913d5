/- Layer 60: rows of text and bits side by side. -/
import Derived.Test.YtplopddlpoffoaaAN4
import Derived.Test.YtplopddlpoffoaaD1
namespace Go.Proofs.Ytplopddlpoffoaa
open Go.ChangeShapes Go.WideShapes Go.ChangeAt Go.RowKit
set_option linter.unusedVariables false
set_option linter.unusedSimpArgs false
set_option maxRecDepth 100000
open Bits
theorem own_t {B n : Nat} {w : World} {v : Value} {l : List Row8} (h : OwnT B w v l) (h0 : l ≠ []) : ∃ g c, v = .slice (some ⟨g, 0, none⟩) l.length c ∧ l.length ≤ c ∧ B ≤ g ∧ g < w.heap.size := by
  have hlt := fun k e => World.ownsRow.lt h k e
  rcases h.2 with ⟨h1, h2⟩ | ⟨g', cap', cur', h1, h2⟩
  · exfalso
    rcases l with _ | ⟨a, l⟩
    · exact h0 rfl
    · simp at h2
  · refine ⟨g', cap', h1, ?_, ?_⟩
    · obtain ⟨-, -, h3⟩ := h2
      omega
    · exact hlt g' (by rw [h1]; rfl)
theorem app_str1 {X : World} {ops : Array Oper} {rest : List Oper} {o : Oper} {a : Act} {Q : Exit → Act → World → Prop} (hgd : o.guard = none) (s xo : Operand)
    (ho : o.op = .call { callee := .builtin .append, args := #[s, xo], argTypes := #[87, 87] })
    (B T : Nat) (v : Value) (l : List Row8) (x : Row8) (y : ByteArray) (hy : y = sB x) (hs : a.eval s = v) (hown : OwnT B X v l) (g c1 : Nat) (hg : X.heap.size = g) (hx : a.eval xo = .slice (some ⟨g, 0, none⟩) 1 c1) (hl : l.length ≤ 1099511627776) (hB : B ≤ X.heap.size)
    (h : ∀ v' w', OwnT B w' v' (l ++ [x]) → Row1 X v w' v' → wpList Try.prog ops Q rest (a.put o.dst v') w') : wpList Try.prog ops Q (o :: rest) a (X.alloc (.cells #[.string y] T)) := by
  subst hg hy
  obtain ⟨i0, hi, h1, h2, h3⟩ := info_get info_str8
  refine wpList_append_at _ hgd s xo 87 ho B 9 i0 (.string ⟨#[]⟩) 16 Try.underlying87 hi h1 h2 h3 rfl v l.length (l.flatMap fS8) hs (World.ownsRow.alloc hown _) ⟨X.heap.size, 0, none⟩ 1 c1 [.string (sB x)] hx rfl (cell_new1 X _ T _ rfl) (by intro u hu; simp at hu; subst hu; rfl) (by unfold maxLen; omega) (by omega) (by simp; omega) (by decide) ?_
  intro k cap w' ho' hg' hk
  have e : (l ++ [x]).flatMap fS8 = l.flatMap fS8 ++ [.string (sB x)] := by simp [fS8]
  refine h _ w' ?_ ⟨((Keeps.refl _ X).alloc _).grown hg' (fun j hj => .inr hj), fun j hj => ?_⟩
  · unfold OwnT OwnS; rw [e, List.length_append]; exact ho'
  · obtain rfl : k = j := by simpa [Value.ownBlock] using hj
    rcases hk with hk | hk
    · exact .inl hk
    · right; rw [hk]; simp
structure Duo (w0 wr : World) (u v : Value) (lu : List Row8) (lv : List Bool) : Prop where
  one : OwnT w0.heap.size wr u lu
  two : OwnB w0.heap.size wr v lv
  apart : ∀ k, u.ownBlock = some k → v.ownBlock ≠ some k
  below : Below w0.heap.size w0 wr
section
variable {w0 wr w1 : World} {u v u1 v1 : Value} {lu lu1 : List Row8} {lv lv1 : List Bool}
theorem Duo.put (h : Duo w0 wr u v lu lv) (ho : OwnB w0.heap.size w1 v1 lv1) (hr : Row1 wr v w1 v1) : Duo w0 w1 u v1 lu lv1 := by
  refine ⟨hr.1.ownsRow h.one (fun k hk e => h.apart k hk e), ho, fun k hk e => ?_, h.below.trans (hr.below h.below.size (fun k e => (World.ownsRow.lt h.two k e).1))⟩
  rcases hr.2 k e with e | e
  · exact h.apart k hk e
  · have := (World.ownsRow.lt h.one k hk).2; omega
theorem Duo.app (h : Duo w0 wr u v lu lv) (ho : OwnT w0.heap.size w1 u1 lu1) (hr : Row1 wr u w1 u1) : Duo w0 w1 u1 v lu1 lv := by
  refine ⟨ho, hr.1.ownsRow h.two (fun k hk e => h.apart k e hk), fun k hk e => ?_, h.below.trans (hr.below h.below.size (fun k e => (World.ownsRow.lt h.one k e).1))⟩
  rcases hr.2 k hk with e1 | e1
  · exact h.apart k e1 e
  · have := (World.ownsRow.lt h.two k e).2; omega
theorem Duo.later (h : Duo w0 wr u v lu lv) (hb : Below wr.heap.size wr w1) : Duo w0 w1 u v lu lv :=
  ⟨h.one.kept hb, h.two.kept hb, h.apart, h.below.trans (hb.mono h.below.size)⟩
theorem Duo.drewN (h : Duo w0 wr u v lu lv) (n : Nat) : Duo w0 (wr.drewN n) u v lu lv := h.later (below_dn (Below.refl _ _) n)
end
/-- What the document's Encode has written, and what is left. -/
def WritZ (m : Nat) (S : Row8) (l : List Row8) (bs : List Bool) (r : Row8) : Prop := ∃ f, r.length ≤ f ∧ bs ++ bitsZ (encZ m f l r) = bitsZ (encZ m S.length freshR S)
theorem WritZ.next {m : Nat} {S : Row8} {l : List Row8} {bs : List Bool} {r : Row8} (h : WritZ m S l bs r) (hr : r ≠ []) (q : Row8) (hq : l[lng l r]? = some q) (hq0 : 0 < q.length) : WritZ m S (nextZ l r q.length m) (bs ++ bitsOf (lng l r) (widN l.length)) (r.drop q.length) := by
  obtain ⟨f, hf, e⟩ := h
  have h0 : 0 < r.length := List.length_pos_iff.2 hr
  obtain ⟨f, rfl⟩ : ∃ f', f = f' + 1 := ⟨f - 1, by omega⟩
  refine ⟨f, by rw [List.length_drop]; omega, ?_⟩
  have e2 : encZ m (f + 1) l r = (lng l r, widN l.length) :: encZ m f (nextZ l r q.length m) (r.drop q.length) := by
    show (if r = [] then [] else (lng l r, widN l.length) :: encZ m f (nextZ l r (l.getD (lng l r) []).length m) (r.drop (l.getD (lng l r) []).length)) = _
    rw [if_neg hr, List.getD_eq_getElem?_getD, hq]; rfl
  rw [← e, e2]
  simp [bitsZ]
theorem WritZ.done {m : Nat} {S : Row8} {l : List Row8} {bs : List Bool} (h : WritZ m S l bs []) : bs = bitsZ (encZ m S.length freshR S) := by
  obtain ⟨f, -, e⟩ := h
  rw [← e]
  cases f <;> simp [encZ, bitsZ]
end Go.Proofs.Ytplopddlpoffoaa
