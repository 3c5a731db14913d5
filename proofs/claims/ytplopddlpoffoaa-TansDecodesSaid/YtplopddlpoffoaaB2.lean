/- Words that laws' frames use: slices of structs that came in. -/
import Derived.Test.YtplopddlpoffoaaBase
import Derived.Deep.Slices
namespace Go.Proofs.Ytplopddlpoffoaa
open Go.ChangeShapes Go.WideShapes Go.ChangeAt Go.RowKit Go.Deep
set_option linter.unusedVariables false
set_option maxRecDepth 100000
section
variable {H : Type} {enc : TypeId × Value → H} {P : Program} {w : World} {base : Nat} {spare : Nat → Bool} {held : Bool}
/-- Each place of each element of a slice of structs, and that it reads by its field's type. -/
def RowsAt (enc : TypeId × Value → H) (P : Program) (w : World) (base : Nat) (spare : Nat → Bool) (held : Bool) (fs : Array Field) (a : Addr) (len : Nat) : Prop :=
  ∀ i, i < len → ∀ (j : Nat) (f : Field), fs[j]? = some f → ∃ (v : Value) (n : Nat) (y : DataW H × List MemPlace), w.cell? ((a.add (i * fs.size)).add j) = some v ∧ DataW.trod enc P w base spare held n f.type [v] = some y
theorem open_rows {t e : TypeId} {fs : Array Field} {fuel : Nat} {cs : List Value} {x : DataW H × List MemPlace} (ht : P.underlying t = some (.slice e)) (he : P.underlying e = some (.struct fs)) (hone : oneCellFields P fs = true) (hC : P.cellsOf e = fs.size)
    (h : DataW.trod enc P w base spare held fuel t cs = some x) :
    cs = [.slice none 0 0] ∨ ∃ (a : Addr) (len cap : Nat), cs = [.slice (some a) len cap] ∧ len ≤ cap ∧ cap ≤ maxLen ∧ RowsAt enc P w base spare held fs a len := by
  rcases open_slice ht h with ⟨hn, -⟩ | ⟨a, len, cap, m, n, D, Pl, hcs, -, hl, hm, hmm, -, hi⟩
  · exact .inl hn
  refine .inr ⟨a, len, cap, hcs, hl, hm, fun i hlt j f hj => ?_⟩
  have him : i < m := by rw [hmm]; split <;> omega
  obtain ⟨cs', hc, ht'⟩ := hi i him
  rw [hC] at hc
  obtain ⟨xs, k, -, -, -, hlen, hg⟩ := DataW.trod_struct he ht'
  obtain ⟨-, hcl, hat⟩ := World.cells?_some hc
  obtain ⟨ho, hk⟩ := hone_of hone j f hj
  have hjl : j < fs.size := (Array.getElem?_eq_some_iff.1 hj).1
  have h1 := hg j f hj
  rw [ho, hk] at h1
  have e1 : (cs'.drop j).take 1 = [cs'[j]'(by omega)] := by rw [List.drop_eq_getElem_cons (by omega)]; rfl
  rw [e1] at h1
  exact ⟨cs'[j]'(by omega), k, xs[j]'(by omega), (hat j hjl).trans (List.getElem?_eq_getElem (by omega)), h1.trans (List.getElem?_eq_getElem (by omega))⟩
theorem RowsAt.int {fs : Array Field} {a : Addr} {len : Nat} (h : RowsAt enc P w base spare held fs a len) (j : Nat) (f : Field) (hj : fs[j]? = some f) {k : IntKind} (hu : P.underlying f.type = some (.int k)) :
    ∃ F : Nat → Int, ∀ i, i < len → w.cell? ((a.add (i * fs.size)).add j) = some (.int k (F i)) ∧ (Lit.int k (F i)).wf = true := by
  have h0 : ∀ i, ∃ z : Int, i < len → w.cell? ((a.add (i * fs.size)).add j) = some (.int k z) ∧ (Lit.int k z).wf = true := by
    intro i
    by_cases hi : i < len
    · obtain ⟨v, n, y, hc, ht⟩ := h i hi j f hj
      obtain ⟨z, hv, -, hw⟩ := DataW.trod_int hu ht
      simp only [List.cons.injEq, and_true] at hv
      subst hv
      exact ⟨z, fun _ => ⟨hc, hw⟩⟩
    · exact ⟨0, fun h => absurd h hi⟩
  exact Classical.skolem.1 h0
theorem RowsAt.bool {fs : Array Field} {a : Addr} {len : Nat} (h : RowsAt enc P w base spare held fs a len) (j : Nat) (f : Field) (hj : fs[j]? = some f) (hu : P.underlying f.type = some .bool) :
    ∃ F : Nat → Bool, ∀ i, i < len → w.cell? ((a.add (i * fs.size)).add j) = some (.bool (F i)) := by
  have h0 : ∀ i, ∃ z : Bool, i < len → w.cell? ((a.add (i * fs.size)).add j) = some (.bool z) := by
    intro i
    by_cases hi : i < len
    · obtain ⟨v, n, y, hc, ht⟩ := h i hi j f hj
      obtain ⟨z, hv, -⟩ := DataW.trod_bool hu ht
      simp only [List.cons.injEq, and_true] at hv
      subst hv
      exact ⟨z, fun _ => hc⟩
    · exact ⟨false, fun h => absurd h hi⟩
  exact Classical.skolem.1 h0
theorem RowsAt.string {fs : Array Field} {a : Addr} {len : Nat} (h : RowsAt enc P w base spare held fs a len) (j : Nat) (f : Field) (hj : fs[j]? = some f) (hu : P.underlying f.type = some .string) :
    ∃ F : Nat → ByteArray, ∀ i, i < len → w.cell? ((a.add (i * fs.size)).add j) = some (.string (F i)) ∧ (F i).size ≤ maxLen := by
  have h0 : ∀ i, ∃ z : ByteArray, i < len → w.cell? ((a.add (i * fs.size)).add j) = some (.string z) ∧ z.size ≤ maxLen := by
    intro i
    by_cases hi : i < len
    · obtain ⟨v, n, y, hc, ht⟩ := h i hi j f hj
      obtain ⟨z, hv, -, hw⟩ := DataW.trod_string hu ht
      simp only [List.cons.injEq, and_true] at hv
      subst hv
      exact ⟨z, fun _ => ⟨hc, hw⟩⟩
    · exact ⟨ByteArray.empty, fun h => absurd h hi⟩
  exact Classical.skolem.1 h0
end
end Go.Proofs.Ytplopddlpoffoaa
