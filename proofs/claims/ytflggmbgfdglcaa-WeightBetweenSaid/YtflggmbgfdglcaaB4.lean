/- Words that laws' frames use: slices of floats that came in. -/
import Derived.Test.YtflggmbgfdglcaaBase
import Derived.Deep.Slices
import Derived.Deep.Grids
import Derived.Laws.Cover2
namespace Go.Proofs.Ytflggmbgfdglcaa
open Go.ChangeShapes Go.WideShapes Go.ChangeAt Go.RowKit Go.Deep
set_option linter.unusedVariables false
set_option maxRecDepth 100000
section
variable {H : Type} {enc : TypeId × Value → H} {P : Program} {w : World} {base : Nat} {held : Bool}
theorem trod_flt {t : TypeId} {k : FloatKind} {spare : Nat → Bool} {n : Nat} {v : Value} {x : DataW H × List MemPlace} (ht : P.underlying t = some (.float k)) (h : DataW.trod enc P w base spare held n t [v] = some x) : ∃ b, v = .float k b ∧ (Lit.float k b).wf = true := by
  cases n with
  | zero => simp [DataW.trod] at h
  | succ n =>
    simp only [DataW.trod, ht] at h
    cases v with
    | float k' b =>
      by_cases hk : k' = k
      · subst hk
        by_cases hw : (Lit.float k' b).wf = true
        · exact ⟨b, rfl, hw⟩
        · simp [hw] at h
      · simp [hk] at h
    | _ => simp at h
theorem open_flts {t e : TypeId} {k : FloatKind} {fuel : Nat} {cs : List Value} {x : DataW H × List MemPlace} (ht : P.underlying t = some (.slice e)) (he : P.underlying e = some (.float k)) (hc : P.cellsOf e = 1)
    (h : DataW.trod enc P w base (fun _ => true) held fuel t cs = some x) :
    cs = [.slice none 0 0] ∨
    ∃ (a : Addr) (len cap : Nat) (B : Nat → Nat), cs = [.slice (some a) len cap] ∧ len ≤ cap ∧ cap ≤ maxLen ∧ ∀ i, i < cap → w.cell? (a.add i) = some (.float k (B i)) ∧ (Lit.float k (B i)).wf = true := by
  rcases open_slice1 ht hc h with h0 | ⟨a, len, cap, m, n, V, D, Pl, rfl, hb, hl, hm, hmm, rfl, hx⟩
  · exact .inl h0.1
  right
  simp only [if_true] at hmm
  subst hmm
  obtain ⟨B, hB⟩ := choose_lt (α := Nat) (p := fun i b => V i = .float k b ∧ (Lit.float k b).wf = true) (fun i hi => trod_flt he (hx i hi).2)
  exact ⟨a, len, m, B, rfl, hl, hm, fun i hi => ⟨by rw [(hx i hi).1, (hB i hi).1], (hB i hi).2⟩⟩
end
/-- A row of floats that came in. -/
def IsFl (w : World) (a : Option Addr) (l : List Nat) : Prop := l = [] ∨ ∃ x : Addr, a = some x ∧ ∀ i, i < l.length → w.cell? (x.add i) = some (.float .f64 (l.getD i 0))
/-- What the walk is told of a slice of floats that came in. -/
def IsFlts (w : World) (a : Option Addr) (len : Nat) (l : List Nat) : Prop := l.length = len ∧ len ≤ maxLen ∧ (∀ b ∈ l, b < 18446744073709551616) ∧ IsFl w a l
end Go.Proofs.Ytflggmbgfdglcaa
