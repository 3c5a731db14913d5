/- Layer 60: a map of numbers by a number and a byte. -/
import Derived.Maps.OwnSet
import Derived.Maps.Views
import Derived.DeepKeys4
import Derived.Test.YtplopddlpoffoaaAN6
namespace Go.Proofs.Ytplopddlpoffoaa
open Go.ChangeShapes Go.WideShapes Go.ChangeAt Go.RowKit Go.Maps Go.Lib Go.WideMaps
set_option linter.unusedVariables false
set_option linter.unusedSimpArgs false
set_option maxRecDepth 100000
theorem laidOutZ : laidOutB Try.prog = true := by kernel_rfl
theorem rowLongZ : (85 : TypeId) < Try.prog.types.size := of_decide_eq_true (by kernel_rfl)
theorem wideLongZ : (match Try.prog.underlying 85 with | some (.array _ _) | some (.struct _) => true | _ => false) = true := by kernel_rfl
theorem lawLong : Keyed Try.prog 85 := Keyed.of_law (deep_law_laid laidOutZ (m := 3) (by omega) rowLongZ (by kernel_rfl) wideLongZ)
theorem cellsLong : Try.prog.cellsOf 85 = 2 := by kernel_rfl
theorem keyTypeLong : Try.prog.keyType 85 = true := by kernel_rfl
theorem cellsIntZ : Try.prog.cellsOf 3 = 1 := by kernel_rfl
theorem cellsByteZ : Try.prog.cellsOf 5 = 1 := by kernel_rfl
theorem sizeTypesZ : ∃ m, Try.prog.types.size = m + 1 := Nat.exists_eq_succ_of_ne_zero (Nat.ne_of_gt (Nat.lt_of_le_of_lt (Nat.zero_le _) rowLongZ))
def keyL (i b : Nat) : Lit := .string (keyBytes [.int .i64 (i : Int), .int .u8 (b : Int)])
theorem wfI (x : Nat) (h : x ≤ 1000000000) : (Lit.int .i64 (x : Int)).wf = true := by
  simp [Lit.wf, IntKind.min, IntKind.max, IntKind.signed, IntKind.bits]; omega
theorem wfB (x : Nat) (h : x < 256) : (Lit.int .u8 (x : Int)).wf = true := by
  simp [Lit.wf, IntKind.min, IntKind.max, IntKind.signed, IntKind.bits]; omega
theorem keyOf_long (i b : Nat) (hi : i ≤ 1000000000) (hb : b < 256) : keyOf Try.prog 85 (.agg #[.int .i64 (i : Int), .int .u8 (b : Int)]) = some (keyL i b) := by
  obtain ⟨m, hm⟩ := sizeTypesZ
  have hw1 := wfI i hi
  have hw2 := wfB b hb
  unfold keyOf
  simp only [Try.underlying85]
  rw [if_pos (by simp [keyTypeLong, Value.formed, Try.underlying85, cellsLong]), hm]
  unfold Program.keyLits
  simp only [Try.underlying85, Value.cells]
  simp [Program.keyLits, cellsIntZ, cellsByteZ, cellsLong, Try.underlying3, Try.underlying5, hw1, hw2, keyL]
theorem keyL_inj {i b j c : Nat} (hi : i ≤ 1000000000) (hb : b < 256) (hj : j ≤ 1000000000) (hc : c < 256) (h : keyL i b = keyL j c) : i = j ∧ b = c := by
  have h1 := keyOf_long i b hi hb
  have h2 := keyOf_long j c hj hc
  rw [h] at h1
  have := lawLong.inj h1 h2
  simp at this
  omega
theorem zeroI (w : World) : (zeroValue 3).run Try.prog w = .ok (.int .i64 0) w := by kernel_rfl
/-- Block b is the map of a table. -/
def IsN (w : World) (b c : Nat) (M : Nat → Nat → Option Nat) : Prop :=
  ∃ D : DataW Unit, w.ownsMap Try.prog 85 (plainElem Try.prog 3) b c D ∧ ∀ i y, i ≤ 1000000000 → y < 256 → Maps.has D (keyL i y) = (M i y).isSome ∧ ∀ v, M i y = some v → ∀ z, D.atKey (keyL i y) z = .lit (.int .i64 (v : Nat))
theorem IsN.put {w w' : World} {b c i y v : Nat} {M : Nat → Nat → Option Nat} {D : DataW Unit} (hi : i ≤ 1000000000) (hy : y < 256) (h : w.ownsMap Try.prog 85 (plainElem Try.prog 3) b c D) (hM : ∀ i y, i ≤ 1000000000 → y < 256 → Maps.has D (keyL i y) = (M i y).isSome ∧ ∀ v, M i y = some v → ∀ z, D.atKey (keyL i y) z = .lit (.int .i64 (v : Nat)))
    (h' : w'.ownsMap Try.prog 85 (plainElem Try.prog 3) b (c + 1) (D.put (keyL i y) (.lit (.int .i64 (v : Nat))))) : IsN w' b (c + 1) (putT M i y v) := by
  refine ⟨_, h', fun j z hj hz => ?_⟩
  unfold putT
  by_cases e : j = i ∧ z = y
  · obtain ⟨rfl, rfl⟩ := e
    have hk : WideAt.IsKeyLit (keyL j z) := trivial
    rw [if_pos ⟨rfl, rfl⟩, has_put_same h.isMap hk]
    refine ⟨rfl, fun u hu z => ?_⟩
    cases hu
    exact atKey_put_same h.isMap hk _ _
  · have hne : keyL j z ≠ keyL i y := fun h => e (keyL_inj hj hz hi hy h)
    rw [if_neg e, has_put_other hne]
    refine ⟨(hM j z hj hz).1, fun u hu x => ?_⟩
    rw [atKey_put_other hne]
    exact (hM j z hj hz).2 u hu x
theorem IsN.grow {w : World} {b c : Nat} {M : Nat → Nat → Option Nat} (h : IsN w b c M) (c' : Nat) (hc : c ≤ c') : IsN w b c' M := by
  obtain ⟨D, h1, h2⟩ := h
  exact ⟨D, h1.mono hc, h2⟩
end Go.Proofs.Ytplopddlpoffoaa
