import Derived.Test.YtipcdkemokkdfaaGreatK01
import Derived.Deep.Slices
import Derived.Shelf.Small.Bits
import Derived.Shelf.Small.Wraps
import Derived.Shelf.Strconv.Itoa0
import Derived.Ground.Names2Prog
import Derived.Shelf.Slices.SearchI
import Derived.Test.YtipcdkemokkdfaaGreatProg
/- Words that laws' frames use: slices of structs that came in. -/
namespace Go.Proofs.YtipcdkemokkdfaaGreat
open Go.ChangeShapes Go.WideShapes Go.ChangeAt Go.RowKit Go.Deep
set_option linter.unusedVariables false
set_option maxRecDepth 100000
section
variable {H : Type} {enc : TypeId × Value → H} {P : Program} {w : World} {base : Nat} {spare : Nat → Bool} {held : Bool}
/-- Each place of each element of a slice of structs, and that it reads by its field's type. -/
def RowsAt (enc : TypeId × Value → H) (P : Program) (w : World) (base : Nat) (spare : Nat → Bool) (held : Bool) (fs : Array Field) (a : Addr) (len : Nat) : Prop :=
  ∀ i, i < len → ∀ (j : Nat) (f : Field), fs[j]? = some f → ∃ (v : Value) (n : Nat) (y : DataW H × List MemPlace), w.cell? ((a.add (i * fs.size)).add j) = some v ∧ DataW.trod enc P w base spare held n f.type [v] = some y
theorem open_rows {t e : TypeId} {fs : Array Field} {fuel : Nat} {cs : List Value} {x : DataW H × List MemPlace} (ht : P.underlying t = some (.slice e)) (he : P.underlying e = some (.struct fs)) (hone : oneCellFields P fs = true) (hC : P.cellsOf e = fs.size)
    (h : DataW.trod enc P w base spare held fuel t cs = some x) :
    cs = [.slice none 0 0] ∨ ∃ (a : Addr) (len cap : Nat), cs = [.slice (some a) len cap] ∧ len ≤ cap ∧ cap ≤ maxLen ∧ RowsAt enc P w base spare held fs a len := by
  rcases open_slice ht h with ⟨hn, -⟩ | ⟨a, len, cap, m, n, D, Pl, hcs, -, hl, hm, hmm, -, hi⟩
  · exact .inl hn
  refine .inr ⟨a, len, cap, hcs, hl, hm, fun i hlt j f hj => ?_⟩
  have him : i < m := by rw [hmm]; split <;> omega
  obtain ⟨cs', hc, ht'⟩ := hi i him
  rw [hC] at hc
  obtain ⟨xs, k, -, -, -, hlen, hg⟩ := DataW.trod_struct he ht'
  obtain ⟨-, hcl, hat⟩ := World.cells?_some hc
  obtain ⟨ho, hk⟩ := hone_of hone j f hj
  have hjl : j < fs.size := (Array.getElem?_eq_some_iff.1 hj).1
  have h1 := hg j f hj
  rw [ho, hk] at h1
  have e1 : (cs'.drop j).take 1 = [cs'[j]'(by omega)] := by rw [List.drop_eq_getElem_cons (by omega)]; rfl
  rw [e1] at h1
  exact ⟨cs'[j]'(by omega), k, xs[j]'(by omega), (hat j hjl).trans (List.getElem?_eq_getElem (by omega)), h1.trans (List.getElem?_eq_getElem (by omega))⟩
theorem RowsAt.int {fs : Array Field} {a : Addr} {len : Nat} (h : RowsAt enc P w base spare held fs a len) (j : Nat) (f : Field) (hj : fs[j]? = some f) {k : IntKind} (hu : P.underlying f.type = some (.int k)) :
    ∃ F : Nat → Int, ∀ i, i < len → w.cell? ((a.add (i * fs.size)).add j) = some (.int k (F i)) ∧ (Lit.int k (F i)).wf = true := by
  have h0 : ∀ i, ∃ z : Int, i < len → w.cell? ((a.add (i * fs.size)).add j) = some (.int k z) ∧ (Lit.int k z).wf = true := by
    intro i
    by_cases hi : i < len
    · obtain ⟨v, n, y, hc, ht⟩ := h i hi j f hj
      obtain ⟨z, hv, -, hw⟩ := DataW.trod_int hu ht
      simp only [List.cons.injEq, and_true] at hv
      subst hv
      exact ⟨z, fun _ => ⟨hc, hw⟩⟩
    · exact ⟨0, fun h => absurd h hi⟩
  exact Classical.skolem.1 h0
theorem RowsAt.bool {fs : Array Field} {a : Addr} {len : Nat} (h : RowsAt enc P w base spare held fs a len) (j : Nat) (f : Field) (hj : fs[j]? = some f) (hu : P.underlying f.type = some .bool) :
    ∃ F : Nat → Bool, ∀ i, i < len → w.cell? ((a.add (i * fs.size)).add j) = some (.bool (F i)) := by
  have h0 : ∀ i, ∃ z : Bool, i < len → w.cell? ((a.add (i * fs.size)).add j) = some (.bool z) := by
    intro i
    by_cases hi : i < len
    · obtain ⟨v, n, y, hc, ht⟩ := h i hi j f hj
      obtain ⟨z, hv, -⟩ := DataW.trod_bool hu ht
      simp only [List.cons.injEq, and_true] at hv
      subst hv
      exact ⟨z, fun _ => hc⟩
    · exact ⟨false, fun h => absurd h hi⟩
  exact Classical.skolem.1 h0
theorem RowsAt.string {fs : Array Field} {a : Addr} {len : Nat} (h : RowsAt enc P w base spare held fs a len) (j : Nat) (f : Field) (hj : fs[j]? = some f) (hu : P.underlying f.type = some .string) :
    ∃ F : Nat → ByteArray, ∀ i, i < len → w.cell? ((a.add (i * fs.size)).add j) = some (.string (F i)) ∧ (F i).size ≤ maxLen := by
  have h0 : ∀ i, ∃ z : ByteArray, i < len → w.cell? ((a.add (i * fs.size)).add j) = some (.string z) ∧ z.size ≤ maxLen := by
    intro i
    by_cases hi : i < len
    · obtain ⟨v, n, y, hc, ht⟩ := h i hi j f hj
      obtain ⟨z, hv, -, hw⟩ := DataW.trod_string hu ht
      simp only [List.cons.injEq, and_true] at hv
      subst hv
      exact ⟨z, fun _ => ⟨hc, hw⟩⟩
    · exact ⟨ByteArray.empty, fun h => absurd h hi⟩
  exact Classical.skolem.1 h0
end
end Go.Proofs.YtipcdkemokkdfaaGreat

/- Words that laws' frames use: structs with arrays and slices of structs in them, that came in by value. -/
namespace Go.Proofs.YtipcdkemokkdfaaGreat
open Go.ChangeShapes Go.WideShapes Go.ChangeAt Go.RowKit Go.Deep
set_option linter.unusedVariables false
set_option maxRecDepth 100000
theorem len7 (l : List Value) (h : l.length = 7) : ∃ c0 c1 c2 c3 c4 c5 c6, l = [c0, c1, c2, c3, c4, c5, c6] := by
  match l, h with
  | [c0, c1, c2, c3, c4, c5, c6], _ => exact ⟨c0, c1, c2, c3, c4, c5, c6, rfl⟩
section
variable {H : Type} {enc : TypeId × Value → H} {P : Program} {w : World} {base : Nat} {spare : Nat → Bool} {held : Bool}
theorem agg_wide {r : Reach} {b0 : Nat} {t : TypeId} {fs : Array Field} {v : Value} {d : DataW H} {p : List MemPlace} (ht : P.underlying t = some (.struct fs)) {m : Nat} (hC : P.cellsOf t = m)
    (hv : Value.okWide P w r b0 t v) (h : DataW.Trod enc P w base spare held t v d p) :
    ∃ l : List Value, v = .agg ⟨l⟩ ∧ l.length = m ∧ ∀ (j : Nat) (f : Field), fs[j]? = some f → ∃ (n : Nat) (y : DataW H × List MemPlace), DataW.trod enc P w base spare held n f.type ((l.drop f.offset).take (P.cellsOf f.type)) = some y := by
  obtain ⟨⟨l⟩, rfl, hsz⟩ := okWide_struct ht hv
  have hl : l.length = m := by simpa using hsz.trans hC
  refine ⟨l, rfl, hl, fun j f hj => ?_⟩
  obtain ⟨fuel, hf⟩ := h
  obtain ⟨xs, n, _, _, _, hlen, hg⟩ := DataW.trod_struct ht hf
  have hjl : j < fs.size := (Array.getElem?_eq_some_iff.1 hj).1
  have h1 := hg j f hj
  have e : (Value.cells (.agg ⟨l⟩)).toList = l := rfl
  rw [e] at h1
  exact ⟨n, xs[j]'(by omega), h1.trans (List.getElem?_eq_getElem (by omega))⟩
theorem arr_one {t e : TypeId} {m fuel : Nat} {cs : List Value} {x : DataW H × List MemPlace} (ht : P.underlying t = some (.array m e)) (he : P.cellsOf e = 1) (h : DataW.trod enc P w base spare held fuel t cs = some x) (hl : cs.length = m) :
    ∀ (j : Nat), j < m → ∃ (n : Nat) (c : Value) (y : DataW H × List MemPlace), cs[j]? = some c ∧ DataW.trod enc P w base spare held n e [c] = some y := by
  intro j hj
  obtain ⟨xs, n, _, _, _, hlen, hg⟩ := DataW.trod_array ht h
  have h1 := hg j hj
  rw [he, Nat.mul_one] at h1
  have e1 : (cs.drop j).take 1 = [cs[j]'(by omega)] := by rw [List.drop_eq_getElem_cons (by omega)]; rfl
  rw [e1] at h1
  exact ⟨n, cs[j]'(by omega), xs[j]'(by omega), List.getElem?_eq_getElem (by omega), h1.trans (List.getElem?_eq_getElem (by omega))⟩
end
end Go.Proofs.YtipcdkemokkdfaaGreat

/- The library's contracts at this translation's numbers. -/
namespace Go.Proofs
open Go.Shelf
def Tryz.lays125_ren : Go.Shelf.Ren := ⟨fun | 125 => 93 | 128 => 105 | 129 => 106 | n => n, fun | 46 => 138 | 3 => 3 | 51 => 127 | 53 => 74 | 4 => 4 | 5 => 5 | 9 => 9 | n => n, fun | n => n⟩
theorem Tryz.lays125 : Go.Proofs.Lays.n125 Tryz.prog Tryz.lays125_ren := {
  mixed := by kernel_rfl
  f125 := Tryz.func93.trans (congrArg some (by kernel_rfl))
  f128 := Tryz.func105.trans (congrArg some (by kernel_rfl))
  f129 := Tryz.func106.trans (congrArg some (by kernel_rfl))
  t3 := Tryz.underlying3
  a3 := Tryz.isAgg3
  z3 := Tryz.sizeOf3
  v3 := Tryz.zeroValue3
  t4 := Tryz.underlying4
  a4 := Tryz.isAgg4
  z4 := Tryz.sizeOf4
  v4 := Tryz.zeroValue4
  t5 := Tryz.underlying5
  a5 := Tryz.isAgg5
  z5 := Tryz.sizeOf5
  v5 := Tryz.zeroValue5
  t9 := Tryz.underlying9
  a9 := Tryz.isAgg9
  z9 := Tryz.sizeOf9
  v9 := Tryz.zeroValue9
  t46 := Tryz.underlying138
  a46 := Tryz.isAgg138
  z46 := Tryz.sizeOf138
  v46 := Tryz.zeroValue138
  t51 := Tryz.underlying127
  a51 := Tryz.isAgg127
  z51 := Tryz.sizeOf127
  v51 := Tryz.zeroValue127
  t53 := Tryz.underlying74
  a53 := Tryz.isAgg74
  z53 := Tryz.sizeOf74
  v53 := Tryz.zeroValue74 }
theorem Tryz.bits_Len (x : Int) (w : World) (h0 : 0 ≤ x) (h1 : x ≤ 18446744073709551615) :
    Calls Tryz.prog 93 #[.int .u64 x] w fun e w' => e = .returned (.int .i64 (Lib.bitLen x.toNat)) ∧ w' = w := Any.bits_Len Tryz.lays125 x w h0 h1
end Go.Proofs
