/- Words on rows that a call owns, for elements of any number of places; make, append, stores. -/
import Derived.Test.YtdonecbcnkipbaaLi
import Derived.Laws.OwnMore
import Derived.Deep.Draws
namespace Go.Proofs.Ytdonecbcnkipbaa
open Go.ChangeShapes Go.WideShapes Go.ChangeAt Go.RowKit
set_option linter.unusedVariables false
set_option maxRecDepth 100000

/-- A row of the call's own, whose elements lie as f tells. -/
def OwnS {α : Type} (f : α → List Value) (E sz B : Nat) (w : World) (v : Value) (l : List α) : Prop := w.ownsRow B E sz v l.length (l.flatMap f)
def Flat {α : Type} (f : α → List Value) (sz : Nat) : Prop := ∀ x, (f x).length = sz ∧ ∀ u ∈ f x, u.oneCell' = true
section
variable {α : Type} {f : α → List Value} {E sz B : Nat} {w w' : World} {v : Value} {l : List α}
theorem below_dn {B : Nat} {a w : World} (h : Below B a w) (n : Nat) : Below B a (w.drewN n) := ⟨h.os, h.tape, h.output, h.size, h.block⟩
theorem World.grownBy_setCell {w : World} (p : Addr) (u : Value) : w.grownBy (w.setCell p u) (some p.block) :=
  ⟨rfl, rfl, rfl, by simp [World.setCell], fun i _ hne => Below.heap_setCell w p u i (fun e => hne (by rw [e]))⟩
theorem OwnS.nil : OwnS f E sz B w (.slice none 0 0) [] := World.ownsRow_nil _ _ _ _
theorem OwnS.alloc (h : OwnS f E sz B w v l) (o : Obj) : OwnS f E sz B (w.alloc o) v l := World.ownsRow.alloc h o
theorem OwnS.drew (h : OwnS f E sz B w v l) : OwnS f E sz B w.drew v l := h
theorem OwnS.drewN (h : OwnS f E sz B w v l) (n : Nat) : OwnS f E sz B (w.drewN n) v l := h
theorem OwnS.lt (h : OwnS f E sz B w v l) : ∀ k, v.ownBlock = some k → B ≤ k ∧ k < w.heap.size := World.ownsRow.lt h
theorem OwnS.grown (h : OwnS f E sz B w v l) {row : Option Nat} (hg : w.grownBy w' row) (hne : v.ownBlock = none ∨ v.ownBlock ≠ row) : OwnS f E sz B w' v l := World.ownsRow.kept h hg hne
theorem OwnS.kept (h : OwnS f E sz B w v l) (hb : Below w.heap.size w w') : OwnS f E sz B w' v l := by
  refine ⟨h.1, ?_⟩
  rcases h.2 with hn | ⟨g, cap, cur, rfl, hbb, hgg, rest⟩
  · exact .inl hn
  · exact .inr ⟨g, cap, cur, rfl, hbb, (hb.block g (block_lt hgg)).trans hgg, rest⟩
theorem OwnS.setLow (h : OwnS f E sz B w v l) {p : Addr} (hp : p.block < B) (u : Value) : OwnS f E sz B (w.setCell p u) v l := ownsRow_setCell_below h hp u
theorem OwnS.base (h : OwnS f E sz B w v l) {B' : Nat} (hB : B' ≤ B) : OwnS f E sz B' w v l := by
  refine ⟨h.1, ?_⟩
  rcases h.2 with hn | ⟨g, cap, cur, rfl, hbb, rest⟩
  · exact .inl hn
  · exact .inr ⟨g, cap, cur, rfl, Nat.le_trans hB hbb, rest⟩
theorem OwnS.slice (h : OwnS f E sz B w v l) : ∃ a cap, v = .slice a l.length cap := own_slice h
theorem flat_len (hf : Flat f sz) (l : List α) : (l.flatMap f).length = l.length * sz := by
  induction l with
  | nil => simp
  | cons x l ih => simp only [List.flatMap_cons, List.length_append, ih, List.length_cons, (hf x).1, Nat.add_mul]; omega
theorem flat_one (hf : Flat f sz) (l : List α) : ∀ u ∈ l.flatMap f, u.oneCell' = true := by
  intro u hu
  obtain ⟨x, -, hx⟩ := List.mem_flatMap.1 hu
  exact (hf x).2 u hx
theorem flat_get (hf : Flat f sz) (l : List α) (i j : Nat) (x : α) (hi : l[i]? = some x) (hj : j < sz) : (l.flatMap f)[i * sz + j]? = (f x)[j]? := by
  induction l generalizing i with
  | nil => simp at hi
  | cons y l ih =>
    rw [List.flatMap_cons]
    cases i with
    | zero =>
      simp at hi; subst hi
      rw [Nat.zero_mul, Nat.zero_add, List.getElem?_append_left (by rw [(hf y).1]; exact hj)]
    | succ i =>
      have := ih i (by simpa using hi)
      rw [List.getElem?_append_right (by rw [(hf y).1, Nat.add_mul]; omega), (hf y).1, ← this]
      congr 1; rw [Nat.add_mul]; omega
theorem OwnS.form (h : OwnS f E sz B w v l) (hl : 0 < l.length) (hsz : 0 < sz) : ∃ g cap, v = .slice (some ⟨g, 0, none⟩) l.length cap ∧ B ≤ g ∧ g < w.heap.size := by
  rcases h.2 with ⟨-, h0⟩ | ⟨g, cap, cur, rfl, hb, hgg, rest⟩
  · omega
  · exact ⟨g, cap, rfl, hb, block_lt hgg⟩
theorem OwnS.cell {g cap n : Nat} (hf : Flat f sz) (h : OwnS f E sz B w (.slice (some ⟨g, 0, none⟩) n cap) l) (i j : Nat) (x : α) (hi : l[i]? = some x) (hj : j < sz) : w.cell? ⟨g, i * sz + j, none⟩ = (f x)[j]? := by
  have hn : n = l.length := by
    rcases h.2 with ⟨h0, -⟩ | ⟨g', cap', cur', h0, -⟩ <;> simp at h0; omega
  subst hn
  have hlt : i < l.length := (List.getElem?_eq_some_iff.1 hi).1
  have := World.ownsRow.cellAt h (i * sz + j) (Nat.lt_of_lt_of_le (Nat.add_lt_add_left hj _) (by rw [← Nat.succ_mul]; exact Nat.mul_le_mul_right _ hlt))
  rw [this, flat_get hf l i j x hi hj]
theorem OwnS.free {g cap n : Nat} (h : OwnS f E sz B w (.slice (some ⟨g, 0, none⟩) n cap) l) (j : Nat) : w.frozen? ⟨g, j, none⟩ = false := by
  rcases h.2 with ⟨h0, -⟩ | ⟨g', cap', cur, h0, _, hg, _⟩
  · simp at h0
  · simp only [Value.slice.injEq, Option.some.injEq, Addr.mk.injEq, and_true, true_and] at h0
    obtain ⟨rfl, -, -⟩ := h0
    exact free_in hg j
theorem below_of_grown {X w' : World} {row : Option Nat} (hg : X.grownBy w' row) {B : Nat} (hB : B ≤ X.heap.size) (hr : ∀ k, row = some k → B ≤ k) : Below B X w' := (Below.refl _ _).grown hg hB hr
end

/-- append of one element. -/
theorem app_one {P : Program} {α : Type} {f : α → List Value} {E ST sz bytes : Nat} {z0 : Value} (hE : (P.info? E).map (fun i => (i.zero, i.size, i.bytes)) = some (some z0, sz, bytes)) (hz0 : z0.cells.size = sz) (hsz : 0 < sz) (hby : bytes ≤ 64) (hST : P.underlying ST = some (.slice E)) (hf : Flat f sz)
    {X : World} {ops : Array Oper} {rest : List Oper} {o : Oper} {a : Act} {Q : Exit → Act → World → Prop} (hgd : o.guard = none) (s xo : Operand)
    (ho : o.op = .call { callee := .builtin .append, args := #[s, xo], argTypes := #[ST, ST] })
    (B T : Nat) (v : Value) (l : List α) (x : α) (hs : a.eval s = v) (hown : OwnS f E sz B X v l) (g c1 : Nat) (hg : X.heap.size = g) (hx : a.eval xo = .slice (some ⟨g, 0, none⟩) 1 c1) (hl : l.length ≤ 1099511627776) (hB : B ≤ X.heap.size)
    (h : ∀ v' w', OwnS f E sz B w' v' (l ++ [x]) → Below B X w' → X.grownBy w' v.ownBlock → wpList P ops Q rest (a.put o.dst v') w') : wpList P ops Q (o :: rest) a (X.alloc (.cells (f x).toArray T)) := by
  subst hg
  obtain ⟨i0, hi, h1, h2, h3⟩ := info_get hE
  have hnew : ∀ j u, (f x)[j]? = some u → (X.alloc (.cells (f x).toArray T)).cell? ((⟨X.heap.size, 0, none⟩ : Addr).add j) = some u := by
    refine cells_of (fun j hj => ?_)
    rw [cell_in (heap_alloc_new X _)]; simp
  refine wpList_append_own _ hgd s xo ST ho B E i0 z0 sz bytes hST hi h1 h2 h3 hz0 hsz v l.length (l.flatMap f) hs (World.ownsRow.alloc hown _) ⟨X.heap.size, 0, none⟩ 1 c1 (f x) hx (by rw [(hf x).1, Nat.one_mul]) hnew (hf x).2 (by unfold maxLen; omega) ?_ (by simp; omega) ?_
  · calc (l.length + 1) * bytes ≤ (l.length + 1) * 64 := Nat.mul_le_mul_left _ hby
      _ ≤ _ := by omega
  · intro v' w' ho' hg' _
    have e : (l ++ [x]).flatMap f = l.flatMap f ++ f x := by simp
    refine h v' w' ?_ ?_ ?_
    · unfold OwnS; rw [e, List.length_append]; exact ho'
    · exact (Below.alloc (Below.refl _ _) hB _).grown hg' (by simp; omega) (fun k hk => (World.ownsRow.lt hown k hk).1)
    · exact ⟨hg'.os, hg'.tape, hg'.output, Nat.le_trans (by simp) hg'.size, fun k hk hne => (hg'.block k (by simp; omega) hne).trans (Below.heap_alloc _ _ _ hk)⟩

/-- make of n noughts. -/
theorem make_full {P : Program} {α : Type} {f : α → List Value} {E ST sz bytes : Nat} {z0 : Value} (hE : (P.info? E).map (fun i => (i.zero, i.size, i.bytes)) = some (some z0, sz, bytes)) (hby : bytes ≤ 64) (hST : P.underlying ST = some (.slice E)) (x0 : α) (hx0 : z0.cells = (f x0).toArray) (hf : Flat f sz) (hsz : 0 < sz)
    {X : World} {ops : Array Oper} {rest : List Oper} {o : Oper} {a : Act} {Q : Exit → Act → World → Prop} (hgd : o.guard = none) (lo co : Operand) (ho : o.op = .makeSlice ST lo co)
    (kl kc : IntKind) (L C : Int) (n : Nat) (hlo : a.eval lo = .int kl L) (hco : a.eval co = .int kc C) (hL : L = (n : Int)) (hC : C = (n : Int)) (hn : n ≤ 1099511627776)
    (h : ∀ w', OwnS f E sz X.heap.size w' (.slice (some ⟨X.heap.size, 0, none⟩) n n) (List.replicate n x0) → Below X.heap.size X w' → X.heap.size < w'.heap.size → wpList P ops Q rest (a.put o.dst (.slice (some ⟨X.heap.size, 0, none⟩) n n)) w') : wpList P ops Q (o :: rest) a X := by
  obtain ⟨i0, hi, h1, h2, h3⟩ := info_get hE
  refine wpList_make_full X hgd lo co ST ho X.heap.size E i0 z0 sz hST hi h1 h2 kl kc L C n hlo hco hL hC ?_ (by unfold maxLen; omega) (Nat.le_refl _) ?_
  · rw [h3]
    calc bytes * n ≤ 64 * n := Nat.mul_le_mul_right _ hby
      _ ≤ _ := by omega
  · intro w' ho' hg'
    have e : (madeCells z0.cells (n * sz)).toList = (List.replicate n x0).flatMap f := by
      have hlen : (f x0).length = sz := (hf x0).1
      rw [hx0]
      apply List.ext_getElem?
      intro j
      by_cases hj : j < n * sz
      · have hq : j / sz < n := Nat.div_lt_of_lt_mul (by rw [Nat.mul_comm]; exact hj)
        have hr : j % sz < sz := Nat.mod_lt _ hsz
        have hd : j / sz * sz + j % sz = j := by rw [Nat.mul_comm]; exact Nat.div_add_mod j sz
        have := flat_get hf (List.replicate n x0) (j / sz) (j % sz) x0 (by simp [hq]) hr
        rw [hd] at this
        rw [this]
        simp [madeCells, hj, hlen, hr]
      · rw [List.getElem?_eq_none (by rw [Array.length_toList, size_madeCells]; omega), List.getElem?_eq_none (by rw [flat_len hf]; simp; omega)]
    rw [e] at ho'
    have ho2 : OwnS f E sz X.heap.size w' (.slice (some ⟨X.heap.size, 0, none⟩) n n) (List.replicate n x0) := by unfold OwnS; rw [List.length_replicate]; exact ho'
    exact h w' ho2 (below_of_grown hg' (Nat.le_refl _) (fun k hk => by cases hk)) (ho2.lt _ rfl).2

/-- A store of one whole element of one place. -/
theorem OwnS.set1 {α : Type} {f : α → List Value} {E B g n cap : Nat} {w : World} {l : List α} (hf : Flat f 1) (h : OwnS f E 1 B w (.slice (some ⟨g, 0, none⟩) n cap) l) (i : Nat) (x : α) (u : Value) (hu : f x = [u]) (hi : i < l.length) :
    OwnS f E 1 B (w.setCell ⟨g, i, none⟩ u) (.slice (some ⟨g, 0, none⟩) n cap) (l.set i x) := by
  have hn : n = l.length := by
    rcases h.2 with ⟨h0, -⟩ | ⟨g', cap', cur', h0, -⟩ <;> simp at h0; omega
  subst hn
  have := (World.ownsRow.stored h i u).1
  unfold OwnS
  rw [List.length_set]
  have e : (l.set i x).flatMap f = (l.flatMap f).set i u := by
    apply List.ext_getElem?
    intro j
    by_cases hj : j < l.length
    · have h1 := flat_get hf (l.set i x) j 0 (if i = j then x else l[j]) (by by_cases e : i = j <;> simp [e, hj]) (by decide)
      have h2 := flat_get hf l j 0 l[j] (by simp [hj]) (by decide)
      rw [Nat.mul_one, Nat.add_zero] at h1 h2
      have hlf := flat_len hf l
      rw [h1, List.getElem?_set]
      by_cases e : i = j
      · subst e; rw [if_pos rfl, if_pos rfl, hu, if_pos (by omega)]; rfl
      · rw [if_neg e, if_neg e, h2]
    · have hlf := flat_len hf l
      have hlf' := flat_len hf (l.set i x)
      rw [List.getElem?_eq_none (by rw [hlf', List.length_set]; omega), List.getElem?_eq_none (by rw [List.length_set]; omega)]
  rw [e]; exact this

/-- Rows of numbers. -/
def fI (x : Int) : List Value := [.int .i64 x]
theorem flatI : Flat fI 1 := fun x => ⟨rfl, by intro u hu; simp [fI] at hu; subst hu; rfl⟩
theorem flatMap_fI (l : List Int) : l.flatMap fI = intCells l := by
  unfold intCells fI
  induction l with
  | nil => rfl
  | cons x l ih => rw [List.flatMap_cons, ih, List.map_cons]; rfl
abbrev OwnI (B : Nat) (w : World) (v : Value) (l : List Int) : Prop := OwnS fI 3 1 B w v l
theorem app_int {X : World} {ops : Array Oper} {rest : List Oper} {o : Oper} {a : Act} {Q : Exit → Act → World → Prop} (hgd : o.guard = none) (s xo : Operand)
    (ho : o.op = .call { callee := .builtin .append, args := #[s, xo], argTypes := #[36, 36] })
    (B T : Nat) (v : Value) (l : List Int) (x : Int) (hs : a.eval s = v) (hown : OwnI B X v l) (g c1 : Nat) (hg : X.heap.size = g) (hx : a.eval xo = .slice (some ⟨g, 0, none⟩) 1 c1) (hl : l.length ≤ 1099511627776) (hB : B ≤ X.heap.size)
    (h : ∀ v' w', OwnI B w' v' (l ++ [x]) → Below B X w' → X.grownBy w' v.ownBlock → wpList Try.prog ops Q rest (a.put o.dst v') w') : wpList Try.prog ops Q (o :: rest) a (X.alloc (.cells #[.int .i64 x] T)) :=
  app_one (f := fI) info_int rfl (by decide) (by decide) Try.underlying36 flatI hgd s xo ho B T v l x hs hown g c1 hg hx hl hB h
theorem make_int {X : World} {ops : Array Oper} {rest : List Oper} {o : Oper} {a : Act} {Q : Exit → Act → World → Prop} (hgd : o.guard = none) (lo co : Operand) (ho : o.op = .makeSlice 36 lo co)
    (kl kc : IntKind) (L C : Int) (n : Nat) (hlo : a.eval lo = .int kl L) (hco : a.eval co = .int kc C) (hL : L = (n : Int)) (hC : C = (n : Int)) (hn : n ≤ 1099511627776)
    (h : ∀ w', OwnI X.heap.size w' (.slice (some ⟨X.heap.size, 0, none⟩) n n) (List.replicate n 0) → Below X.heap.size X w' → X.heap.size < w'.heap.size → wpList Try.prog ops Q rest (a.put o.dst (.slice (some ⟨X.heap.size, 0, none⟩) n n)) w') : wpList Try.prog ops Q (o :: rest) a X :=
  make_full (f := fI) info_int (by decide) Try.underlying36 0 rfl flatI (by decide) hgd lo co ho kl kc L C n hlo hco hL hC hn h
section
variable {B : Nat} {w : World} {v : Value} {l : List Int}
theorem IsInts.alloc {a : Option Addr} (h : IsInts w a l) (o : Obj) : IsInts (w.alloc o) a l := h.kept ((Below.refl _ _).alloc (Nat.le_refl _) o)
theorem IsL.alloc (h : IsL w v l) (o : Obj) : IsL (w.alloc o) v l := h.kept ((Below.refl _ _).alloc (Nat.le_refl _) o)
theorem own_OwnI (h : w.ownsRow B 3 1 v l.length (intCells l)) : OwnI B w v l := by
  show w.ownsRow B 3 1 v l.length (l.flatMap fI)
  rw [flatMap_fI]; exact h
theorem OwnS.isL (h : OwnI B w v l) (hl : l.length ≤ 70368744177664) : IsL w v l := own_isL (by have h' : w.ownsRow B _ 1 v l.length (l.flatMap fI) := h; rw [flatMap_fI] at h'; exact h') hl
theorem OwnS.int_cell {g n cap : Nat} (h : OwnI B w (.slice (some ⟨g, 0, none⟩) n cap) l) (i : Nat) (hi : i < l.length) : w.cell? ⟨g, i, none⟩ = some (.int .i64 (l.getD i 0)) := by
  have := h.cell flatI i 0 l[i] (by simp [hi]) (by decide)
  rw [Nat.mul_one, Nat.add_zero] at this
  rw [this]
  simp [fI, List.getD_eq_getElem?_getD, hi]
theorem OwnS.set_int {g n cap : Nat} (h : OwnI B w (.slice (some ⟨g, 0, none⟩) n cap) l) (i : Nat) (x : Int) (hi : i < l.length) : OwnI B (w.setCell ⟨g, i, none⟩ (.int .i64 x)) (.slice (some ⟨g, 0, none⟩) n cap) (l.set i x) := h.set1 flatI i x _ rfl hi
end
end Go.Proofs.Ytdonecbcnkipbaa
