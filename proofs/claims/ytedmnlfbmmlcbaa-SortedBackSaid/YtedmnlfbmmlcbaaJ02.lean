import Derived.Test.YtedmnlfbmmlcbaaJ01
import Derived.Laws.OwnMore
import Derived.Deep.Draws
/- Words on rows that a call owns, for elements of any number of places; make, append, stores. -/
namespace Go.Proofs.Ytedmnlfbmmlcbaa
open Go.ChangeShapes Go.WideShapes Go.ChangeAt Go.RowKit
set_option linter.unusedVariables false
set_option maxRecDepth 100000

/-- A row of the call's own, whose elements lie as f tells. -/
def OwnS {α : Type} (f : α → List Value) (E sz B : Nat) (w : World) (v : Value) (l : List α) : Prop := w.ownsRow B E sz v l.length (l.flatMap f)
def Flat {α : Type} (f : α → List Value) (sz : Nat) : Prop := ∀ x, (f x).length = sz ∧ ∀ u ∈ f x, u.oneCell' = true
section
variable {α : Type} {f : α → List Value} {E sz B : Nat} {w w' : World} {v : Value} {l : List α}
theorem below_dn {B : Nat} {a w : World} (h : Below B a w) (n : Nat) : Below B a (w.drewN n) := ⟨h.os, h.tape, h.output, h.size, h.block⟩
theorem World.grownBy_setCell {w : World} (p : Addr) (u : Value) : w.grownBy (w.setCell p u) (some p.block) :=
  ⟨rfl, rfl, rfl, by simp [World.setCell], fun i _ hne => Below.heap_setCell w p u i (fun e => hne (by rw [e]))⟩
theorem OwnS.nil : OwnS f E sz B w (.slice none 0 0) [] := World.ownsRow_nil _ _ _ _
theorem OwnS.alloc (h : OwnS f E sz B w v l) (o : Obj) : OwnS f E sz B (w.alloc o) v l := World.ownsRow.alloc h o
theorem OwnS.drew (h : OwnS f E sz B w v l) : OwnS f E sz B w.drew v l := h
theorem OwnS.drewN (h : OwnS f E sz B w v l) (n : Nat) : OwnS f E sz B (w.drewN n) v l := h
theorem OwnS.lt (h : OwnS f E sz B w v l) : ∀ k, v.ownBlock = some k → B ≤ k ∧ k < w.heap.size := World.ownsRow.lt h
theorem OwnS.grown (h : OwnS f E sz B w v l) {row : Option Nat} (hg : w.grownBy w' row) (hne : v.ownBlock = none ∨ v.ownBlock ≠ row) : OwnS f E sz B w' v l := World.ownsRow.kept h hg hne
theorem OwnS.kept (h : OwnS f E sz B w v l) (hb : Below w.heap.size w w') : OwnS f E sz B w' v l := by
  refine ⟨h.1, ?_⟩
  rcases h.2 with hn | ⟨g, cap, cur, rfl, hbb, hgg, rest⟩
  · exact .inl hn
  · exact .inr ⟨g, cap, cur, rfl, hbb, (hb.block g (block_lt hgg)).trans hgg, rest⟩
theorem OwnS.setLow (h : OwnS f E sz B w v l) {p : Addr} (hp : p.block < B) (u : Value) : OwnS f E sz B (w.setCell p u) v l := ownsRow_setCell_below h hp u
theorem OwnS.base (h : OwnS f E sz B w v l) {B' : Nat} (hB : B' ≤ B) : OwnS f E sz B' w v l := by
  refine ⟨h.1, ?_⟩
  rcases h.2 with hn | ⟨g, cap, cur, rfl, hbb, rest⟩
  · exact .inl hn
  · exact .inr ⟨g, cap, cur, rfl, Nat.le_trans hB hbb, rest⟩
theorem OwnS.slice (h : OwnS f E sz B w v l) : ∃ a cap, v = .slice a l.length cap := own_slice h
theorem flat_len (hf : Flat f sz) (l : List α) : (l.flatMap f).length = l.length * sz := by
  induction l with
  | nil => simp
  | cons x l ih => simp only [List.flatMap_cons, List.length_append, ih, List.length_cons, (hf x).1, Nat.add_mul]; omega
theorem flat_one (hf : Flat f sz) (l : List α) : ∀ u ∈ l.flatMap f, u.oneCell' = true := by
  intro u hu
  obtain ⟨x, -, hx⟩ := List.mem_flatMap.1 hu
  exact (hf x).2 u hx
theorem flat_get (hf : Flat f sz) (l : List α) (i j : Nat) (x : α) (hi : l[i]? = some x) (hj : j < sz) : (l.flatMap f)[i * sz + j]? = (f x)[j]? := by
  induction l generalizing i with
  | nil => simp at hi
  | cons y l ih =>
    rw [List.flatMap_cons]
    cases i with
    | zero =>
      simp at hi; subst hi
      rw [Nat.zero_mul, Nat.zero_add, List.getElem?_append_left (by rw [(hf y).1]; exact hj)]
    | succ i =>
      have := ih i (by simpa using hi)
      rw [List.getElem?_append_right (by rw [(hf y).1, Nat.add_mul]; omega), (hf y).1, ← this]
      congr 1; rw [Nat.add_mul]; omega
theorem OwnS.form (h : OwnS f E sz B w v l) (hl : 0 < l.length) (hsz : 0 < sz) : ∃ g cap, v = .slice (some ⟨g, 0, none⟩) l.length cap ∧ B ≤ g ∧ g < w.heap.size := by
  rcases h.2 with ⟨-, h0⟩ | ⟨g, cap, cur, rfl, hb, hgg, rest⟩
  · omega
  · exact ⟨g, cap, rfl, hb, block_lt hgg⟩
theorem OwnS.cell {g cap n : Nat} (hf : Flat f sz) (h : OwnS f E sz B w (.slice (some ⟨g, 0, none⟩) n cap) l) (i j : Nat) (x : α) (hi : l[i]? = some x) (hj : j < sz) : w.cell? ⟨g, i * sz + j, none⟩ = (f x)[j]? := by
  have hn : n = l.length := by
    rcases h.2 with ⟨h0, -⟩ | ⟨g', cap', cur', h0, -⟩ <;> simp at h0; omega
  subst hn
  have hlt : i < l.length := (List.getElem?_eq_some_iff.1 hi).1
  have := World.ownsRow.cellAt h (i * sz + j) (Nat.lt_of_lt_of_le (Nat.add_lt_add_left hj _) (by rw [← Nat.succ_mul]; exact Nat.mul_le_mul_right _ hlt))
  rw [this, flat_get hf l i j x hi hj]
theorem OwnS.free {g cap n : Nat} (h : OwnS f E sz B w (.slice (some ⟨g, 0, none⟩) n cap) l) (j : Nat) : w.frozen? ⟨g, j, none⟩ = false := by
  rcases h.2 with ⟨h0, -⟩ | ⟨g', cap', cur, h0, _, hg, _⟩
  · simp at h0
  · simp only [Value.slice.injEq, Option.some.injEq, Addr.mk.injEq, and_true, true_and] at h0
    obtain ⟨rfl, -, -⟩ := h0
    exact free_in hg j
theorem below_of_grown {X w' : World} {row : Option Nat} (hg : X.grownBy w' row) {B : Nat} (hB : B ≤ X.heap.size) (hr : ∀ k, row = some k → B ≤ k) : Below B X w' := (Below.refl _ _).grown hg hB hr
end

/-- append of one element. -/
theorem app_one {P : Program} {α : Type} {f : α → List Value} {E ST sz bytes : Nat} {z0 : Value} (hE : (P.info? E).map (fun i => (i.zero, i.size, i.bytes)) = some (some z0, sz, bytes)) (hz0 : z0.cells.size = sz) (hsz : 0 < sz) (hby : bytes ≤ 64) (hST : P.underlying ST = some (.slice E)) (hf : Flat f sz)
    {X : World} {ops : Array Oper} {rest : List Oper} {o : Oper} {a : Act} {Q : Exit → Act → World → Prop} (hgd : o.guard = none) (s xo : Operand)
    (ho : o.op = .call { callee := .builtin .append, args := #[s, xo], argTypes := #[ST, ST] })
    (B T : Nat) (v : Value) (l : List α) (x : α) (hs : a.eval s = v) (hown : OwnS f E sz B X v l) (g c1 : Nat) (hg : X.heap.size = g) (hx : a.eval xo = .slice (some ⟨g, 0, none⟩) 1 c1) (hl : l.length ≤ 1099511627776) (hB : B ≤ X.heap.size)
    (h : ∀ v' w', OwnS f E sz B w' v' (l ++ [x]) → Below B X w' → X.grownBy w' v.ownBlock → wpList P ops Q rest (a.put o.dst v') w') : wpList P ops Q (o :: rest) a (X.alloc (.cells (f x).toArray T)) := by
  subst hg
  obtain ⟨i0, hi, h1, h2, h3⟩ := info_get hE
  have hnew : ∀ j u, (f x)[j]? = some u → (X.alloc (.cells (f x).toArray T)).cell? ((⟨X.heap.size, 0, none⟩ : Addr).add j) = some u := by
    refine cells_of (fun j hj => ?_)
    rw [cell_in (heap_alloc_new X _)]; simp
  refine wpList_append_own _ hgd s xo ST ho B E i0 z0 sz bytes hST hi h1 h2 h3 hz0 hsz v l.length (l.flatMap f) hs (World.ownsRow.alloc hown _) ⟨X.heap.size, 0, none⟩ 1 c1 (f x) hx (by rw [(hf x).1, Nat.one_mul]) hnew (hf x).2 (by unfold maxLen; omega) ?_ (by simp; omega) ?_
  · calc (l.length + 1) * bytes ≤ (l.length + 1) * 64 := Nat.mul_le_mul_left _ hby
      _ ≤ _ := by omega
  · intro v' w' ho' hg' _
    have e : (l ++ [x]).flatMap f = l.flatMap f ++ f x := by simp
    refine h v' w' ?_ ?_ ?_
    · unfold OwnS; rw [e, List.length_append]; exact ho'
    · exact (Below.alloc (Below.refl _ _) hB _).grown hg' (by simp; omega) (fun k hk => (World.ownsRow.lt hown k hk).1)
    · exact ⟨hg'.os, hg'.tape, hg'.output, Nat.le_trans (by simp) hg'.size, fun k hk hne => (hg'.block k (by simp; omega) hne).trans (Below.heap_alloc _ _ _ hk)⟩

/-- make of n noughts. -/
theorem make_full {P : Program} {α : Type} {f : α → List Value} {E ST sz bytes : Nat} {z0 : Value} (hE : (P.info? E).map (fun i => (i.zero, i.size, i.bytes)) = some (some z0, sz, bytes)) (hby : bytes ≤ 64) (hST : P.underlying ST = some (.slice E)) (x0 : α) (hx0 : z0.cells = (f x0).toArray) (hf : Flat f sz) (hsz : 0 < sz)
    {X : World} {ops : Array Oper} {rest : List Oper} {o : Oper} {a : Act} {Q : Exit → Act → World → Prop} (hgd : o.guard = none) (lo co : Operand) (ho : o.op = .makeSlice ST lo co)
    (kl kc : IntKind) (L C : Int) (n : Nat) (hlo : a.eval lo = .int kl L) (hco : a.eval co = .int kc C) (hL : L = (n : Int)) (hC : C = (n : Int)) (hn : n ≤ 1099511627776)
    (h : ∀ w', OwnS f E sz X.heap.size w' (.slice (some ⟨X.heap.size, 0, none⟩) n n) (List.replicate n x0) → Below X.heap.size X w' → X.heap.size < w'.heap.size → wpList P ops Q rest (a.put o.dst (.slice (some ⟨X.heap.size, 0, none⟩) n n)) w') : wpList P ops Q (o :: rest) a X := by
  obtain ⟨i0, hi, h1, h2, h3⟩ := info_get hE
  refine wpList_make_full X hgd lo co ST ho X.heap.size E i0 z0 sz hST hi h1 h2 kl kc L C n hlo hco hL hC ?_ (by unfold maxLen; omega) (Nat.le_refl _) ?_
  · rw [h3]
    calc bytes * n ≤ 64 * n := Nat.mul_le_mul_right _ hby
      _ ≤ _ := by omega
  · intro w' ho' hg'
    have e : (madeCells z0.cells (n * sz)).toList = (List.replicate n x0).flatMap f := by
      have hlen : (f x0).length = sz := (hf x0).1
      rw [hx0]
      apply List.ext_getElem?
      intro j
      by_cases hj : j < n * sz
      · have hq : j / sz < n := Nat.div_lt_of_lt_mul (by rw [Nat.mul_comm]; exact hj)
        have hr : j % sz < sz := Nat.mod_lt _ hsz
        have hd : j / sz * sz + j % sz = j := by rw [Nat.mul_comm]; exact Nat.div_add_mod j sz
        have := flat_get hf (List.replicate n x0) (j / sz) (j % sz) x0 (by simp [hq]) hr
        rw [hd] at this
        rw [this]
        simp [madeCells, hj, hlen, hr]
      · rw [List.getElem?_eq_none (by rw [Array.length_toList, size_madeCells]; omega), List.getElem?_eq_none (by rw [flat_len hf]; simp; omega)]
    rw [e] at ho'
    have ho2 : OwnS f E sz X.heap.size w' (.slice (some ⟨X.heap.size, 0, none⟩) n n) (List.replicate n x0) := by unfold OwnS; rw [List.length_replicate]; exact ho'
    exact h w' ho2 (below_of_grown hg' (Nat.le_refl _) (fun k hk => by cases hk)) (ho2.lt _ rfl).2

/-- A store of one whole element of one place. -/
theorem OwnS.set1 {α : Type} {f : α → List Value} {E B g n cap : Nat} {w : World} {l : List α} (hf : Flat f 1) (h : OwnS f E 1 B w (.slice (some ⟨g, 0, none⟩) n cap) l) (i : Nat) (x : α) (u : Value) (hu : f x = [u]) (hi : i < l.length) :
    OwnS f E 1 B (w.setCell ⟨g, i, none⟩ u) (.slice (some ⟨g, 0, none⟩) n cap) (l.set i x) := by
  have hn : n = l.length := by
    rcases h.2 with ⟨h0, -⟩ | ⟨g', cap', cur', h0, -⟩ <;> simp at h0; omega
  subst hn
  have := (World.ownsRow.stored h i u).1
  unfold OwnS
  rw [List.length_set]
  have e : (l.set i x).flatMap f = (l.flatMap f).set i u := by
    apply List.ext_getElem?
    intro j
    by_cases hj : j < l.length
    · have h1 := flat_get hf (l.set i x) j 0 (if i = j then x else l[j]) (by by_cases e : i = j <;> simp [e, hj]) (by decide)
      have h2 := flat_get hf l j 0 l[j] (by simp [hj]) (by decide)
      rw [Nat.mul_one, Nat.add_zero] at h1 h2
      have hlf := flat_len hf l
      rw [h1, List.getElem?_set]
      by_cases e : i = j
      · subst e; rw [if_pos rfl, if_pos rfl, hu, if_pos (by omega)]; rfl
      · rw [if_neg e, if_neg e, h2]
    · have hlf := flat_len hf l
      have hlf' := flat_len hf (l.set i x)
      rw [List.getElem?_eq_none (by rw [hlf', List.length_set]; omega), List.getElem?_eq_none (by rw [List.length_set]; omega)]
  rw [e]; exact this

/-- Rows of numbers. -/
def fI (x : Int) : List Value := [.int .i64 x]
theorem flatI : Flat fI 1 := fun x => ⟨rfl, by intro u hu; simp [fI] at hu; subst hu; rfl⟩
theorem flatMap_fI (l : List Int) : l.flatMap fI = intCells l := by
  unfold intCells fI
  induction l with
  | nil => rfl
  | cons x l ih => rw [List.flatMap_cons, ih, List.map_cons]; rfl
abbrev OwnI (B : Nat) (w : World) (v : Value) (l : List Int) : Prop := OwnS fI 3 1 B w v l
theorem app_int {X : World} {ops : Array Oper} {rest : List Oper} {o : Oper} {a : Act} {Q : Exit → Act → World → Prop} (hgd : o.guard = none) (s xo : Operand)
    (ho : o.op = .call { callee := .builtin .append, args := #[s, xo], argTypes := #[29, 29] })
    (B T : Nat) (v : Value) (l : List Int) (x : Int) (hs : a.eval s = v) (hown : OwnI B X v l) (g c1 : Nat) (hg : X.heap.size = g) (hx : a.eval xo = .slice (some ⟨g, 0, none⟩) 1 c1) (hl : l.length ≤ 1099511627776) (hB : B ≤ X.heap.size)
    (h : ∀ v' w', OwnI B w' v' (l ++ [x]) → Below B X w' → X.grownBy w' v.ownBlock → wpList Try.prog ops Q rest (a.put o.dst v') w') : wpList Try.prog ops Q (o :: rest) a (X.alloc (.cells #[.int .i64 x] T)) :=
  app_one (f := fI) info_int rfl (by decide) (by decide) Try.underlying29 flatI hgd s xo ho B T v l x hs hown g c1 hg hx hl hB h
theorem make_int {X : World} {ops : Array Oper} {rest : List Oper} {o : Oper} {a : Act} {Q : Exit → Act → World → Prop} (hgd : o.guard = none) (lo co : Operand) (ho : o.op = .makeSlice 29 lo co)
    (kl kc : IntKind) (L C : Int) (n : Nat) (hlo : a.eval lo = .int kl L) (hco : a.eval co = .int kc C) (hL : L = (n : Int)) (hC : C = (n : Int)) (hn : n ≤ 1099511627776)
    (h : ∀ w', OwnI X.heap.size w' (.slice (some ⟨X.heap.size, 0, none⟩) n n) (List.replicate n 0) → Below X.heap.size X w' → X.heap.size < w'.heap.size → wpList Try.prog ops Q rest (a.put o.dst (.slice (some ⟨X.heap.size, 0, none⟩) n n)) w') : wpList Try.prog ops Q (o :: rest) a X :=
  make_full (f := fI) info_int (by decide) Try.underlying29 0 rfl flatI (by decide) hgd lo co ho kl kc L C n hlo hco hL hC hn h
section
variable {B : Nat} {w : World} {v : Value} {l : List Int}
theorem IsInts.alloc {a : Option Addr} (h : IsInts w a l) (o : Obj) : IsInts (w.alloc o) a l := h.kept ((Below.refl _ _).alloc (Nat.le_refl _) o)
theorem IsL.alloc (h : IsL w v l) (o : Obj) : IsL (w.alloc o) v l := h.kept ((Below.refl _ _).alloc (Nat.le_refl _) o)
theorem own_OwnI (h : w.ownsRow B 3 1 v l.length (intCells l)) : OwnI B w v l := by
  show w.ownsRow B 3 1 v l.length (l.flatMap fI)
  rw [flatMap_fI]; exact h
theorem OwnS.isL (h : OwnI B w v l) (hl : l.length ≤ 70368744177664) : IsL w v l := own_isL (by have h' : w.ownsRow B _ 1 v l.length (l.flatMap fI) := h; rw [flatMap_fI] at h'; exact h') hl
theorem OwnS.int_cell {g n cap : Nat} (h : OwnI B w (.slice (some ⟨g, 0, none⟩) n cap) l) (i : Nat) (hi : i < l.length) : w.cell? ⟨g, i, none⟩ = some (.int .i64 (l.getD i 0)) := by
  have := h.cell flatI i 0 l[i] (by simp [hi]) (by decide)
  rw [Nat.mul_one, Nat.add_zero] at this
  rw [this]
  simp [fI, List.getD_eq_getElem?_getD, hi]
theorem OwnS.set_int {g n cap : Nat} (h : OwnI B w (.slice (some ⟨g, 0, none⟩) n cap) l) (i : Nat) (x : Int) (hi : i < l.length) : OwnI B (w.setCell ⟨g, i, none⟩ (.int .i64 x)) (.slice (some ⟨g, 0, none⟩) n cap) (l.set i x) := h.set1 flatI i x _ rfl hi
end
end Go.Proofs.Ytedmnlfbmmlcbaa

/- Words on rows of bits: rows that a call owns, rows that are only read. -/
namespace Go.Proofs.Ytedmnlfbmmlcbaa
open Go.ChangeShapes Go.WideShapes Go.ChangeAt Go.RowKit
set_option linter.unusedVariables false
set_option maxRecDepth 100000
def fB (x : Bool) : List Value := [.bool x]
theorem flatB : Flat fB 1 := fun x => ⟨rfl, by intro u hu; simp [fB] at hu; subst hu; rfl⟩
theorem info_bool : (Try.prog.info? 4).map (fun i => (i.zero, i.size, i.bytes)) = some (some (.bool false), 1, 1) := by kernel_rfl
abbrev OwnB (B : Nat) (w : World) (v : Value) (l : List Bool) : Prop := OwnS fB 4 1 B w v l
def IsBoo (w : World) (a : Option Addr) (l : List Bool) : Prop := l = [] ∨ ∃ x, a = some x ∧ ∀ i, i < l.length → w.cell? (x.add i) = some (.bool (l.getD i false))
def IsB (w : World) (v : Value) (l : List Bool) : Prop := ∃ a cap, v = .slice a l.length cap ∧ IsBoo w a l
theorem IsBoo.at {w : World} {a : Option Addr} {l : List Bool} (h : IsBoo w a l) (k : Nat) (hk : k < l.length) : ∃ x : Addr, a = some x ∧ x.block < w.heap.size ∧ w.cell? (x.add k) = some (.bool (l.getD k false)) := by
  rcases h with rfl | ⟨x, rfl, hc⟩
  · simp at hk
  · have := cell_block (hc 0 (by omega))
    exact ⟨x, rfl, by rwa [add_block] at this, hc k hk⟩
theorem IsBoo.kept {w w' : World} {a : Option Addr} {l : List Bool} (h : IsBoo w a l) (hb : Below w.heap.size w w') : IsBoo w' a l := by
  rcases h with rfl | ⟨x, rfl, hc⟩
  · exact .inl rfl
  · exact .inr ⟨x, rfl, fun i hi => by rw [hb.cell (cell_block (hc i hi))]; exact hc i hi⟩
theorem IsBoo.drewN {w : World} {a : Option Addr} {l : List Bool} (h : IsBoo w a l) (k : Nat) : IsBoo (w.drewN k) a l := h
theorem IsB.kept {w w' : World} {v : Value} {l : List Bool} (h : IsB w v l) (hb : Below w.heap.size w w') : IsB w' v l := by
  obtain ⟨a, c, e, h⟩ := h; exact ⟨a, c, e, h.kept hb⟩
theorem IsB.nil (w : World) : IsB w (.slice none 0 0) [] := ⟨none, 0, rfl, .inl rfl⟩
theorem OwnB.isB {B : Nat} {w : World} {v : Value} {l : List Bool} (h : OwnB B w v l) : IsB w v l := by
  rcases h.2 with ⟨rfl, h0⟩ | ⟨g, cap, cur, rfl, -⟩
  · have : l = [] := List.length_eq_zero_iff.1 h0
    subst this; exact IsB.nil w
  · refine ⟨_, cap, rfl, .inr ⟨_, rfl, fun i hi => ?_⟩⟩
    have e : (⟨g, 0, none⟩ : Addr).add i = ⟨g, i, none⟩ := by unfold Addr.add; split <;> simp_all
    have := OwnS.cell flatB h i 0 (l.getD i false) (by simp [List.getD, hi]) (by decide)
    rw [e]; simpa [fB] using this
theorem IsBoo.lit (w : World) (zs : List Bool) (t : Nat) : IsBoo (w.alloc (.cells (zs.map Value.bool).toArray t)) (some ⟨w.heap.size, 0, none⟩) zs := by
  refine .inr ⟨_, rfl, fun i hi => ?_⟩
  have e : (⟨w.heap.size, 0, none⟩ : Addr).add i = ⟨w.heap.size, i, none⟩ := by unfold Addr.add; split <;> simp_all
  rw [e, cell_in (heap_alloc_new w _) i]
  simp [hi]
theorem IsB.lit (w : World) (zs : List Bool) (t c : Nat) : IsB (w.alloc (.cells (zs.map Value.bool).toArray t)) (.slice (some ⟨w.heap.size, 0, none⟩) zs.length c) zs := ⟨_, _, rfl, IsBoo.lit w zs t⟩
theorem takeB (l : List Bool) (k : Nat) (h : k < l.length) : l.take (k + 1) = l.take k ++ [l.getD k false] := by
  rw [List.take_succ_eq_append_getElem h]; simp [List.getD_eq_getElem?_getD, h]
theorem dropB (l : List Bool) (k : Nat) (h : k < l.length) : l.drop k = l.getD k false :: l.drop (k + 1) := by
  rw [List.drop_eq_getElem_cons h]; simp [List.getD_eq_getElem?_getD, h]
theorem app_bool {X : World} {ops : Array Oper} {rest : List Oper} {o : Oper} {a : Act} {Q : Exit → Act → World → Prop} (hgd : o.guard = none) (s xo : Operand)
    (ho : o.op = .call { callee := .builtin .append, args := #[s, xo], argTypes := #[54, 54] })
    (B T : Nat) (v : Value) (l : List Bool) (x : Bool) (hs : a.eval s = v) (hown : OwnB B X v l) (g c1 : Nat) (hg : X.heap.size = g) (hx : a.eval xo = .slice (some ⟨g, 0, none⟩) 1 c1) (hl : l.length ≤ 1099511627776) (hB : B ≤ X.heap.size)
    (h : ∀ v' w', OwnB B w' v' (l ++ [x]) → Below B X w' → X.grownBy w' v.ownBlock → wpList Try.prog ops Q rest (a.put o.dst v') w') : wpList Try.prog ops Q (o :: rest) a (X.alloc (.cells #[.bool x] T)) :=
  app_one (f := fB) info_bool rfl (by decide) (by decide) Try.underlying54 flatB hgd s xo ho B T v l x hs hown g c1 hg hx hl hB h
theorem make_bool {X : World} {ops : Array Oper} {rest : List Oper} {o : Oper} {a : Act} {Q : Exit → Act → World → Prop} (hgd : o.guard = none) (lo co : Operand) (ho : o.op = .makeSlice 54 lo co)
    (kl kc : IntKind) (L C : Int) (n : Nat) (hlo : a.eval lo = .int kl L) (hco : a.eval co = .int kc C) (hL : L = (n : Int)) (hC : C = (n : Int)) (hn : n ≤ 1099511627776)
    (h : ∀ w', OwnB X.heap.size w' (.slice (some ⟨X.heap.size, 0, none⟩) n n) (List.replicate n false) → Below X.heap.size X w' → X.heap.size < w'.heap.size → wpList Try.prog ops Q rest (a.put o.dst (.slice (some ⟨X.heap.size, 0, none⟩) n n)) w') : wpList Try.prog ops Q (o :: rest) a X :=
  make_full (f := fB) info_bool (by decide) Try.underlying54 false rfl flatB (by decide) hgd lo co ho kl kc L C n hlo hco hL hC hn h
/-- What a call keeps that only writes to the row that it was given: all but that row's own block. -/
def Row1 (w : World) (v : Value) (w' : World) (v' : Value) : Prop := Keeps (fun k => v.ownBlock = some k) w w' ∧ ∀ k, v'.ownBlock = some k → v.ownBlock = some k ∨ w.heap.size ≤ k
theorem Row1.refl (w : World) (v : Value) : Row1 w v w v := ⟨Keeps.refl _ _, fun k h => .inl h⟩
theorem Row1.trans {w w1 w2 : World} {v v1 v2 : Value} (h : Row1 w v w1 v1) (h2 : Row1 w1 v1 w2 v2) : Row1 w v w2 v2 := by
  refine ⟨h.1.trans' h2.1 (fun j hj hs => ?_), fun k hk => ?_⟩
  · rcases h.2 j hs with e | e
    · exact e
    · omega
  · have hsz := h.1.size
    rcases h2.2 k hk with e | e
    · exact h.2 k e
    · exact .inr (by omega)
theorem Row1.below {B : Nat} {w w' : World} {v v' : Value} (h : Row1 w v w' v') (hB : B ≤ w.heap.size) (hv : ∀ k, v.ownBlock = some k → B ≤ k) : Below B w w' := h.1.below (fun k hk => ⟨by omega, fun e => by have := hv k e; omega⟩)
theorem Row1.drewN {w w1 : World} {v v1 : Value} (h : Row1 w v w1 v1) (n : Nat) : Row1 w v (w1.drewN n) v1 := ⟨h.1.drewN n, h.2⟩
theorem app_bool1 {X : World} {ops : Array Oper} {rest : List Oper} {o : Oper} {a : Act} {Q : Exit → Act → World → Prop} (hgd : o.guard = none) (s xo : Operand)
    (ho : o.op = .call { callee := .builtin .append, args := #[s, xo], argTypes := #[54, 54] })
    (B T : Nat) (v : Value) (l : List Bool) (x : Bool) (hs : a.eval s = v) (hown : OwnB B X v l) (g c1 : Nat) (hg : X.heap.size = g) (hx : a.eval xo = .slice (some ⟨g, 0, none⟩) 1 c1) (hl : l.length ≤ 1099511627776) (hB : B ≤ X.heap.size)
    (h : ∀ v' w', OwnB B w' v' (l ++ [x]) → Row1 X v w' v' → wpList Try.prog ops Q rest (a.put o.dst v') w') : wpList Try.prog ops Q (o :: rest) a (X.alloc (.cells #[.bool x] T)) := by
  subst hg
  obtain ⟨i0, hi, h1, h2, h3⟩ := info_get info_bool
  refine wpList_append_at _ hgd s xo 54 ho B 4 i0 (.bool false) 1 Try.underlying54 hi h1 h2 h3 rfl v l.length (l.flatMap fB) hs (World.ownsRow.alloc hown _) ⟨X.heap.size, 0, none⟩ 1 c1 [.bool x] hx rfl (cell_new1 X _ T _ rfl) (by intro u hu; simp at hu; subst hu; rfl) (by unfold maxLen; omega) (by omega) (by simp; omega) (by decide) ?_
  intro k cap w' ho' hg' hk
  have e : (l ++ [x]).flatMap fB = l.flatMap fB ++ [.bool x] := by simp [fB]
  refine h _ w' ?_ ⟨((Keeps.refl _ X).alloc _).grown hg' (fun j hj => .inr hj), fun j hj => ?_⟩
  · unfold OwnB OwnS; rw [e, List.length_append]; exact ho'
  · obtain rfl : k = j := by simpa [Value.ownBlock] using hj
    rcases hk with hk | hk
    · exact .inl hk
    · exact .inr (by simp at hk; omega)
end Go.Proofs.Ytedmnlfbmmlcbaa

/- Layer 45: the mathematics of spans: settling, steps, codes, and that decoding undoes them. -/
namespace Go.Proofs.Ytedmnlfbmmlcbaa.Range
set_option linter.unusedVariables false
set_option maxRecDepth 100000

/-- Bytes that sttl, with fuel. -/
def sttl : Nat → Nat → Nat → List UInt8 × Nat × Nat
  | 0, a, b => ([], a, b)
  | f + 1, a, b => if a / 16777216 = b / 16777216 then
      ((UInt8.ofNat (a / 16777216)) :: (sttl f (a % 16777216 * 256) (b % 16777216 * 256 + 255)).1, (sttl f (a % 16777216 * 256) (b % 16777216 * 256 + 255)).2)
    else ([], a, b)
/-- Wide enough for so many rounds. -/
def Wide (f a b : Nat) : Prop := a ≤ b ∧ b < 4294967296 ∧ f ≤ 4 ∧ 4294967296 ≤ (b - a + 1) * 256 ^ f
def Apart (a b : Nat) : Prop := a ≤ b ∧ b < 4294967296 ∧ a / 16777216 ≠ b / 16777216
theorem wide4 (a b : Nat) (h : a ≤ b) (hb : b < 4294967296) : Wide 4 a b := ⟨h, hb, by omega, by
  have : 1 * 256 ^ 4 ≤ (b - a + 1) * 256 ^ 4 := Nat.mul_le_mul_right _ (by omega)
  omega⟩
theorem wide0 {a b : Nat} (h : Wide 0 a b) : a / 16777216 ≠ b / 16777216 := by
  obtain ⟨h1, h2, -, h4⟩ := h
  simp at h4; omega
theorem wide_next {f a b : Nat} (h : Wide (f + 1) a b) (he : a / 16777216 = b / 16777216) : Wide f (a % 16777216 * 256) (b % 16777216 * 256 + 255) := by
  obtain ⟨h1, h2, h3, h4⟩ := h
  refine ⟨by omega, by omega, by omega, ?_⟩
  rw [Nat.pow_succ] at h4
  have e : b % 16777216 * 256 + 255 - a % 16777216 * 256 + 1 = (b - a + 1) * 256 := by omega
  rw [e, Nat.mul_assoc, Nat.mul_comm 256]; exact h4
theorem settle_apart (f a b : Nat) (h : Wide f a b) : Apart (sttl f a b).2.1 (sttl f a b).2.2 := by
  induction f generalizing a b with
  | zero => exact ⟨h.1, h.2.1, wide0 h⟩
  | succ f ih =>
    unfold sttl
    by_cases he : a / 16777216 = b / 16777216
    · rw [if_pos he]; exact ih _ _ (wide_next h he)
    · rw [if_neg he]; exact ⟨h.1, h.2.1, he⟩
theorem settle_len (f a b : Nat) : (sttl f a b).1.length ≤ f := by
  induction f generalizing a b with
  | zero => simp [sttl]
  | succ f ih =>
    unfold sttl
    by_cases he : a / 16777216 = b / 16777216
    · rw [if_pos he]; simp; exact ih _ _
    · rw [if_neg he]; simp
theorem settle_yes {f a b : Nat} (he : a / 16777216 = b / 16777216) : sttl (f + 1) a b = ((UInt8.ofNat (a / 16777216)) :: (sttl f (a % 16777216 * 256) (b % 16777216 * 256 + 255)).1, (sttl f (a % 16777216 * 256) (b % 16777216 * 256 + 255)).2) := by
  rw [sttl, if_pos he]
theorem settle_no {f a b : Nat} (he : a / 16777216 ≠ b / 16777216) : sttl f a b = ([], a, b) := by
  cases f with
  | zero => rfl
  | succ f => rw [sttl, if_neg he]
/-- The middle. -/
def mid (a b p : Nat) : Nat := a + (b - a) / 2048 * p
theorem mid_le (a b p : Nat) (h : a ≤ b) (hp : p < 2048) : a ≤ mid a b p ∧ mid a b p ≤ b ∧ (a < b → mid a b p < b) ∧ (b - a) / 2048 * p ≤ b - a := by
  unfold mid
  have h1 : (b - a) / 2048 * p ≤ (b - a) / 2048 * 2047 := Nat.mul_le_mul_left _ (by omega)
  have h2 : (b - a) / 2048 * 2047 ≤ b - a := by omega
  generalize (b - a) / 2048 * p = q at *
  exact ⟨by omega, by omega, by omega, by omega⟩
/-- Behind a bit. -/
def part (a b p : Nat) (bit : Bool) : List UInt8 × Nat × Nat := if bit then sttl 4 (mid a b p + 1) b else sttl 4 a (mid a b p)
theorem apart_lt {a b : Nat} (h : Apart a b) : a < b := by
  obtain ⟨h1, h2, h3⟩ := h
  rcases Nat.lt_or_ge a b with h | h
  · exact h
  · exact absurd (by rw [show a = b by omega]) h3
theorem part_apart {a b p : Nat} {bit : Bool} (h : Apart a b) (hp : p < 2048) : Apart (part a b p bit).2.1 (part a b p bit).2.2 := by
  have hm := mid_le a b p h.1 hp
  have hlt := hm.2.2.1 (apart_lt h)
  have h2 := h.2.1
  unfold part
  cases bit
  · rw [if_neg (by decide)]; exact settle_apart _ _ _ (wide4 _ _ hm.1 (by omega))
  · rw [if_pos rfl]; exact settle_apart _ _ _ (wide4 _ _ (by omega) h2)
/-- The bytes of a. -/
def four (a : Nat) : List UInt8 := [UInt8.ofNat (a / 16777216), UInt8.ofNat (a / 65536 % 256), UInt8.ofNat (a / 256 % 256), UInt8.ofNat (a % 256)]
/-- Whatever is told from a span on: the settled bytes, and the span that is left. -/
def run : Nat → Nat → List (Bool × Nat) → List UInt8 × Nat × Nat
  | a, b, [] => ([], a, b)
  | a, b, (bit, p) :: l => ((part a b p bit).1 ++ (run (part a b p bit).2.1 (part a b p bit).2.2 l).1, (run (part a b p bit).2.1 (part a b p bit).2.2 l).2)
theorem run_snoc (a b : Nat) (l : List (Bool × Nat)) (bit : Bool) (p : Nat) : run a b (l ++ [(bit, p)]) =
    ((run a b l).1 ++ (part (run a b l).2.1 (run a b l).2.2 p bit).1, (part (run a b l).2.1 (run a b l).2.2 p bit).2) := by
  induction l generalizing a b with
  | nil => simp [run]
  | cons x l ih => obtain ⟨c, q⟩ := x; simp only [List.cons_append, run, ih, List.append_assoc]
theorem run_apart (a b : Nat) (l : List (Bool × Nat)) (h : Apart a b) (hl : ∀ x ∈ l, x.2 < 2048) : Apart (run a b l).2.1 (run a b l).2.2 := by
  induction l generalizing a b with
  | nil => exact h
  | cons x l ih => obtain ⟨c, q⟩ := x; exact ih _ _ (part_apart h (hl (c, q) (by simp))) (fun y hy => hl y (by simp [hy]))
theorem part_len (a b p : Nat) (bit : Bool) : (part a b p bit).1.length ≤ 4 := by
  unfold part; split <;> exact settle_len _ _ _
theorem run_len (a b : Nat) (l : List (Bool × Nat)) : (run a b l).1.length ≤ 4 * l.length := by
  induction l generalizing a b with
  | nil => simp [run]
  | cons x l ih => obtain ⟨c, q⟩ := x; simp only [run, List.length_append, List.length_cons]; have := part_len a b q c; have := ih (part a b q c).2.1 (part a b q c).2.2; omega
def top : Nat := 4294967295
theorem apart_all : Apart 0 top := ⟨by decide, by decide, by decide⟩
def told (l : List (Bool × Nat)) : List UInt8 := if l = [] then [] else (run 0 top l).1 ++ four (run 0 top l).2.1

/-- The number of the first four bytes, and what is moved in. -/
def first (n : Nat) (s : List UInt8) : Nat := match n with
  | 0 => 0
  | n + 1 => (s.getD 0 0).toNat * 256 ^ n + first n (s.drop 1)
def moveB (x : Nat) (s : List UInt8) : Nat × List UInt8 := (x % 16777216 * 256 + (s.getD 0 0).toNat, s.drop 1)
def moves : Nat → Nat → List UInt8 → Nat × List UInt8
  | 0, x, s => (x, s)
  | n + 1, x, s => moves n (moveB x s).1 (moveB x s).2
theorem moves_succ (n x : Nat) (s : List UInt8) : moves (n + 1) x s = moveB (moves n x s).1 (moves n x s).2 := by
  induction n generalizing x s with
  | zero => rfl
  | succ n ih => rw [moves, ih]; rfl
theorem move_lt (x : Nat) (s : List UInt8) : (moveB x s).1 < 4294967296 := by
  unfold moveB; have := (s.getD 0 0).toNat_lt; simp only; omega
theorem first4 (s : List UInt8) : first 4 s = (s.getD 0 0).toNat * 16777216 + (s.getD 1 0).toNat * 65536 + (s.getD 2 0).toNat * 256 + (s.getD 3 0).toNat := by
  simp [first, List.getD_eq_getElem?_getD]; omega
theorem moves_four (s : List UInt8) : moves 4 0 s = (first 4 s, s.drop 4) := by
  rw [first4]
  have h0 := (s.getD 0 0).toNat_lt
  have h1 := (s.getD 1 0).toNat_lt
  have h2 := (s.getD 2 0).toNat_lt
  have h3 := (s.getD 3 0).toNat_lt
  simp only [moves, moveB, List.drop_drop, List.getD_eq_getElem?_getD, List.getElem?_drop] at *
  congr 1
  simp only [Nat.add_zero, Nat.reduceAdd] at *
  omega
theorem first_move (s : List UInt8) : moveB (first 4 s) (s.drop 4) = (first 4 (s.drop 1), s.drop 5) := by
  rw [first4, first4]
  have h0 := (s.getD 0 0).toNat_lt
  have h1 := (s.getD 1 0).toNat_lt
  have h2 := (s.getD 2 0).toNat_lt
  have h3 := (s.getD 3 0).toNat_lt
  simp only [moveB, List.drop_drop, List.getD_eq_getElem?_getD, List.getElem?_drop] at *
  congr 1
  simp only [Nat.add_zero, Nat.reduceAdd] at *
  omega
theorem first_moves (n : Nat) (s : List UInt8) : moves n (first 4 s) (s.drop 4) = (first 4 (s.drop n), s.drop (n + 4)) := by
  induction n with
  | zero => rfl
  | succ n ih => rw [moves_succ, ih]; have := first_move (s.drop n); rw [List.drop_drop, List.drop_drop, List.drop_drop] at this; rw [this]
/-- A decoder's bit. -/
structure Dec where
  a : Nat
  b : Nat
  x : Nat
  s : List UInt8
def fresh (s : List UInt8) : Dec := ⟨0, top, (moves 4 0 s).1, (moves 4 0 s).2⟩
def bitOf (d : Dec) (p : Nat) : Bool := decide (mid d.a d.b p < d.x)
def behind (d : Dec) (p : Nat) : Dec :=
  ⟨(part d.a d.b p (bitOf d p)).2.1, (part d.a d.b p (bitOf d p)).2.2, (moves (part d.a d.b p (bitOf d p)).1.length d.x d.s).1, (moves (part d.a d.b p (bitOf d p)).1.length d.x d.s).2⟩
def undo : Dec → List Nat → List Bool
  | _, [] => []
  | d, p :: l => bitOf d p :: undo (behind d p) l
def after : Dec → List Nat → Dec
  | d, [] => d
  | d, p :: l => after (behind d p) l
theorem after_snoc (d : Dec) (l : List Nat) (p : Nat) : after d (l ++ [p]) = behind (after d l) p := by
  induction l generalizing d with
  | nil => rfl
  | cons q l ih => exact ih _
theorem decode_snoc (d : Dec) (l : List Nat) (p : Nat) : undo d (l ++ [p]) = undo d l ++ [bitOf (after d l) p] := by
  induction l generalizing d with
  | nil => rfl
  | cons q l ih => simp [undo, after, ih]
theorem decode_len (d : Dec) (l : List Nat) : (undo d l).length = l.length := by
  induction l generalizing d with
  | nil => rfl
  | cons q l ih => simp [undo, ih]
/-- A decoder that may be. -/
def Fine (d : Dec) : Prop := Apart d.a d.b ∧ d.x < 4294967296
theorem moves_lt (n x : Nat) (s : List UInt8) (h : x < 4294967296) : (moves n x s).1 < 4294967296 := by
  cases n with
  | zero => exact h
  | succ n => rw [moves_succ]; exact move_lt _ _
theorem fine_fresh (s : List UInt8) : Fine (fresh s) := ⟨apart_all, moves_lt _ _ _ (by decide)⟩
theorem fine_behind {d : Dec} {p : Nat} (h : Fine d) (hp : p < 2048) : Fine (behind d p) := ⟨part_apart h.1 hp, moves_lt _ _ _ h.2⟩
theorem fine_after {d : Dec} {l : List Nat} (h : Fine d) (hl : ∀ p ∈ l, p < 2048) : Fine (after d l) := by
  induction l generalizing d with
  | nil => exact h
  | cons p l ih => exact ih (fine_behind h (hl p (by simp))) (fun q hq => hl q (by simp [hq]))
theorem first_cons (c : UInt8) (r : List UInt8) : first 4 (c :: r) = c.toNat * 16777216 + first 4 r / 256 := by
  rw [first4, first4]
  have h0 := (r.getD 0 0).toNat_lt
  have h1 := (r.getD 1 0).toNat_lt
  have h2 := (r.getD 2 0).toNat_lt
  have h3 := (r.getD 3 0).toNat_lt
  simp only [List.getD_cons_zero, List.getD_cons_succ] at *
  omega
theorem first_settle (f a b : Nat) (r : List UInt8) (hb : b < 4294967296) (h1 : (sttl f a b).2.1 ≤ first 4 r) (h2 : first 4 r ≤ (sttl f a b).2.2) :
    a ≤ first 4 ((sttl f a b).1 ++ r) ∧ first 4 ((sttl f a b).1 ++ r) ≤ b := by
  induction f generalizing a b with
  | zero => exact ⟨h1, h2⟩
  | succ f ih =>
    by_cases he : a / 16777216 = b / 16777216
    · rw [settle_yes he] at *
      have := ih _ _ (by omega) h1 h2
      rw [List.cons_append, first_cons]
      have e : (UInt8.ofNat (a / 16777216)).toNat = a / 16777216 := by simp; omega
      rw [e]; omega
    · rw [settle_no he] at *; exact ⟨h1, h2⟩
theorem first_part (a b p : Nat) (bit : Bool) (r : List UInt8) (h : Apart a b) (hp : p < 2048) (h1 : (part a b p bit).2.1 ≤ first 4 r) (h2 : first 4 r ≤ (part a b p bit).2.2) :
    a ≤ first 4 ((part a b p bit).1 ++ r) ∧ first 4 ((part a b p bit).1 ++ r) ≤ b ∧ decide (mid a b p < first 4 ((part a b p bit).1 ++ r)) = bit := by
  have hm := mid_le a b p h.1 hp
  have hb := h.2.1
  unfold part at *
  cases bit
  · rw [if_neg (by decide)] at *
    have := first_settle 4 a (mid a b p) r (by omega) h1 h2
    refine ⟨this.1, by omega, by simp; omega⟩
  · rw [if_pos rfl] at *
    have := first_settle 4 (mid a b p + 1) b r (by omega) h1 h2
    refine ⟨by omega, this.2, by simp; omega⟩
theorem first_four (a : Nat) (r : List UInt8) (h : a < 4294967296) : first 4 (four a ++ r) = a := by
  rw [first4]
  simp [four]; omega
theorem run_first (a b : Nat) (l : List (Bool × Nat)) (r : List UInt8) (h : Apart a b) (hl : ∀ x ∈ l, x.2 < 2048) :
    a ≤ first 4 ((run a b l).1 ++ (four (run a b l).2.1 ++ r)) ∧ first 4 ((run a b l).1 ++ (four (run a b l).2.1 ++ r)) ≤ b := by
  induction l generalizing a b with
  | nil => simp only [run, List.nil_append]; rw [first_four _ _ (by have := h.1; have := h.2.1; omega)]; exact ⟨Nat.le_refl _, h.1⟩
  | cons x l ih =>
    obtain ⟨c, q⟩ := x
    have hq := hl (c, q) (by simp)
    have := ih _ _ (part_apart (p := q) (bit := c) h hq) (fun y hy => hl y (by simp [hy]))
    have := first_part a b q c _ h hq this.1 this.2
    simp only [run, List.append_assoc]
    exact ⟨this.1, this.2.1⟩
theorem run_back (a b : Nat) (l : List (Bool × Nat)) (r t : List UInt8) (h : Apart a b) (hl : ∀ x ∈ l, x.2 < 2048) (ht : t = (run a b l).1 ++ (four (run a b l).2.1 ++ r)) :
    undo ⟨a, b, first 4 t, t.drop 4⟩ (l.map (·.2)) = l.map (·.1) := by
  induction l generalizing a b t with
  | nil => rfl
  | cons x l ih =>
    obtain ⟨c, q⟩ := x
    have hq := hl (c, q) (by simp)
    have h2 := run_first _ _ l r (part_apart (p := q) (bit := c) h hq) (fun y hy => hl y (by simp [hy]))
    have h3 := first_part a b q c _ h hq h2.1 h2.2
    simp only [run, List.append_assoc] at ht
    rw [← ht] at h3
    have hbit : bitOf ⟨a, b, first 4 t, t.drop 4⟩ q = c := h3.2.2
    simp only [List.map_cons, undo, hbit]
    congr 1
    have e : behind ⟨a, b, first 4 t, t.drop 4⟩ q = ⟨(part a b q c).2.1, (part a b q c).2.2, first 4 (t.drop (part a b q c).1.length), (t.drop (part a b q c).1.length).drop 4⟩ := by
      unfold behind; rw [hbit]; simp only [first_moves, List.drop_drop]
    rw [e]
    exact ih _ _ _ (part_apart h hq) (fun y hy => hl y (by simp [hy])) (by rw [ht]; simp)
/-- Decoding what was told. -/
theorem back (l : List (Bool × Nat)) (r : List UInt8) (hl : ∀ x ∈ l, x.2 < 2048) : undo (fresh (told l ++ r)) (l.map (·.2)) = l.map (·.1) := by
  unfold told fresh
  by_cases h : l = []
  · subst h; rfl
  · rw [if_neg h, moves_four]
    exact run_back 0 top l r _ apart_all hl (by simp)
end Go.Proofs.Ytedmnlfbmmlcbaa.Range
