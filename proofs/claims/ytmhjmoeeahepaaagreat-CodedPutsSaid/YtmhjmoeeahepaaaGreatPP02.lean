import Derived.Test.YtmhjmoeeahepaaaGreatPP01
import Derived.Laws.OwnMore
import Derived.Deep.Draws
import Derived.Deep.RegionHeld3
/- Words on rows that a call owns, for elements of any number of places; make, append, stores. -/
namespace Go.Proofs.YtmhjmoeeahepaaaGreat
open Go.ChangeShapes Go.WideShapes Go.ChangeAt Go.RowKit
set_option linter.unusedVariables false
set_option maxRecDepth 100000

/-- A row of the call's own, whose elements lie as f tells. -/
def OwnS {α : Type} (f : α → List Value) (E sz B : Nat) (w : World) (v : Value) (l : List α) : Prop := w.ownsRow B E sz v l.length (l.flatMap f)
def Flat {α : Type} (f : α → List Value) (sz : Nat) : Prop := ∀ x, (f x).length = sz ∧ ∀ u ∈ f x, u.oneCell' = true
section
variable {α : Type} {f : α → List Value} {E sz B : Nat} {w w' : World} {v : Value} {l : List α}
theorem below_dn {B : Nat} {a w : World} (h : Below B a w) (n : Nat) : Below B a (w.drewN n) := ⟨h.os, h.tape, h.output, h.size, h.block⟩
theorem World.grownBy_setCell {w : World} (p : Addr) (u : Value) : w.grownBy (w.setCell p u) (some p.block) :=
  ⟨rfl, rfl, rfl, by simp [World.setCell], fun i _ hne => Below.heap_setCell w p u i (fun e => hne (by rw [e]))⟩
theorem OwnS.nil : OwnS f E sz B w (.slice none 0 0) [] := World.ownsRow_nil _ _ _ _
theorem OwnS.alloc (h : OwnS f E sz B w v l) (o : Obj) : OwnS f E sz B (w.alloc o) v l := World.ownsRow.alloc h o
theorem OwnS.drew (h : OwnS f E sz B w v l) : OwnS f E sz B w.drew v l := h
theorem OwnS.drewN (h : OwnS f E sz B w v l) (n : Nat) : OwnS f E sz B (w.drewN n) v l := h
theorem OwnS.lt (h : OwnS f E sz B w v l) : ∀ k, v.ownBlock = some k → B ≤ k ∧ k < w.heap.size := World.ownsRow.lt h
theorem OwnS.grown (h : OwnS f E sz B w v l) {row : Option Nat} (hg : w.grownBy w' row) (hne : v.ownBlock = none ∨ v.ownBlock ≠ row) : OwnS f E sz B w' v l := World.ownsRow.kept h hg hne
theorem OwnS.kept (h : OwnS f E sz B w v l) (hb : Below w.heap.size w w') : OwnS f E sz B w' v l := by
  refine ⟨h.1, ?_⟩
  rcases h.2 with hn | ⟨g, cap, cur, rfl, hbb, hgg, rest⟩
  · exact .inl hn
  · exact .inr ⟨g, cap, cur, rfl, hbb, (hb.block g (block_lt hgg)).trans hgg, rest⟩
theorem OwnS.setLow (h : OwnS f E sz B w v l) {p : Addr} (hp : p.block < B) (u : Value) : OwnS f E sz B (w.setCell p u) v l := ownsRow_setCell_below h hp u
theorem OwnS.base (h : OwnS f E sz B w v l) {B' : Nat} (hB : B' ≤ B) : OwnS f E sz B' w v l := by
  refine ⟨h.1, ?_⟩
  rcases h.2 with hn | ⟨g, cap, cur, rfl, hbb, rest⟩
  · exact .inl hn
  · exact .inr ⟨g, cap, cur, rfl, Nat.le_trans hB hbb, rest⟩
theorem OwnS.slice (h : OwnS f E sz B w v l) : ∃ a cap, v = .slice a l.length cap := own_slice h
theorem flat_len (hf : Flat f sz) (l : List α) : (l.flatMap f).length = l.length * sz := by
  induction l with
  | nil => simp
  | cons x l ih => simp only [List.flatMap_cons, List.length_append, ih, List.length_cons, (hf x).1, Nat.add_mul]; omega
theorem flat_one (hf : Flat f sz) (l : List α) : ∀ u ∈ l.flatMap f, u.oneCell' = true := by
  intro u hu
  obtain ⟨x, -, hx⟩ := List.mem_flatMap.1 hu
  exact (hf x).2 u hx
theorem flat_get (hf : Flat f sz) (l : List α) (i j : Nat) (x : α) (hi : l[i]? = some x) (hj : j < sz) : (l.flatMap f)[i * sz + j]? = (f x)[j]? := by
  induction l generalizing i with
  | nil => simp at hi
  | cons y l ih =>
    rw [List.flatMap_cons]
    cases i with
    | zero =>
      simp at hi; subst hi
      rw [Nat.zero_mul, Nat.zero_add, List.getElem?_append_left (by rw [(hf y).1]; exact hj)]
    | succ i =>
      have := ih i (by simpa using hi)
      rw [List.getElem?_append_right (by rw [(hf y).1, Nat.add_mul]; omega), (hf y).1, ← this]
      congr 1; rw [Nat.add_mul]; omega
theorem OwnS.form (h : OwnS f E sz B w v l) (hl : 0 < l.length) (hsz : 0 < sz) : ∃ g cap, v = .slice (some ⟨g, 0, none⟩) l.length cap ∧ B ≤ g ∧ g < w.heap.size := by
  rcases h.2 with ⟨-, h0⟩ | ⟨g, cap, cur, rfl, hb, hgg, rest⟩
  · omega
  · exact ⟨g, cap, rfl, hb, block_lt hgg⟩
theorem OwnS.cell {g cap n : Nat} (hf : Flat f sz) (h : OwnS f E sz B w (.slice (some ⟨g, 0, none⟩) n cap) l) (i j : Nat) (x : α) (hi : l[i]? = some x) (hj : j < sz) : w.cell? ⟨g, i * sz + j, none⟩ = (f x)[j]? := by
  have hn : n = l.length := by
    rcases h.2 with ⟨h0, -⟩ | ⟨g', cap', cur', h0, -⟩ <;> simp at h0; omega
  subst hn
  have hlt : i < l.length := (List.getElem?_eq_some_iff.1 hi).1
  have := World.ownsRow.cellAt h (i * sz + j) (Nat.lt_of_lt_of_le (Nat.add_lt_add_left hj _) (by rw [← Nat.succ_mul]; exact Nat.mul_le_mul_right _ hlt))
  rw [this, flat_get hf l i j x hi hj]
theorem OwnS.free {g cap n : Nat} (h : OwnS f E sz B w (.slice (some ⟨g, 0, none⟩) n cap) l) (j : Nat) : w.frozen? ⟨g, j, none⟩ = false := by
  rcases h.2 with ⟨h0, -⟩ | ⟨g', cap', cur, h0, _, hg, _⟩
  · simp at h0
  · simp only [Value.slice.injEq, Option.some.injEq, Addr.mk.injEq, and_true, true_and] at h0
    obtain ⟨rfl, -, -⟩ := h0
    exact free_in hg j
theorem below_of_grown {X w' : World} {row : Option Nat} (hg : X.grownBy w' row) {B : Nat} (hB : B ≤ X.heap.size) (hr : ∀ k, row = some k → B ≤ k) : Below B X w' := (Below.refl _ _).grown hg hB hr
end

/-- append of one element. -/
theorem app_one {P : Program} {α : Type} {f : α → List Value} {E ST sz bytes : Nat} {z0 : Value} (hE : (P.info? E).map (fun i => (i.zero, i.size, i.bytes)) = some (some z0, sz, bytes)) (hz0 : z0.cells.size = sz) (hsz : 0 < sz) (hby : bytes ≤ 64) (hST : P.underlying ST = some (.slice E)) (hf : Flat f sz)
    {X : World} {ops : Array Oper} {rest : List Oper} {o : Oper} {a : Act} {Q : Exit → Act → World → Prop} (hgd : o.guard = none) (s xo : Operand)
    (ho : o.op = .call { callee := .builtin .append, args := #[s, xo], argTypes := #[ST, ST] })
    (B T : Nat) (v : Value) (l : List α) (x : α) (hs : a.eval s = v) (hown : OwnS f E sz B X v l) (g c1 : Nat) (hg : X.heap.size = g) (hx : a.eval xo = .slice (some ⟨g, 0, none⟩) 1 c1) (hl : l.length ≤ 1099511627776) (hB : B ≤ X.heap.size)
    (h : ∀ v' w', OwnS f E sz B w' v' (l ++ [x]) → Below B X w' → X.grownBy w' v.ownBlock → wpList P ops Q rest (a.put o.dst v') w') : wpList P ops Q (o :: rest) a (X.alloc (.cells (f x).toArray T)) := by
  subst hg
  obtain ⟨i0, hi, h1, h2, h3⟩ := info_get hE
  have hnew : ∀ j u, (f x)[j]? = some u → (X.alloc (.cells (f x).toArray T)).cell? ((⟨X.heap.size, 0, none⟩ : Addr).add j) = some u := by
    refine cells_of (fun j hj => ?_)
    rw [cell_in (heap_alloc_new X _)]; simp
  refine wpList_append_own _ hgd s xo ST ho B E i0 z0 sz bytes hST hi h1 h2 h3 hz0 hsz v l.length (l.flatMap f) hs (World.ownsRow.alloc hown _) ⟨X.heap.size, 0, none⟩ 1 c1 (f x) hx (by rw [(hf x).1, Nat.one_mul]) hnew (hf x).2 (by unfold maxLen; omega) ?_ (by simp; omega) ?_
  · calc (l.length + 1) * bytes ≤ (l.length + 1) * 64 := Nat.mul_le_mul_left _ hby
      _ ≤ _ := by omega
  · intro v' w' ho' hg' _
    have e : (l ++ [x]).flatMap f = l.flatMap f ++ f x := by simp
    refine h v' w' ?_ ?_ ?_
    · unfold OwnS; rw [e, List.length_append]; exact ho'
    · exact (Below.alloc (Below.refl _ _) hB _).grown hg' (by simp; omega) (fun k hk => (World.ownsRow.lt hown k hk).1)
    · exact ⟨hg'.os, hg'.tape, hg'.output, Nat.le_trans (by simp) hg'.size, fun k hk hne => (hg'.block k (by simp; omega) hne).trans (Below.heap_alloc _ _ _ hk)⟩

/-- make of n noughts. -/
theorem make_full {P : Program} {α : Type} {f : α → List Value} {E ST sz bytes : Nat} {z0 : Value} (hE : (P.info? E).map (fun i => (i.zero, i.size, i.bytes)) = some (some z0, sz, bytes)) (hby : bytes ≤ 64) (hST : P.underlying ST = some (.slice E)) (x0 : α) (hx0 : z0.cells = (f x0).toArray) (hf : Flat f sz) (hsz : 0 < sz)
    {X : World} {ops : Array Oper} {rest : List Oper} {o : Oper} {a : Act} {Q : Exit → Act → World → Prop} (hgd : o.guard = none) (lo co : Operand) (ho : o.op = .makeSlice ST lo co)
    (kl kc : IntKind) (L C : Int) (n : Nat) (hlo : a.eval lo = .int kl L) (hco : a.eval co = .int kc C) (hL : L = (n : Int)) (hC : C = (n : Int)) (hn : n ≤ 1099511627776)
    (h : ∀ w', OwnS f E sz X.heap.size w' (.slice (some ⟨X.heap.size, 0, none⟩) n n) (List.replicate n x0) → Below X.heap.size X w' → X.heap.size < w'.heap.size → wpList P ops Q rest (a.put o.dst (.slice (some ⟨X.heap.size, 0, none⟩) n n)) w') : wpList P ops Q (o :: rest) a X := by
  obtain ⟨i0, hi, h1, h2, h3⟩ := info_get hE
  refine wpList_make_full X hgd lo co ST ho X.heap.size E i0 z0 sz hST hi h1 h2 kl kc L C n hlo hco hL hC ?_ (by unfold maxLen; omega) (Nat.le_refl _) ?_
  · rw [h3]
    calc bytes * n ≤ 64 * n := Nat.mul_le_mul_right _ hby
      _ ≤ _ := by omega
  · intro w' ho' hg'
    have e : (madeCells z0.cells (n * sz)).toList = (List.replicate n x0).flatMap f := by
      have hlen : (f x0).length = sz := (hf x0).1
      rw [hx0]
      apply List.ext_getElem?
      intro j
      by_cases hj : j < n * sz
      · have hq : j / sz < n := Nat.div_lt_of_lt_mul (by rw [Nat.mul_comm]; exact hj)
        have hr : j % sz < sz := Nat.mod_lt _ hsz
        have hd : j / sz * sz + j % sz = j := by rw [Nat.mul_comm]; exact Nat.div_add_mod j sz
        have := flat_get hf (List.replicate n x0) (j / sz) (j % sz) x0 (by simp [hq]) hr
        rw [hd] at this
        rw [this]
        simp [madeCells, hj, hlen, hr]
      · rw [List.getElem?_eq_none (by rw [Array.length_toList, size_madeCells]; omega), List.getElem?_eq_none (by rw [flat_len hf]; simp; omega)]
    rw [e] at ho'
    have ho2 : OwnS f E sz X.heap.size w' (.slice (some ⟨X.heap.size, 0, none⟩) n n) (List.replicate n x0) := by unfold OwnS; rw [List.length_replicate]; exact ho'
    exact h w' ho2 (below_of_grown hg' (Nat.le_refl _) (fun k hk => by cases hk)) (ho2.lt _ rfl).2

/-- A store of one whole element of one place. -/
theorem OwnS.set1 {α : Type} {f : α → List Value} {E B g n cap : Nat} {w : World} {l : List α} (hf : Flat f 1) (h : OwnS f E 1 B w (.slice (some ⟨g, 0, none⟩) n cap) l) (i : Nat) (x : α) (u : Value) (hu : f x = [u]) (hi : i < l.length) :
    OwnS f E 1 B (w.setCell ⟨g, i, none⟩ u) (.slice (some ⟨g, 0, none⟩) n cap) (l.set i x) := by
  have hn : n = l.length := by
    rcases h.2 with ⟨h0, -⟩ | ⟨g', cap', cur', h0, -⟩ <;> simp at h0; omega
  subst hn
  have := (World.ownsRow.stored h i u).1
  unfold OwnS
  rw [List.length_set]
  have e : (l.set i x).flatMap f = (l.flatMap f).set i u := by
    apply List.ext_getElem?
    intro j
    by_cases hj : j < l.length
    · have h1 := flat_get hf (l.set i x) j 0 (if i = j then x else l[j]) (by by_cases e : i = j <;> simp [e, hj]) (by decide)
      have h2 := flat_get hf l j 0 l[j] (by simp [hj]) (by decide)
      rw [Nat.mul_one, Nat.add_zero] at h1 h2
      have hlf := flat_len hf l
      rw [h1, List.getElem?_set]
      by_cases e : i = j
      · subst e; rw [if_pos rfl, if_pos rfl, hu, if_pos (by omega)]; rfl
      · rw [if_neg e, if_neg e, h2]
    · have hlf := flat_len hf l
      have hlf' := flat_len hf (l.set i x)
      rw [List.getElem?_eq_none (by rw [hlf', List.length_set]; omega), List.getElem?_eq_none (by rw [List.length_set]; omega)]
  rw [e]; exact this

/-- Rows of numbers. -/
def fI (x : Int) : List Value := [.int .i64 x]
theorem flatI : Flat fI 1 := fun x => ⟨rfl, by intro u hu; simp [fI] at hu; subst hu; rfl⟩
theorem flatMap_fI (l : List Int) : l.flatMap fI = intCells l := by
  unfold intCells fI
  induction l with
  | nil => rfl
  | cons x l ih => rw [List.flatMap_cons, ih, List.map_cons]; rfl
abbrev OwnI (B : Nat) (w : World) (v : Value) (l : List Int) : Prop := OwnS fI 3 1 B w v l
theorem app_int {X : World} {ops : Array Oper} {rest : List Oper} {o : Oper} {a : Act} {Q : Exit → Act → World → Prop} (hgd : o.guard = none) (s xo : Operand)
    (ho : o.op = .call { callee := .builtin .append, args := #[s, xo], argTypes := #[27, 27] })
    (B T : Nat) (v : Value) (l : List Int) (x : Int) (hs : a.eval s = v) (hown : OwnI B X v l) (g c1 : Nat) (hg : X.heap.size = g) (hx : a.eval xo = .slice (some ⟨g, 0, none⟩) 1 c1) (hl : l.length ≤ 1099511627776) (hB : B ≤ X.heap.size)
    (h : ∀ v' w', OwnI B w' v' (l ++ [x]) → Below B X w' → X.grownBy w' v.ownBlock → wpList Tryz.prog ops Q rest (a.put o.dst v') w') : wpList Tryz.prog ops Q (o :: rest) a (X.alloc (.cells #[.int .i64 x] T)) :=
  app_one (f := fI) info_int rfl (by decide) (by decide) Tryz.underlying27 flatI hgd s xo ho B T v l x hs hown g c1 hg hx hl hB h
theorem make_int {X : World} {ops : Array Oper} {rest : List Oper} {o : Oper} {a : Act} {Q : Exit → Act → World → Prop} (hgd : o.guard = none) (lo co : Operand) (ho : o.op = .makeSlice 27 lo co)
    (kl kc : IntKind) (L C : Int) (n : Nat) (hlo : a.eval lo = .int kl L) (hco : a.eval co = .int kc C) (hL : L = (n : Int)) (hC : C = (n : Int)) (hn : n ≤ 1099511627776)
    (h : ∀ w', OwnI X.heap.size w' (.slice (some ⟨X.heap.size, 0, none⟩) n n) (List.replicate n 0) → Below X.heap.size X w' → X.heap.size < w'.heap.size → wpList Tryz.prog ops Q rest (a.put o.dst (.slice (some ⟨X.heap.size, 0, none⟩) n n)) w') : wpList Tryz.prog ops Q (o :: rest) a X :=
  make_full (f := fI) info_int (by decide) Tryz.underlying27 0 rfl flatI (by decide) hgd lo co ho kl kc L C n hlo hco hL hC hn h
section
variable {B : Nat} {w : World} {v : Value} {l : List Int}
theorem IsInts.alloc {a : Option Addr} (h : IsInts w a l) (o : Obj) : IsInts (w.alloc o) a l := h.kept ((Below.refl _ _).alloc (Nat.le_refl _) o)
theorem IsL.alloc (h : IsL w v l) (o : Obj) : IsL (w.alloc o) v l := h.kept ((Below.refl _ _).alloc (Nat.le_refl _) o)
theorem own_OwnI (h : w.ownsRow B 3 1 v l.length (intCells l)) : OwnI B w v l := by
  show w.ownsRow B 3 1 v l.length (l.flatMap fI)
  rw [flatMap_fI]; exact h
theorem OwnS.isL (h : OwnI B w v l) (hl : l.length ≤ 70368744177664) : IsL w v l := own_isL (by have h' : w.ownsRow B _ 1 v l.length (l.flatMap fI) := h; rw [flatMap_fI] at h'; exact h') hl
theorem OwnS.int_cell {g n cap : Nat} (h : OwnI B w (.slice (some ⟨g, 0, none⟩) n cap) l) (i : Nat) (hi : i < l.length) : w.cell? ⟨g, i, none⟩ = some (.int .i64 (l.getD i 0)) := by
  have := h.cell flatI i 0 l[i] (by simp [hi]) (by decide)
  rw [Nat.mul_one, Nat.add_zero] at this
  rw [this]
  simp [fI, List.getD_eq_getElem?_getD, hi]
theorem OwnS.set_int {g n cap : Nat} (h : OwnI B w (.slice (some ⟨g, 0, none⟩) n cap) l) (i : Nat) (x : Int) (hi : i < l.length) : OwnI B (w.setCell ⟨g, i, none⟩ (.int .i64 x)) (.slice (some ⟨g, 0, none⟩) n cap) (l.set i x) := h.set1 flatI i x _ rfl hi
end
end Go.Proofs.YtmhjmoeeahepaaaGreat

/- The library's stable sort: the order by what a function says, then by the number itself; merging. -/
namespace Go.Proofs.YtmhjmoeeahepaaaGreat.St
set_option linter.unusedVariables false
set_option maxRecDepth 100000

def lx (fr : Int → Int) (x y : Int) : Prop := fr x < fr y ∨ (fr x = fr y ∧ x < y)
instance (fr : Int → Int) (x y : Int) : Decidable (lx fr x y) := by unfold lx; exact inferInstance
theorem lx_trans {fr : Int → Int} {x y z : Int} (h : lx fr x y) (k : lx fr y z) : lx fr x z := by unfold lx at *; omega
theorem lx_irrefl {fr : Int → Int} {x : Int} : ¬ lx fr x x := by unfold lx; omega
theorem lx_asymm {fr : Int → Int} {x y : Int} (h : lx fr x y) (k : lx fr y x) : False := by unfold lx at *; omega
theorem lx_low {fr : Int → Int} {x y : Int} (h : x < y) : lx fr y x ↔ fr y < fr x := by unfold lx; omega
theorem lx_up {fr : Int → Int} {x y : Int} (h : x < y) : lx fr x y ↔ ¬ fr y < fr x := by unfold lx; omega
def Srt (fr : Int → Int) (l : List Int) : Prop := l.Pairwise (lx fr)
theorem srt_unique {fr : Int → Int} : ∀ (a b : List Int), Srt fr a → Srt fr b → a.Perm b → a = b
  | [], b, _, _, h => by simpa using h.symm.eq_nil.symm
  | x :: a, [], _, _, h => by have := h.length_eq; simp at this
  | x :: a, y :: b, ha, hb, h => by
    have hx : x ∈ y :: b := h.mem_iff.1 (by simp)
    have hy : y ∈ x :: a := h.mem_iff.2 (by simp)
    have ha' := List.pairwise_cons.1 ha
    have hb' := List.pairwise_cons.1 hb
    have e : x = y := by
      rcases List.mem_cons.1 hx with e | h1
      · exact e
      · rcases List.mem_cons.1 hy with e | h2
        · exact e.symm
        · exact (lx_asymm (ha'.1 y h2) (hb'.1 x h1)).elim
    subst e
    rw [srt_unique a b ha'.2 hb'.2 (List.Perm.cons_inv h)]
def insF (fr : Int → Int) (u : Int) : List Int → List Int
  | [] => [u]
  | v :: r => if lx fr u v then u :: v :: r else v :: insF fr u r
def sortF (fr : Int → Int) : List Int → List Int
  | [] => []
  | x :: l => insF fr x (sortF fr l)
theorem insF_perm (fr : Int → Int) (u : Int) : ∀ l, (insF fr u l).Perm (u :: l)
  | [] => List.Perm.refl _
  | v :: r => by
    unfold insF
    split
    · exact List.Perm.refl _
    · exact ((insF_perm fr u r).cons v).trans (List.Perm.swap u v r)
theorem sortF_perm (fr : Int → Int) : ∀ l, (sortF fr l).Perm l
  | [] => List.Perm.refl _
  | x :: l => (insF_perm fr x _).trans ((sortF_perm fr l).cons x)
theorem insF_srt (fr : Int → Int) (u : Int) : ∀ l, Srt fr l → (∀ v ∈ l, v ≠ u) → Srt fr (insF fr u l)
  | [], _, _ => by simp [insF, Srt]
  | v :: r, h, hn => by
    have h' := List.pairwise_cons.1 h
    unfold insF
    split
    · rename_i hlt
      refine List.pairwise_cons.2 ⟨fun z hz => ?_, h⟩
      rcases List.mem_cons.1 hz with rfl | hz
      · exact hlt
      · exact lx_trans hlt (h'.1 z hz)
    · rename_i hlt
      refine List.pairwise_cons.2 ⟨fun z hz => ?_, insF_srt fr u r h'.2 (fun w hw => hn w (by simp [hw]))⟩
      have hz' := (insF_perm fr u r).mem_iff.1 hz
      rcases List.mem_cons.1 hz' with rfl | hz'
      · have := hn v (by simp)
        unfold lx at *; omega
      · exact h'.1 z hz'
theorem sortF_srt (fr : Int → Int) : ∀ l : List Int, l.Nodup → Srt fr (sortF fr l)
  | [], _ => by simp [sortF, Srt]
  | x :: l, h => by
    have h' := List.nodup_cons.1 h
    refine insF_srt fr x _ (sortF_srt fr l h'.2) (fun v hv e => ?_)
    subst e
    exact h'.1 ((sortF_perm fr l).mem_iff.1 hv)
theorem asc_nodup {l : List Int} (h : l.Pairwise (· < ·)) : l.Nodup := h.imp (fun {a b} (hab : a < b) => (show a ≠ b by omega))
/-- Two places of a row are turned round. -/
theorem set_two (A B C : List Int) (u v : Int) : ((A ++ u :: (B ++ v :: C)).set A.length v).set (A.length + 1 + B.length) u = A ++ v :: (B ++ u :: C) := by
  rw [List.set_append_right _ _ (Nat.le_refl _), Nat.sub_self, List.set_cons_zero, List.set_append_right _ _ (by omega), show A.length + 1 + B.length - A.length = B.length + 1 by omega, List.set_cons_succ, List.set_append_right _ _ (Nat.le_refl _), Nat.sub_self, List.set_cons_zero]
theorem get_mid (A C : List Int) (u : Int) : (A ++ u :: C).getD A.length 0 = u := by
  simp [List.getD_eq_getElem?_getD]
theorem get_far (A B C : List Int) (u v : Int) : (A ++ u :: (B ++ v :: C)).getD (A.length + 1 + B.length) 0 = v := by
  have := get_mid (A ++ u :: B) C v
  rw [List.length_append, List.length_cons, List.append_assoc, List.cons_append] at this
  rw [show A.length + (B.length + 1) = A.length + 1 + B.length by omega] at this
  exact this
theorem cut_at (l : List Int) (i : Nat) (h : i < l.length) : ∃ a u b, l = a ++ u :: b ∧ a.length = i := by
  refine ⟨l.take i, l[i], l.drop (i + 1), ?_, List.length_take_of_le (by omega)⟩
  rw [← List.drop_eq_getElem_cons h, List.take_append_drop]
theorem cut_le (l : List Int) (i : Nat) (h : i ≤ l.length) : ∃ a b, l = a ++ b ∧ a.length = i :=
  ⟨l.take i, l.drop i, (List.take_append_drop _ _).symm, List.length_take_of_le h⟩
theorem srt_append {fr : Int → Int} {a b : List Int} : Srt fr (a ++ b) ↔ Srt fr a ∧ Srt fr b ∧ ∀ x ∈ a, ∀ y ∈ b, lx fr x y := List.pairwise_append
/-- The last of one row is behind the first of another one: all are. -/
theorem srt_cross {fr : Int → Int} {a b : List Int} (ha : Srt fr a) (hb : Srt fr b) (h : ∀ a' u v b', a = a' ++ [u] → b = v :: b' → lx fr u v) : ∀ x ∈ a, ∀ y ∈ b, lx fr x y := by
  intro x hx y hy
  rcases List.eq_nil_or_concat a with rfl | ⟨a', u, rfl⟩
  · simp at hx
  · cases b with
    | nil => simp at hy
    | cons v b' =>
      rw [List.concat_eq_append] at *
      have huv := h a' u v b' rfl rfl
      have h1 : x = u ∨ lx fr x u := by
        rcases List.mem_append.1 hx with hx | hx
        · exact .inr ((srt_append.1 ha).2.2 x hx u (by simp))
        · exact .inl (by simpa using hx)
      have h2 : y = v ∨ lx fr v y := by
        rcases List.mem_cons.1 hy with e | hy
        · exact .inl e
        · exact .inr ((List.pairwise_cons.1 hb).1 y hy)
      rcases h1 with rfl | h1 <;> rcases h2 with rfl | h2
      · exact huv
      · exact lx_trans huv h2
      · exact lx_trans h1 huv
      · exact lx_trans h1 (lx_trans huv h2)
def cmpV (a b : Int) : Int := if a < b then -1 else if b < a then 1 else 0
theorem cmpV_neg (a b : Int) : decide (cmpV a b < 0) = decide (a < b) := by
  unfold cmpV
  by_cases h : a < b
  · rw [if_pos h]; simp [h]
  · rw [if_neg h]
    split <;> simp [h]
end Go.Proofs.YtmhjmoeeahepaaaGreat.St

/- The library's stable sort: swapRange, rotate. -/
namespace Go.Proofs.YtmhjmoeeahepaaaGreat
open Go.ChangeShapes Go.WideShapes Go.ChangeAt Go.RowKit
set_option linter.unusedVariables false
set_option linter.unusedSimpArgs false
set_option maxRecDepth 100000
theorem sw_step (p q r x1 y1 x2 y2 : List Int) (u v : Int) (a b : Nat) (ha : (p ++ y1).length = a) (hb : (p ++ y1 ++ u :: (x2 ++ q ++ x1)).length = b) :
    (((p ++ (y1 ++ u :: x2) ++ q ++ (x1 ++ v :: y2) ++ r).set a v).set b u) = p ++ ((y1 ++ [v]) ++ x2) ++ q ++ ((x1 ++ [u]) ++ y2) ++ r ∧
      (p ++ (y1 ++ u :: x2) ++ q ++ (x1 ++ v :: y2) ++ r).getD a 0 = u ∧ (p ++ (y1 ++ u :: x2) ++ q ++ (x1 ++ v :: y2) ++ r).getD b 0 = v := by
  have e : p ++ (y1 ++ u :: x2) ++ q ++ (x1 ++ v :: y2) ++ r = (p ++ y1) ++ u :: ((x2 ++ q ++ x1) ++ v :: (y2 ++ r)) := by simp
  have hb' : b = (p ++ y1).length + 1 + (x2 ++ q ++ x1).length := by rw [← hb, List.length_append, List.length_cons]; omega
  rw [e, hb', ← ha, St.set_two]
  exact ⟨by simp, St.get_mid _ _ _, St.get_far _ _ _ _ _⟩
set_option maxHeartbeats 1600000 in
theorem sSwap (f : Value) (B g n cap a b k : Nat) (p x q y r : List Int) (w : World) (hO : OwnI B w (.slice (some ⟨g, 0, none⟩) n cap) (p ++ x ++ q ++ y ++ r)) (ha : p.length = a) (hb : (p ++ x ++ q).length = b) (hx : x.length = k) (hy : y.length = k) (hn : n ≤ 1000000) :
    Calls Tryz.prog 135 #[.slice (some ⟨g, 0, none⟩) n cap, .int .i64 a, .int .i64 b, .int .i64 k, f] w fun e w' => e = .returned (.tuple #[]) ∧ OwnI B w' (.slice (some ⟨g, 0, none⟩) n cap) (p ++ y ++ q ++ x ++ r) ∧ Keeps (fun j => j = g) w w' := by
  have hN : n = (p ++ x ++ q ++ y ++ r).length := by
    rcases hO.2 with ⟨h0, -⟩ | ⟨g', cap', cur', h0, -⟩ <;> simp at h0 ⊢; omega
  have hbn : b + k ≤ n := by rw [hN, ← hb]; simp only [List.length_append] at *; omega
  have hab : a + k ≤ b := by rw [← hb]; simp only [List.length_append] at *; omega
  have HO := Lib.hid hO
  have HA := Lib.hid ha; have HB := Lib.hid hb; have HX := Lib.hid hx; have HY := Lib.hid hy
  have HNL := Lib.hid hN
  have HW := Lib.hid (Keeps.refl (fun j => j = g) w)
  clear hO ha hb hx hy hN
  go_enter Tryz.func135, Tryz.ntmps135
  go_wp2_with fail
  go_loopw [10] (fun iv wr => ∃ (i : Nat), i ≤ k ∧ iv = .int .i64 i ∧ Hid (OwnI B wr (.slice (some ⟨g, 0, none⟩) n cap) (p ++ (y.take i ++ x.drop i) ++ q ++ (x.take i ++ y.drop i) ++ r)) ∧ Hid (Keeps (fun j => j = g) w wr)) (fun iv _ => k - (intOf iv).toNat)
  case atStart => exact ⟨0, Nat.zero_le _, rfl, Lib.hid (by simpa using HO.out), HW⟩
  case round =>
    clear HO HW
    obtain ⟨i, hi, rfl, HO, HW⟩ := hrel
    by_cases hlt : i < k
    · have hii : (i : Int) < k := by omega
      have hix : i < x.length := by rw [HX.out]; exact hlt
      have hiy : i < y.length := by rw [HY.out]; exact hlt
      obtain ⟨u, hu⟩ : ∃ u, x[i] = u := ⟨_, rfl⟩
      obtain ⟨v, hv⟩ : ∃ v, y[i] = v := ⟨_, rfl⟩
      have ex : x.drop i = u :: x.drop (i + 1) := by rw [List.drop_eq_getElem_cons hix, hu]
      have ey : y.drop i = v :: y.drop (i + 1) := by rw [List.drop_eq_getElem_cons hiy, hv]
      have tx : x.take (i + 1) = x.take i ++ [u] := by rw [List.take_succ_eq_append_getElem hix, hu]
      have ty : y.take (i + 1) = y.take i ++ [v] := by rw [List.take_succ_eq_append_getElem hiy, hv]
      have HO1 := HO.out
      rw [ex, ey] at HO1
      obtain ⟨s1, s2, s3⟩ := sw_step p q r (x.take i) (y.take i) (x.drop (i + 1)) (y.drop (i + 1)) u v (a + i) (b + i) (by rw [List.length_append, HA.out, List.length_take_of_le (by omega)]) (by
        have hb := HB.out
        have hx := HX.out
        have ha := HA.out
        simp only [List.length_append, List.length_cons, List.length_take_of_le (Nat.le_of_lt hix), List.length_take_of_le (Nat.le_of_lt hiy), List.length_drop] at *
        omega)
      have HE := Lib.hid (show p ++ ((y.take i ++ [v]) ++ x.drop (i + 1)) ++ q ++ ((x.take i ++ [u]) ++ y.drop (i + 1)) ++ r = p ++ (y.take (i + 1) ++ x.drop (i + 1)) ++ q ++ (x.take (i + 1) ++ y.drop (i + 1)) ++ r by rw [tx, ty])
      rw [HE.out] at s1
      clear HE HO ex ey tx ty hix hiy hu hv
      have hlen : (p ++ (y.take i ++ u :: x.drop (i + 1)) ++ q ++ (x.take i ++ v :: y.drop (i + 1)) ++ r).length = n := by
        rcases HO1.2 with ⟨h0, -⟩ | ⟨g', cap', cur', h0, -⟩ <;> simp at h0 ⊢; omega
      obtain ⟨LL, hLL⟩ : ∃ LL, p ++ (y.take i ++ u :: x.drop (i + 1)) ++ q ++ (x.take i ++ v :: y.drop (i + 1)) ++ r = LL := ⟨_, rfl⟩
      rw [hLL] at s1 s2 s3 HO1 hlen
      have hAi : a + i < n := by omega
      have hBi : b + i < n := by omega
      have c1 := HO1.int_cell (a + i) (by omega)
      have c2 := HO1.int_cell (b + i) (by omega)
      rw [s2] at c1
      rw [s3] at c2
      have f1 := HO1.free (a + i)
      have f2 := HO1.free (b + i)
      have lg := (HO1.lt _ rfl).2
      have hO2 := (HO1.set_int (a + i) v (by omega)).set_int (b + i) u (by rw [List.length_set]; omega)
      rw [s1] at hO2
      have HO2 := Lib.hid hO2
      have HW2 := Lib.hid ((HW.out.setCell (p := ⟨g, a + i, none⟩) (.inr rfl) (.int .i64 v)).setCell (p := ⟨g, b + i, none⟩) (.inr rfl) (.int .i64 u))
      have hne : a + i ≠ b + i := by omega
      clear s1 s2 s3 hLL HO1 HW hO2 HA HB HX HY HNL
      obtain ⟨AI, hAI⟩ : ∃ AI : Nat, a + i = AI := ⟨_, rfl⟩
      obtain ⟨BI, hBI⟩ : ∃ BI : Nat, b + i = BI := ⟨_, rfl⟩
      rw [hAI] at c1 f1 HO2 HW2 hAi hne
      rw [hBI] at c2 f2 HO2 HW2 hBi hne
      have eA : (a : Int) + i = AI := by omega
      have eB : (b : Int) + i = BI := by omega
      have eA' : (a : Int) + i = AI := eA
      have hAin : (AI : Int) < n := by omega
      have hBin : (BI : Int) < n := by omega
      have wA : IntKind.i64.wrap (AI : Int) = AI := IntWalk.i64_in _ (by omega)
      have wB : IntKind.i64.wrap (BI : Int) = BI := IntWalk.i64_in _ (by omega)
      clear hAI hBI hlen
      go_wp2_with fail
      go_region
      go_wp2_with fail
      go_roundw
      case rel => exact ⟨i + 1, by omega, by go_num, HO2, Lib.hid HW2.out.drew⟩
      case measure => simp [intOf] <;> omega
    · obtain rfl : i = k := by omega
      have hO2 := HO.out
      have e1 : y.take i = y := List.take_of_length_le (by rw [HY.out]; exact Nat.le_refl _)
      have e2 : x.take i = x := List.take_of_length_le (by rw [HX.out]; exact Nat.le_refl _)
      have e3 : y.drop i = [] := List.drop_of_length_le (by rw [HY.out]; exact Nat.le_refl _)
      have e4 : x.drop i = [] := List.drop_of_length_le (by rw [HX.out]; exact Nat.le_refl _)
      rw [e1, e2, e3, e4, List.append_nil, List.append_nil] at hO2
      clear e1 e2 e3 e4
      have HO2 := Lib.hid hO2
      clear hO2 HO
      go_wp2_with fail
      go_end0
      exact ⟨rfl, HO2.out, HW.out⟩
end Go.Proofs.YtmhjmoeeahepaaaGreat

/- The library's stable sort: rotate. -/
namespace Go.Proofs.YtmhjmoeeahepaaaGreat
open Go.ChangeShapes Go.WideShapes Go.ChangeAt Go.RowKit
set_option linter.unusedVariables false
set_option linter.unusedSimpArgs false
set_option maxRecDepth 100000
theorem own_n {B g n cap : Nat} {w : World} {l : List Int} (h : OwnI B w (.slice (some ⟨g, 0, none⟩) n cap) l) : n = l.length := by
  rcases h.2 with ⟨h0, -⟩ | ⟨g', cap', cur', h0, -⟩ <;> simp at h0; omega
set_option maxHeartbeats 1600000 in
theorem sRotate (f : Value) (B g n cap a m b : Nat) (p x y q : List Int) (w : World) (hO : OwnI B w (.slice (some ⟨g, 0, none⟩) n cap) (p ++ x ++ y ++ q)) (ha : p.length = a) (hm : (p ++ x).length = m) (hb : (p ++ x ++ y).length = b) (hx : 0 < x.length) (hy : 0 < y.length) (hn : n ≤ 1000000) :
    Calls Tryz.prog 134 #[.slice (some ⟨g, 0, none⟩) n cap, .int .i64 a, .int .i64 m, .int .i64 b, f] w fun e w' => e = .returned (.tuple #[]) ∧ OwnI B w' (.slice (some ⟨g, 0, none⟩) n cap) (p ++ y ++ x ++ q) ∧ Keeps (fun j => j = g) w w' := by
  have hN := own_n hO
  have CS := Lib.hid (fun a b k p x q y r W h1 h2 h3 h4 h5 => sSwap f B g n cap a b k p x q y r W h1 h2 h3 h4 h5 hn)
  obtain ⟨I0, hI0⟩ : ∃ I0 : Nat, x.length = I0 := ⟨_, rfl⟩
  obtain ⟨J0, hJ0⟩ : ∃ J0 : Nat, y.length = J0 := ⟨_, rfl⟩
  have e1 : (m : Int) - a = I0 := by simp only [List.length_append] at hm; omega
  have e2 : (b : Int) - m = J0 := by simp only [List.length_append] at hm hb; omega
  have HREL := Lib.hid (show ∃ P X Y Q : List Int, P.length + X.length = m ∧ X.length = I0 ∧ Y.length = J0 ∧ P ++ Y ++ X ++ Q = p ++ y ++ x ++ q ∧ OwnI B w (.slice (some ⟨g, 0, none⟩) n cap) (P ++ X ++ Y ++ Q) from ⟨p, x, y, q, by rw [← hm, List.length_append], hI0, hJ0, rfl, hO⟩)
  have hI1 : 0 < I0 := by omega
  have hJ1 : 0 < J0 := by omega
  obtain ⟨T, hT⟩ : ∃ T, p ++ y ++ x ++ q = T := ⟨_, rfl⟩
  rw [hT] at HREL ⊢
  have hI2 : I0 ≤ n := by rw [hN]; simp only [List.length_append]; omega
  have hJ2 : J0 ≤ n := by rw [hN]; simp only [List.length_append]; omega
  have hmn : m ≤ n := by rw [hN, ← hm]; simp only [List.length_append]; omega
  have HW := Lib.hid (Keeps.refl (fun j => j = g) w)
  clear hO ha hm hb hx hy hN hI0 hJ0 hT
  go_enter Tryz.func134, Tryz.ntmps134
  go_wp2_with fail
  clear e1 e2
  go_loopw [10, 11] (fun iv jv wr => ∃ (i j : Nat), iv = .int .i64 i ∧ jv = .int .i64 j ∧ 0 < i ∧ 0 < j ∧ Hid (∃ P X Y Q : List Int, P.length + X.length = m ∧ X.length = i ∧ Y.length = j ∧ P ++ Y ++ X ++ Q = T ∧ OwnI B wr (.slice (some ⟨g, 0, none⟩) n cap) (P ++ X ++ Y ++ Q)) ∧ Hid (Keeps (fun j => j = g) w wr)) (fun iv jv _ => (intOf iv).toNat + (intOf jv).toNat)
  case atStart => exact ⟨I0, J0, by go_num, by go_num, hI1, hJ1, HREL, HW⟩
  case round =>
    clear HREL HW hI1 hJ1
    obtain ⟨i, j, rfl, rfl, hi1, hj1, HREL, HW⟩ := hrel
    obtain ⟨P, X, Y, Q, g1, g2, g3, g4, hO⟩ := HREL.out
    have hN := own_n hO
    simp only [List.length_append] at hN
    obtain ⟨A, hA⟩ : ∃ A : Nat, P.length = A := ⟨_, rfl⟩
    have eA : (m : Int) - i = A := by omega
    have hmj : (m : Int) + j ≤ 1000000 := by omega
    have him : (i : Int) ≤ m := by omega
    have HO := Lib.hid hO
    have HT := Lib.hid g4
    clear HREL hO g4
    by_cases hij : i = j
    · subst hij
      have C1 := Lib.hid (CS.out A m i P X [] Y Q wr (by rw [List.append_nil]; exact HO.out) hA (by simp; omega) g2 g3)
      have q1 : ((i : Int) == (i : Int)) = true := by simp
      have q2 : ((i : Int) != (i : Int)) = false := by simp
      clear hN g1 g2 g3 hA CS
      go_wp2_with fail
      refine C1.out.mono ?_; rintro e w2 ⟨rfl, ho, hk⟩
      rw [List.append_nil, HT.out] at ho
      have HO2 := Lib.hid ho
      have HW2 := Lib.hid (HW.out.trans hk)
      go_wp2_with fail
      go_end0
      exact ⟨rfl, HO2.out, HW2.out⟩
    · have q1 : ((i : Int) == (j : Int)) = false := by rw [beq_eq_false_iff_ne]; omega
      have q2 : ((i : Int) != (j : Int)) = true := by rw [bne, q1]; rfl
      by_cases hgt : j < i
      · obtain ⟨X1, X2, rfl, hx1⟩ := St.cut_le X j (by omega)
        have C1 := Lib.hid (CS.out A m j P X1 X2 Y Q wr (by rw [List.append_assoc P X1 X2]; exact HO.out) hA (by simp only [List.length_append] at *; omega) hx1 g3)
        have HT2 := Lib.hid (show (P ++ Y) ++ X1 ++ X2 ++ Q = T by rw [← HT.out]; simp)
        have hx2 : X2.length = i - j := by simp only [List.length_append] at *; omega
        have hp2 : (P ++ Y).length + X2.length = m := by simp only [List.length_append] at *; omega
        have hgi : (j : Int) < i := by omega
        have hgj : decide ((j : Int) < i) = true := decide_eq_true hgi
        obtain ⟨d, hd⟩ : ∃ d : Nat, i - j = d := ⟨_, rfl⟩
        have hdi : (i : Int) - j = d := by omega
        rw [hd] at hx2
        have HL := Lib.hid hx1
        have HL2 := Lib.hid hx2
        have HP2 := Lib.hid hp2
        clear hN g1 g2 g3 hA hx1 hx2 hp2
        go_wp2_with fail
        refine C1.out.mono ?_; rintro e w2 ⟨rfl, ho, hk⟩
        have HR2 := Lib.hid (show ∃ P X Y Q : List Int, P.length + X.length = m ∧ X.length = d ∧ Y.length = j ∧ P ++ Y ++ X ++ Q = T ∧ OwnI B w2 (.slice (some ⟨g, 0, none⟩) n cap) (P ++ X ++ Y ++ Q) from ⟨P ++ Y, X2, X1, Q, HP2.out, HL2.out, HL.out, HT2.out, ho⟩)
        have HW2 := Lib.hid (HW.out.trans hk)
        clear ho hk HO HW
        go_wp2_with fail
        go_roundw
        case rel => exact ⟨d, j, rfl, rfl, by omega, hj1, HR2, HW2⟩
        case measure => simp [intOf] <;> omega
      · have hlt : i < j := by omega
        obtain ⟨Y1, Y2, rfl, hy1⟩ := St.cut_le Y (j - i) (by omega)
        obtain ⟨BB, hBB⟩ : ∃ BB : Nat, m + j - i = BB := ⟨_, rfl⟩
        have eB : (m : Int) + j - i = BB := by omega
        have C1 := Lib.hid (CS.out A BB i P X Y1 Y2 Q wr (by rw [List.append_assoc (P ++ X) Y1 Y2]; exact HO.out) hA (by simp only [List.length_append] at *; omega) g2 (by simp only [List.length_append] at *; omega))
        have HT2 := Lib.hid (show P ++ Y1 ++ Y2 ++ (X ++ Q) = T by rw [← HT.out]; simp)
        have hgi : ¬ (j : Int) < i := by omega
        have hgj : decide ((j : Int) < i) = false := decide_eq_false hgi
        obtain ⟨d, hd⟩ : ∃ d : Nat, j - i = d := ⟨_, rfl⟩
        have hdi : (j : Int) - i = d := by omega
        rw [hd] at hy1
        have HL := Lib.hid hy1
        have HL2 := Lib.hid (show Y2.length = i by simp only [List.length_append] at *; omega)
        have HP2 := Lib.hid (show P.length + Y2.length = m by simp only [List.length_append] at *; omega)
        clear hN g1 g2 g3 hA hy1
        go_wp2_with fail
        refine C1.out.mono ?_; rintro e w2 ⟨rfl, ho, hk⟩
        have HR2 := Lib.hid (show ∃ P X Y Q : List Int, P.length + X.length = m ∧ X.length = i ∧ Y.length = d ∧ P ++ Y ++ X ++ Q = T ∧ OwnI B w2 (.slice (some ⟨g, 0, none⟩) n cap) (P ++ X ++ Y ++ Q) from ⟨P, Y2, Y1, X ++ Q, HP2.out, HL2.out, HL.out, HT2.out, by rw [← List.append_assoc]; exact ho⟩)
        have HW2 := Lib.hid (HW.out.trans hk)
        clear ho hk HO HW
        go_wp2_with fail
        go_roundw
        case rel => exact ⟨i, d, rfl, rfl, hi1, by omega, HR2, HW2⟩
        case measure => simp [intOf] <;> omega
end Go.Proofs.YtmhjmoeeahepaaaGreat
