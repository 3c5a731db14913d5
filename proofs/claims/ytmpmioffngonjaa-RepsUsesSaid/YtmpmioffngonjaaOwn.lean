/- Words that every text of this seat uses: copies into the newest block, what a call keeps, blocks written at one place. -/
import Derived.Test.YtmpmioffngonjaaBase
import Derived.Laws.CopyOwn
import Derived.Deep.RegionLaw
import Derived.Deep.RegionHeld3
import Derived.Handy
import Derived.Outline
import Derived.OneCell
import Derived.OwnWalk
import Derived.Laws.StructEq
namespace Go.Proofs.Ytmpmioffngonjaa
open Go.ChangeShapes Go.WideShapes Go.ChangeAt Go.RowKit
set_option linter.unusedVariables false
set_option maxRecDepth 100000

theorem setRow_last (X : World) (cur cs : Array Value) (t : TypeId) (fr : Nat × Nat) : (X.alloc (.cells cur t fr)).setRow X.heap.size cs = X.alloc (.cells cs t fr) := by
  unfold World.setRow
  show ({ X with heap := (X.heap.push (.cells cur t fr)).modify X.heap.size _ } : World) = { X with heap := X.heap.push (.cells cs t fr) }
  congr 1
  apply Array.ext
  · simp
  · intro i h1 h2
    rw [Array.getElem_modify]
    by_cases h : X.heap.size = i
    · subst h; simp
    · rw [if_neg h]
      have hi : i < X.heap.size := by simp at h2; omega
      rw [Array.getElem_push_lt hi, Array.getElem_push_lt hi]
theorem setRow_drewN (X : World) (n g : Nat) (cs : Array Value) : (X.drewN n).setRow g cs = (X.setRow g cs).drewN n := rfl
theorem setRow_drew (X : World) (g : Nat) (cs : Array Value) : X.drew.setRow g cs = (X.setRow g cs).drew := rfl

/-- A copy into the newest block, as a step of a region that draws: the block is written out anew. -/
theorem step_copy_last {P : Program} {ops : Array Oper} {o : Oper} {a : Act} {K : Act → World → Prop} {Q : Exit → Act → World → Prop} {E : Prop} (hgd : o.guard = none) (d s : Operand) (dT sT : TypeId)
    (ho : o.op = .call { callee := .builtin .copy, args := #[d, s], argTypes := #[dT, sT] }) (elem : TypeId) (hu : P.underlying dT = some (.slice elem)) (hsz : (P.info? elem).map (·.size) = some 1)
    (X : World) (g : Nat) (hX : X.heap.size = g) (ad : Addr) (off dLen dCap sLen sCap : Nat) (hd : a.eval d = .slice (some ⟨g, off, none⟩) dLen dCap) (hs : a.eval s = .slice (some ad) sLen sCap)
    (cur cs res : List Value) (t : TypeId) (hn : cs.length = Nat.min sLen dLen)
    (hsrc : ∀ j v, cs[j]? = some v → (X.alloc (.cells cur.toArray t)).cell? (ad.add j) = some v)
    (hfit : off + cs.length ≤ cur.length) (h1 : ∀ v ∈ cs, v.oneCell' = true) (hres : cur.take off ++ cs ++ cur.drop (off + cs.length) = res)
    (h : K (a.put o.dst (goInt cs.length)) (X.alloc (.cells res.toArray t)).drew) :
    if Region.wanted o (yielded ops a.tmps) = true then Oper.wp P o a (X.alloc (.cells cur.toArray t)).drew K Q else E := by
  subst hX
  have hw : Region.wanted o (yielded ops a.tmps) = true := by simp [Region.wanted, hgd]
  rw [if_pos hw]
  have hg : (X.alloc (.cells cur.toArray t)).drew.heap[X.heap.size]? = some (.cells cur.toArray t (0, 0)) := heap_alloc_new X _
  have hrun := run_copy_row (P := P) (X.alloc (.cells cur.toArray t)).drew dT sT o.type elem X.heap.size off dLen dCap ad sLen sCap cur.toArray t cs hu hsz hg hn hsrc (by simpa using hfit) h1
  rw [setRow_drew, setRow_last] at hrun
  change _ = Result.ok (goInt cs.length) (X.alloc (.cells (cur.take off ++ cs ++ cur.drop (off + cs.length)).toArray t)).drew at hrun
  rw [hres] at hrun
  unfold Oper.wp
  simp only [execOp, ho, resolve, invoke, builtin, hd, hs, Sem.run_bind, Sem.run_pure, Result.andThen_ok, List.map_toArray, List.map_cons, List.map_nil, hrun]
  exact h
theorem cells_of {w : World} {g off : Nat} {cs : List Value} (h : ∀ j, j < cs.length → w.cell? ⟨g, off + j, none⟩ = cs[j]?) : ∀ j v, cs[j]? = some v → w.cell? ((⟨g, off, none⟩ : Addr).add j) = some v := by
  intro j v hj
  have hlt : j < cs.length := (List.getElem?_eq_some_iff.1 hj).1
  have e : (⟨g, off, none⟩ : Addr).add j = ⟨g, off + j, none⟩ := by unfold Addr.add; split <;> simp_all
  rw [e, h j hlt, hj]

/-- What a call keeps: all that was there, but for the blocks of S. -/
structure Keeps (S : Nat → Prop) (w w' : World) : Prop where
  os : w'.os = w.os
  tape : w'.tape = w.tape
  output : w'.output = w.output
  size : w.heap.size ≤ w'.heap.size
  block : ∀ k, k < w.heap.size → ¬ S k → w'.heap[k]? = w.heap[k]?
section
variable {S : Nat → Prop} {a b c w w' : World}
theorem Keeps.refl (S : Nat → Prop) (w : World) : Keeps S w w := ⟨rfl, rfl, rfl, Nat.le_refl _, fun _ _ _ => rfl⟩
theorem Keeps.trans (h : Keeps S a b) (k : Keeps S b c) : Keeps S a c :=
  ⟨k.os.trans h.os, k.tape.trans h.tape, k.output.trans h.output, Nat.le_trans h.size k.size, fun i hi hs => (k.block i (Nat.lt_of_lt_of_le hi h.size) hs).trans (h.block i hi hs)⟩
theorem Keeps.mono {S' : Nat → Prop} (h : Keeps S a b) (hS : ∀ k, k < a.heap.size → S k → S' k) : Keeps S' a b := ⟨h.os, h.tape, h.output, h.size, fun k hk hn => h.block k hk (fun hs => hn (hS k hk hs))⟩
theorem Keeps.of_below (h : Below a.heap.size a b) : Keeps S a b := ⟨h.os, h.tape, h.output, h.size, fun k hk _ => h.block k hk⟩
theorem Keeps.below {B : Nat} (h : Keeps S a b) (hB : ∀ k, k < B → k < a.heap.size ∧ ¬ S k) : Below B a b := ⟨h.os, h.tape, h.output, h.size, fun k hk => h.block k (hB k hk).1 (hB k hk).2⟩
theorem Keeps.alloc (h : Keeps S a w) (o : Obj) : Keeps S a (w.alloc o) :=
  h.trans ⟨rfl, rfl, rfl, by simp, fun k hk _ => Below.heap_alloc _ _ _ hk⟩
theorem Keeps.drew (h : Keeps S a w) : Keeps S a w.drew := ⟨h.os, h.tape, h.output, h.size, h.block⟩
theorem Keeps.drewN (h : Keeps S a w) (n : Nat) : Keeps S a (w.drewN n) := ⟨h.os, h.tape, h.output, h.size, h.block⟩
theorem Keeps.setCell (h : Keeps S a w) {p : Addr} (hp : a.heap.size ≤ p.block ∨ S p.block) (u : Value) : Keeps S a (w.setCell p u) :=
  ⟨h.os, h.tape, h.output, by have := h.size; simpa [World.setCell] using this, fun k hk hs => by
    rw [Below.heap_setCell _ _ _ _ (fun e => by
      subst e
      rcases hp with hp | hp
      · omega
      · exact hs hp)]
    exact h.block k hk hs⟩
theorem Keeps.grown {row : Option Nat} (h : Keeps S a w) (hg : w.grownBy w' row) (hr : ∀ k, row = some k → a.heap.size ≤ k ∨ S k) : Keeps S a w' :=
  ⟨hg.os.trans h.os, hg.tape.trans h.tape, hg.output.trans h.output, Nat.le_trans h.size hg.size, fun k hk hs => (hg.block k (Nat.lt_of_lt_of_le hk h.size) (fun e => by
    rcases hr k e.symm with hr | hr
    · omega
    · exact hs hr)).trans (h.block k hk hs)⟩
theorem Keeps.cell (h : Keeps S a b) {p : Addr} (hp : p.block < a.heap.size) (hs : ¬ S p.block) : b.cell? p = a.cell? p := World.cell?_of_block (w := a) (h.block p.block hp hs)
theorem Keeps.frozen (h : Keeps S a b) {p : Addr} (hp : p.block < a.heap.size) (hs : ¬ S p.block) : b.frozen? p = a.frozen? p := World.frozen?_of_block (w := a) (h.block p.block hp hs)
theorem Keeps.heap (h : Keeps S a b) {k : Nat} {o : Obj} (hk : a.heap[k]? = some o) (hs : ¬ S k) : b.heap[k]? = some o := by
  rw [h.block k (Array.getElem?_eq_some_iff.1 hk).1 hs]; exact hk
theorem Keeps.ownsRow {base : Nat} {e : TypeId} {size : Nat} {v : Value} {n : Nat} {xs : List Value} (h : Keeps S a b) (ho : a.ownsRow base e size v n xs) (hs : ∀ k, v.ownBlock = some k → ¬ S k) : b.ownsRow base e size v n xs := by
  refine ⟨ho.1, ?_⟩
  rcases ho.2 with hn | ⟨g, cap, cur, rfl, hb, hgg, rest⟩
  · exact .inl hn
  · exact .inr ⟨g, cap, cur, rfl, hb, h.heap hgg (hs g (by simp [Value.ownBlock])), rest⟩
end
theorem bcell {W w1 : World} (hb : Below W.heap.size W w1) : (∀ b o, b < W.heap.size → w1.cell? ⟨b, o, none⟩ = W.cell? ⟨b, o, none⟩) ∧ (∀ b o, b < W.heap.size → w1.frozen? ⟨b, o, none⟩ = W.frozen? ⟨b, o, none⟩) :=
  ⟨fun b o h => hb.cell (p := ⟨b, o, none⟩) h, fun b o h => hb.frozen (p := ⟨b, o, none⟩) h⟩
theorem since_keep {X wx wy : World} {n B : Nat} {w : World} (h : (∀ b o, b < n → wx.cell? ⟨b, o, none⟩ = X.cell? ⟨b, o, none⟩) ∧ (∀ b o, b < n → wx.frozen? ⟨b, o, none⟩ = X.frozen? ⟨b, o, none⟩) ∧ n ≤ wx.heap.size ∧ Below B w wx) (hB : B ≤ n) (hb : Below wx.heap.size wx wy) :
    (∀ b o, b < n → wy.cell? ⟨b, o, none⟩ = X.cell? ⟨b, o, none⟩) ∧ (∀ b o, b < n → wy.frozen? ⟨b, o, none⟩ = X.frozen? ⟨b, o, none⟩) ∧ n ≤ wy.heap.size ∧ Below B w wy := by
  obtain ⟨h1, h2, h3, h4⟩ := h
  exact ⟨fun b o hb' => (hb.cell (p := ⟨b, o, none⟩) (Nat.lt_of_lt_of_le hb' h3)).trans (h1 b o hb'), fun b o hb' => (hb.frozen (p := ⟨b, o, none⟩) (Nat.lt_of_lt_of_le hb' h3)).trans (h2 b o hb'), Nat.le_trans h3 hb.size, h4.trans (hb.mono (Nat.le_trans hB h3))⟩
theorem since_drew {X wx : World} {n B : Nat} {w : World} (h : (∀ b o, b < n → wx.cell? ⟨b, o, none⟩ = X.cell? ⟨b, o, none⟩) ∧ (∀ b o, b < n → wx.frozen? ⟨b, o, none⟩ = X.frozen? ⟨b, o, none⟩) ∧ n ≤ wx.heap.size ∧ Below B w wx) :
    (∀ b o, b < n → wx.drew.cell? ⟨b, o, none⟩ = X.cell? ⟨b, o, none⟩) ∧ (∀ b o, b < n → wx.drew.frozen? ⟨b, o, none⟩ = X.frozen? ⟨b, o, none⟩) ∧ n ≤ wx.drew.heap.size ∧ Below B w wx.drew := ⟨h.1, h.2.1, h.2.2.1, h.2.2.2.drew⟩
theorem block_lt {w : World} {k : Nat} {o : Obj} (h : w.heap[k]? = some o) : k < w.heap.size := (Array.getElem?_eq_some_iff.1 h).1
theorem cell_in {w : World} {g : Nat} {cs : Array Value} {t : TypeId} {fr : Nat × Nat} (hg : w.heap[g]? = some (.cells cs t fr)) (j : Nat) : w.cell? ⟨g, j, none⟩ = cs[j]? := by simp [World.cell?, hg]
theorem free_in {w : World} {g : Nat} {cs : Array Value} {t : TypeId} (hg : w.heap[g]? = some (.cells cs t (0, 0))) (j : Nat) : w.frozen? ⟨g, j, none⟩ = false := by simp [World.frozen?, hg]
/-- A block behind a store into it. -/
theorem block_set {w : World} {g : Nat} {cs : Array Value} {t : TypeId} (hg : w.heap[g]? = some (.cells cs t (0, 0))) (j : Nat) (u : Value) : (w.setCell ⟨g, j, none⟩ u).heap[g]? = some (.cells (cs.setIfInBounds j u) t (0, 0)) :=
  heap_setCell_same w g j cs t u hg
/-- Two arrays of four numbers, compared. -/
theorem run_eql_ints4 {P : Program} (t e : TypeId) (i : TypeInfo) (a0 a1 a2 a3 b0 b1 b2 b3 : Int) (w : World) (ht : P.underlying t = some (.array 4 e)) (he : P.underlying e = some (.int .i64)) (hi : P.info? e = some i) (hs : i.size = 1) :
    (binOp .eql t (.agg #[.int .i64 a0, .int .i64 a1, .int .i64 a2, .int .i64 a3]) (.agg #[.int .i64 b0, .int .i64 b1, .int .i64 b2, .int .i64 b3])).run P w = .ok (.bool (a0 == b0 && a1 == b1 && a2 == b2 && a3 == b3)) w := by
  rw [run_eql_struct]
  unfold Op.equalIn
  simp only [Sem.run_bind, run_underlying ht, Result.andThen_ok]
  have hsz : ∀ w, (sizeOf e).run P w = .ok 1 w := fun w => by simp [sizeOf, typeInfo, hi, hs]
  have hag : ∀ w, (isAgg e).run P w = .ok false w := fun w => by simp [isAgg, run_underlying he]
  simp only [hsz, Result.andThen_ok, Std.Legacy.Range.forIn_eq_forIn_range', Std.Legacy.Range.size]
  simp [List.range', List.forIn_cons, go_sem, part, hsz, hag, run_equalIn_int _ _ _ _ _ _ _ he]
  by_cases h0 : a0 = b0 <;> by_cases h1 : a1 = b1 <;> by_cases h2 : a2 = b2 <;> by_cases h3 : a3 = b3 <;> simp [h0, h1, h2, h3]
theorem run_neq_ints4 {P : Program} (t e : TypeId) (i : TypeInfo) (a0 a1 a2 a3 b0 b1 b2 b3 : Int) (w : World) (ht : P.underlying t = some (.array 4 e)) (he : P.underlying e = some (.int .i64)) (hi : P.info? e = some i) (hs : i.size = 1) :
    (binOp .neq t (.agg #[.int .i64 a0, .int .i64 a1, .int .i64 a2, .int .i64 a3]) (.agg #[.int .i64 b0, .int .i64 b1, .int .i64 b2, .int .i64 b3])).run P w = .ok (.bool (!(a0 == b0 && a1 == b1 && a2 == b2 && a3 == b3))) w := by
  rw [run_neq_struct]
  unfold Op.equalIn
  simp only [Sem.run_bind, run_underlying ht, Result.andThen_ok]
  have hsz : ∀ w, (sizeOf e).run P w = .ok 1 w := fun w => by simp [sizeOf, typeInfo, hi, hs]
  have hag : ∀ w, (isAgg e).run P w = .ok false w := fun w => by simp [isAgg, run_underlying he]
  simp only [hsz, Result.andThen_ok, Std.Legacy.Range.forIn_eq_forIn_range', Std.Legacy.Range.size]
  simp [List.range', List.forIn_cons, go_sem, part, hsz, hag, run_equalIn_int _ _ _ _ _ _ _ he]
  by_cases h0 : a0 = b0 <;> by_cases h1 : a1 = b1 <;> by_cases h2 : a2 = b2 <;> by_cases h3 : a3 = b3 <;> simp [h0, h1, h2, h3]
end Go.Proofs.Ytmpmioffngonjaa
