import Derived.Test.YtipcdkemokkdfaaGreatK43
import Derived.Test.YtipcdkemokkdfaaGreatK09
import Derived.Test.YtipcdkemokkdfaaGreatK10
/- Layer 27: Tokens, of what was written. -/
namespace Go.Proofs.YtipcdkemokkdfaaGreat
open Go.ChangeShapes Go.WideShapes Go.ChangeAt Go.RowKit
set_option linter.unusedVariables false
set_option linter.unusedSimpArgs false
set_option maxRecDepth 100000
open Bits hiding packF pack_length
open RunsMath KraftMath CanonMath TurnMath Pm
theorem endR_good (H X : List Bool) (k : Nat) (hk : k < 8) (a : List Tk) : endR (H ++ (X ++ List.replicate k false)) (H.length + X.length) a = .good a := by
  have e : H ++ (X ++ List.replicate k false) = (H ++ X) ++ List.replicate k false := by rw [List.append_assoc]
  unfold endR
  rw [e, ← List.length_append, List.drop_left, List.length_append, List.length_replicate, Nat.add_sub_cancel_left]
  have hp : peek (List.replicate k false) k = 0 := by
    unfold peek
    rw [List.take_of_length_le (by simp)]
    have := word_pad [] k
    rw [List.nil_append] at this
    rw [this]; rfl
  rw [hp, if_neg (by omega)]
/-- What is known of tokens that are written. -/
structure Kt27 (l : List Tk) : Prop where
  some : l ≠ []
  few : l.length ≤ 300
  ok : ∀ t ∈ l, t.ok
theorem Kt27.tabs {l : List Tk} (h : Kt27 l) : Tabs l (tabM l) (tabD l) := tabs_of l h.some h.few h.ok
theorem Kt27.far {l : List Tk} (h : Kt27 l) : (∃ t ∈ l, t.k = 1) → (if farB l then Option.some (tabD l) else none) = Option.some (tabD l) := fun e => by rw [if_pos ((far_iff l).2 e)]
theorem Kt27.size {l : List Tk} (h : Kt27 l) : (bytesK l).length ≤ 7501 := by
  have h1 := bitsK_few l h.some h.few h.ok
  obtain ⟨k, hk, hs⟩ := bytesK_spread l
  have h2 := congrArg List.length hs
  rw [spread_length, List.length_append, List.length_replicate] at h2
  omega
theorem str_list (b : List UInt8) : (⟨b.toArray⟩ : ByteArray).data.toList = b := by simp
theorem str_size (b : List UInt8) : (⟨b.toArray⟩ : ByteArray).size = b.length := by simp [ByteArray.size]
theorem bitsK_eq (l : List Tk) : bitsK l = headsB (farB l) (tabM l) (tabD l) ++ l.flatMap (tokB (tabM l) (tabD l)) := rfl
theorem cTok27 (l : List Tk) (h : Kt27 l) (s : List UInt8) (hs : s.length ≤ 10000) (rest : List Bool) (hr : spread s = headsB (farB l) (tabM l) (tabD l) ++ rest) (raw : Nat) (h1 : 1 ≤ raw) (h2 : raw ≤ 65536) (R : FR) (hL : loopR (tabM l) (if farB l then some (tabD l) else none) (headsB (farB l) (tabM l) (tabD l) ++ rest) (raw + 1) raw (headsB (farB l) (tabM l) (tabD l)).length [] = R) (w : World) :
    Calls Tryz.prog 18 #[.string ⟨s.toArray⟩, .int .i64 raw] w fun e w' => ∃ v E, e = .returned (.tuple #[v, .int .i64 E]) ∧ Below w.heap.size w w' ∧ EndK R w v E w' :=
  cTokAll w ⟨s.toArray⟩ (by rw [str_size]; unfold maxLen; omega) raw h1 h2 R (fun W g hW => by
    rw [str_list] at hW
    exact read27W l _ _ h.tabs s rest hr raw h2 R (by rw [hr]; exact hL) W g hW)
/-- What is written is read. -/
theorem cTokBack (l : List Tk) (h : Kt27 l) (hz : sumK l ≤ 65536) (w : World) :
    Calls Tryz.prog 18 #[.string ⟨(bytesK l).toArray⟩, .int .i64 (sumK l)] w fun e w' => ∃ v, e = .returned (.tuple #[v, .int .i64 0]) ∧ Below w.heap.size w w' ∧ OwnK w.heap.size w' v l := by
  obtain ⟨k, hk, hs⟩ := bytesK_spread l
  have hsz := h.size
  have hsl := sum_len l h.ok
  have h1 : 1 ≤ sumK l := by have := List.length_pos_iff.2 h.some; omega
  refine (cTok27 l h (bytesK l) (by omega) (l.flatMap (tokB (tabM l) (tabD l)) ++ List.replicate k false) (by rw [hs, bitsK_eq, List.append_assoc]) (sumK l) h1 hz (.good l) ?_ w).mono ?_
  · have := loop_back h.tabs h.ok _ h.far (List.replicate k false) 0 l (headsB (farB l) (tabM l) (tabD l)) [] (sumK l + 1) (fun t e => e) (by omega)
    change loopR _ _ _ (sumK l + 1) (sumK l) _ _ = _ at this
    rw [this, loop_end _ _ _ _ _ _ (by omega), endR_good _ _ _ hk, List.nil_append]
  · rintro e w' ⟨v, E, rfl, hb, rfl, ho⟩
    exact ⟨v, rfl, hb, ho⟩
end Go.Proofs.YtipcdkemokkdfaaGreat

/- Layer 30: Block, in its round. -/
namespace Go.Proofs.YtipcdkemokkdfaaGreat
open Go.ChangeShapes Go.WideShapes Go.ChangeAt Go.RowKit
open Tok (OkTok chk chk_no chk_yes)
set_option linter.unusedVariables false
set_option linter.unusedSimpArgs false
set_option maxRecDepth 100000
theorem own_keepS {α : Type} {f : α → List Value} {E sz B : Nat} {S : Nat → Prop} {w w' : World} {v : Value} {l : List α} (h : OwnS f E sz B w v l) (hk : Keeps S w w') (hs : ∀ k, v.ownBlock = some k → ¬ S k) : OwnS f E sz B w' v l := hk.ownsRow h hs
def q4C (q : Q4) : Array Value := #[.int .i64 q.a, .int .i64 q.b, .int .i64 q.c, .int .i64 q.d]
/-- Under way: the window, the bytes so far, the four distances, and where what is told will lie. -/
structure Lp (w1 wr : World) (g g5 g9 B size : Nat) (v : Value) (HH : List UInt8) (u : Value) (o : List UInt8) (q : Q4) : Prop where
  win : ∃ v', WinH wr g B size v' HH ∧ (∀ k, v'.ownBlock = some k → v.ownBlock = some k ∨ w1.heap.size ≤ k) ∧ (∀ k, u.ownBlock = some k → v'.ownBlock ≠ some k)
  out : OwnY w1.heap.size wr u o
  kp : Keeps (fun k => feet g v k ∨ k = g5) w1 wr
  e5 : wr.heap[g5]? = some (.cells (q4C q) 23 (0, 0))
  e9 : wr.heap[g9]? = some (.cells (q4C z4) 23 (0, 0))
  gb : g < w1.heap.size
  vb : ∀ k, v.ownBlock = some k → k < w1.heap.size ∧ k ≠ g5 ∧ k ≠ g9
  b5 : g5 < w1.heap.size ∧ g5 ≠ g
  b9 : g9 < w1.heap.size ∧ g9 ≠ g ∧ g9 ≠ g5
section
variable {w1 wr wr' : World} {g g5 g9 B size : Nat} {v u : Value} {HH o : List UInt8} {q : Q4}
theorem Lp.ub (h : Lp w1 wr g g5 g9 B size v HH u o q) {k : Nat} (e : u.ownBlock = some k) : w1.heap.size ≤ k ∧ k < wr.heap.size := World.ownsRow.lt h.out k e
theorem Lp.c5 (h : Lp w1 wr g g5 g9 B size v HH u o q) : wr.cell? ⟨g5, 0, none⟩ = some (.int .i64 q.a) ∧ wr.cell? ⟨g5, 1, none⟩ = some (.int .i64 q.b) ∧ wr.cell? ⟨g5, 2, none⟩ = some (.int .i64 q.c) ∧ wr.cell? ⟨g5, 3, none⟩ = some (.int .i64 q.d) :=
  ⟨cell_lit h.e5 0 _ rfl, cell_lit h.e5 1 _ rfl, cell_lit h.e5 2 _ rfl, cell_lit h.e5 3 _ rfl⟩
theorem Lp.c9 (h : Lp w1 wr g g5 g9 B size v HH u o q) : wr.cell? ⟨g9, 0, none⟩ = some (.int .i64 0) ∧ wr.cell? ⟨g9, 1, none⟩ = some (.int .i64 0) ∧ wr.cell? ⟨g9, 2, none⟩ = some (.int .i64 0) ∧ wr.cell? ⟨g9, 3, none⟩ = some (.int .i64 0) :=
  ⟨cell_lit h.e9 0 _ rfl, cell_lit h.e9 1 _ rfl, cell_lit h.e9 2 _ rfl, cell_lit h.e9 3 _ rfl⟩
theorem Lp.low (h : Lp w1 wr g g5 g9 B size v HH u o q) (hb : Below wr.heap.size wr wr') : Lp w1 wr' g g5 g9 B size v HH u o q := by
  obtain ⟨v', h1, h2, h3⟩ := h.win
  exact ⟨⟨v', h1.low hb, h2, h3⟩, OwnS.kept h.out hb, h.kp.trans (Keeps.of_below hb), (hb.block _ (block_lt h.e5)).trans h.e5, (hb.block _ (block_lt h.e9)).trans h.e9, h.gb, h.vb, h.b5, h.b9⟩
theorem Lp.step {v' : Value} {HH' : List UInt8} (h : Lp w1 wr g g5 g9 B size v HH u o q) (h1 : WinH wr g B size v' HH) (h2 : ∀ k, v'.ownBlock = some k → v.ownBlock = some k ∨ w1.heap.size ≤ k) (h3 : ∀ k, u.ownBlock = some k → v'.ownBlock ≠ some k) (hs : StepH wr g B size v' HH' wr') : Lp w1 wr' g g5 g9 B size v HH' u o q := by
  obtain ⟨v2, a1, a2, a3⟩ := hs
  have hsz := h.kp.size
  have nf : ∀ k, k < w1.heap.size → k ≠ g → (∀ e, v.ownBlock = some e → e ≠ k) → ¬ feet g v' k := by
    rintro k hk hg hv (e | e)
    · exact hg e
    · rcases h2 k e with h4 | h4
      · exact hv k h4 rfl
      · omega
  have n5 := nf g5 h.b5.1 h.b5.2 (fun e he => (h.vb e he).2.1)
  have n9 := nf g9 h.b9.1 h.b9.2.1 (fun e he => (h.vb e he).2.2)
  refine ⟨⟨v2, a1, fun k e => ?_, fun k e hv => ?_⟩, own_keepS h.out a3 (fun k e hf => ?_), h.kp.trans' a3 (fun j hj hf => ?_), a3.heap h.e5 n5, a3.heap h.e9 n9, h.gb, h.vb, h.b5, h.b9⟩
  · rcases a2 k e with h4 | h4
    · exact h2 k h4
    · right; omega
  · have hu := h.ub e
    rcases a2 k hv with h4 | h4
    · exact h3 k e h4
    · omega
  · have hu := h.ub e
    rcases hf with rfl | hf
    · have := h.gb; omega
    · exact h3 k e hf
  · rcases hf with rfl | hf
    · exact .inl (.inl rfl)
    · rcases h2 j hf with h4 | h4
      · exact .inl (.inr h4)
      · omega
theorem Lp.app {u1 : Value} {T : List UInt8} (h : Lp w1 wr g g5 g9 B size v HH u o q) (hown : OwnY w1.heap.size wr' u1 (o ++ T)) (hgr : wr.drew.grownBy wr' u.ownBlock) (hu1 : ∀ k, u1.ownBlock = some k → u.ownBlock = some k ∨ wr.heap.size ≤ k) : Lp w1 wr' g g5 g9 B size v HH u1 (o ++ T) q := by
  obtain ⟨v', h1, h2, h3⟩ := h.win
  have hsz := h.kp.size
  have hk : Keeps (fun k => u.ownBlock = some k) wr wr' := ((Keeps.refl _ wr).drew).grown hgr (fun k e => .inr e)
  have nb : ∀ k, k < w1.heap.size → ¬ u.ownBlock = some k := fun k hk e => by have := h.ub e; omega
  refine ⟨⟨v', h1.keep hk (fun k hf e => ?_), h2, fun k e hv => ?_⟩, hown, h.kp.trans' hk (fun j hj e => absurd e (nb j hj)), hk.heap h.e5 (nb _ h.b5.1), hk.heap h.e9 (nb _ h.b9.1), h.gb, h.vb, h.b5, h.b9⟩
  · rcases hf with rfl | hf
    · exact nb _ h.gb e
    · exact h3 k e hf
  · rcases hu1 k e with h4 | h4
    · exact h3 k h4 hv
    · have := h1.feet_lt k (.inr hv); omega
theorem Lp.put (h : Lp w1 wr g g5 g9 B size v HH u o q) (q2 : Q4) : Lp w1 ((((wr.setCell ⟨g5, 0, none⟩ (.int .i64 q2.a)).setCell ⟨g5, 1, none⟩ (.int .i64 q2.b)).setCell ⟨g5, 2, none⟩ (.int .i64 q2.c)).setCell ⟨g5, 3, none⟩ (.int .i64 q2.d)) g g5 g9 B size v HH u o q2 := by
  obtain ⟨v', h1, h2, h3⟩ := h.win
  have hk : Keeps (fun k => k = g5) wr ((((wr.setCell ⟨g5, 0, none⟩ (.int .i64 q2.a)).setCell ⟨g5, 1, none⟩ (.int .i64 q2.b)).setCell ⟨g5, 2, none⟩ (.int .i64 q2.c)).setCell ⟨g5, 3, none⟩ (.int .i64 q2.d)) :=
    ((((Keeps.refl (fun k => k = g5) wr).setCell (p := ⟨g5, 0, none⟩) (.inr rfl) _).setCell (p := ⟨g5, 1, none⟩) (.inr rfl) _).setCell (p := ⟨g5, 2, none⟩) (.inr rfl) _).setCell (p := ⟨g5, 3, none⟩) (.inr rfl) _
  refine ⟨⟨v', h1.keep hk (fun k hf e => ?_), h2, h3⟩, own_keepS h.out hk (fun k e e2 => ?_), h.kp.trans' hk (fun j hj e => .inr e), set4 h.e5 _ _ _ _, hk.heap h.e9 h.b9.2.2, h.gb, h.vb, h.b5, h.b9⟩
  · subst e
    rcases hf with e | hf
    · exact h.b5.2 e
    · rcases h2 k hf with h4 | h4
      · exact (h.vb k h4).2.1 rfl
      · have := h.b5.1; omega
  · have := h.ub e; have := h.b5.1; omega
theorem Lp.kept {w : World} (h : Lp w1 wr g g5 g9 B size v HH u o q) (hb : Below w.heap.size w w1) (h5 : w.heap.size ≤ g5) : Keeps (feet g v) w wr :=
  (Keeps.of_below hb).trans' h.kp (fun j hj hs => by rcases hs with hs | rfl; exact hs; omega)
theorem Lp.done {w : World} (h : Lp w1 wr g g5 g9 B size v HH u o q) (hb : Below w.heap.size w w1) (h5 : w.heap.size ≤ g5) : StepH w g B size v HH wr := by
  obtain ⟨v', h1, h2, h3⟩ := h.win
  refine ⟨v', h1, fun k e => ?_, h.kept hb h5⟩
  rcases h2 k e with h4 | h4
  · exact .inl h4
  · exact .inr (Nat.le_trans hb.size h4)
theorem Lp.fin {w : World} (h : Lp w1 wr g g5 g9 B size v HH u o q) (hb : Below w.heap.size w w1) (h5 : w.heap.size ≤ g5) (h9 : w.heap.size ≤ g9) (y0 y1 y2 y3 : Value) :
    Keeps (feet g v) w ((((wr.setCell ⟨g9, 0, none⟩ y0).setCell ⟨g9, 1, none⟩ y1).setCell ⟨g9, 2, none⟩ y2).setCell ⟨g9, 3, none⟩ y3) ∧
    StepH w g B size v HH ((((wr.setCell ⟨g9, 0, none⟩ y0).setCell ⟨g9, 1, none⟩ y1).setCell ⟨g9, 2, none⟩ y2).setCell ⟨g9, 3, none⟩ y3) ∧
    ((((wr.setCell ⟨g9, 0, none⟩ y0).setCell ⟨g9, 1, none⟩ y1).setCell ⟨g9, 2, none⟩ y2).setCell ⟨g9, 3, none⟩ y3).heap[g9]? = some (.cells #[y0, y1, y2, y3] 23 (0, 0)) := by
  obtain ⟨v', h1, h2, h3⟩ := h.win
  have hk : Keeps (fun k => k = g9) wr ((((wr.setCell ⟨g9, 0, none⟩ y0).setCell ⟨g9, 1, none⟩ y1).setCell ⟨g9, 2, none⟩ y2).setCell ⟨g9, 3, none⟩ y3) :=
    ((((Keeps.refl (fun k => k = g9) wr).setCell (p := ⟨g9, 0, none⟩) (.inr rfl) _).setCell (p := ⟨g9, 1, none⟩) (.inr rfl) _).setCell (p := ⟨g9, 2, none⟩) (.inr rfl) _).setCell (p := ⟨g9, 3, none⟩) (.inr rfl) _
  have hK := (h.kept hb h5).trans' hk (fun j hj e => by omega)
  refine ⟨hK, ⟨v', h1.keep hk (fun k hf e => ?_), fun k e => ?_, hK⟩, set4 h.e9 _ _ _ _⟩
  · subst e
    rcases hf with e | hf
    · exact h.b9.2.1 e
    · rcases h2 k hf with h4 | h4
      · exact (h.vb k h4).2.2 rfl
      · have := h.b9.1; omega
  · rcases h2 k e with h4 | h4
    · exact .inl h4
    · exact .inr (Nat.le_trans hb.size h4)
end
/-- fast.do, under way; a block that came since stays. -/
theorem lpDo {w1 w3 wr : World} {g g5 g9 B size : Nat} {v u : Value} {HH o : List UInt8} {q : Q4} (h : Lp w1 w3 g g5 g9 B size v HH u o q) (hb : Below w3.heap.size w3 wr) (gx : Nat) (hgx : w3.heap.size ≤ gx) (ob : Obj) (hx : wr.heap[gx]? = some ob) (t : Tk) (D : Int) (T : List UInt8) (E : Int) (hT : actS t D HH = (T, E)) :
    Calls Tryz.prog 20 #[actV t D, .pointer (some ⟨g, 0, none⟩)] wr fun e w' => e = .returned (.tuple #[.string (sOf T), .int .i64 E]) ∧ Lp w1 w' g g5 g9 B size v (lastN size (HH ++ T)) u o q ∧ w'.heap[gx]? = some ob := by
  obtain ⟨v', h1, h2, h3⟩ := h.win
  have hlt := h1.feet_lt
  exact (fDo t D wr g B size v' HH (h1.low hb) T E hT).mono (by
    rintro e w' ⟨h4, h5⟩
    refine ⟨h4, (h.low hb).step (h1.low hb) h2 h3 h5, ?_⟩
    obtain ⟨v2, -, -, hk⟩ := h5
    exact hk.heap hx (fun hf => by have := hlt gx hf; omega))
end Go.Proofs.YtipcdkemokkdfaaGreat
