/- Layer 43: rows of texts of a call's own; what a call keeps. -/
import Derived.Test.YtdonecbcnkipbaaAQ10
import Derived.Sort.EncStr
import Derived.Laws.IdiomCopy
import Derived.Lib.Join
import Derived.Deep.Upon
namespace Go.Proofs.Ytdonecbcnkipbaa
open Go.ChangeShapes Go.WideShapes Go.ChangeAt Go.RowKit Go.Maps Go.Lib Go.Sort
set_option linter.unusedVariables false
set_option linter.unusedSimpArgs false
set_option maxRecDepth 100000
open RollMath Gm
def fS (r : Tx) : List Value := [.string (sT r)]
theorem flatS : Flat fS 1 := fun x => ⟨rfl, by intro u hu; simp [fS] at hu; subst hu; rfl⟩
theorem info_str : (Try.prog.info? 9).map (fun i => (i.zero, i.size, i.bytes)) = some (some (.string ⟨#[]⟩), 1, 16) := by kernel_rfl
abbrev OwnTs (B : Nat) (w : World) (v : Value) (l : List Tx) : Prop := OwnS fS 9 1 B w v l
theorem app_tx {X : World} {ops : Array Oper} {rest : List Oper} {o : Oper} {a : Act} {Q : Exit → Act → World → Prop} (hgd : o.guard = none) (s xo : Operand)
    (ho : o.op = .call { callee := .builtin .append, args := #[s, xo], argTypes := #[22, 22] })
    (B T : Nat) (v : Value) (l : List Tx) (x : Tx) (hs : a.eval s = v) (hown : OwnTs B X v l) (g c1 : Nat) (hg : X.heap.size = g) (hx : a.eval xo = .slice (some ⟨g, 0, none⟩) 1 c1) (hl : l.length ≤ 1000000) (hB : B ≤ X.heap.size)
    (h : ∀ v' w', OwnTs B w' v' (l ++ [x]) → Below B X w' → X.grownBy w' v.ownBlock → wpList Try.prog ops Q rest (a.put o.dst v') w') : wpList Try.prog ops Q (o :: rest) a (X.alloc (.cells #[.string (sT x)] T)) :=
  app_one (f := fS) info_str rfl (by decide) (by decide) Try.underlying22 flatS hgd s xo ho B T v l x hs hown g c1 hg hx (by omega) hB h
/-- v is a row that holds l. -/
def Rvd (w : World) (v : Value) (l : List Tx) : Prop := (l = [] ∧ ∃ p c, v = .slice p 0 c) ∨ ∃ g c, v = .slice (some ⟨g, 0, none⟩) l.length c ∧ l.length ≤ c ∧ g < w.heap.size ∧ ∀ (j : Nat) x, l[j]? = some x → w.cell? ⟨g, j, none⟩ = some (.string (sT x))
theorem cRevS (B : Nat) (v : Value) (l : List Tx) (w : World) (h : OwnTs B w v l) (hB : B ≤ w.heap.size) (hl : l.length ≤ 1000000) :
    Calls Try.prog 13 #[v] w fun e w' => e = .returned (.tuple #[]) ∧ Rvd w' v l.reverse ∧ Below B w w' := by
  by_cases h0 : l.length = 0
  · obtain rfl : l = [] := List.length_eq_zero_iff.1 h0
    obtain ⟨p, c, rfl⟩ := h.slice
    exact (Try.slices_Reverse_string_empty p c w).mono fun e w' ⟨he, hw⟩ => ⟨he, .inl ⟨rfl, p, c, rfl⟩, by rw [hw]; exact Below.refl _ _⟩
  · obtain ⟨g, c, rfl, hBg, hg⟩ := h.form (by omega) (by decide)
    have hcap : l.length ≤ c := by
      rcases h.2 with ⟨e, -⟩ | ⟨g', cap', cur, e, -, -, hc, -⟩
      · simp at e
      · simp only [Value.slice.injEq] at e; omega
    have hcells : ∀ i, i < l.length → w.cell? ⟨g, 0 + i, none⟩ = some (.string (sT (l.getD i []))) := fun i hi => by
      have h1 := h.cell flatS i 0 l[i] (by simp [hi]) (by decide)
      rw [Nat.mul_one, Nat.add_zero] at h1
      rw [Nat.zero_add, h1]
      simp [fS, List.getD_eq_getElem?_getD, hi]
    have hfree : ∀ j, j < l.length → w.frozen? ⟨g, 0 + j, none⟩ = false := fun j _ => by rw [Nat.zero_add]; exact h.free j
    have hst : strsOf (fun i => sT (l.getD i [])) l.length = l := by
      apply List.ext_getElem
      · simp [strsOf]
      · intro i h1 h2
        simp [strsOf, sT_data, List.getD_eq_getElem?_getD, h2]
    have := Try.slices_Reverse_string_cells g 0 l.length c (fun i => sT (l.getD i [])) w (by omega) hcells hfree
    rw [hst] at this
    refine this.mono fun e w' ⟨he, q, hw⟩ => ?_
    have hlen : (l.reverse.map encStr).length = l.length := by simp
    refine ⟨he, .inr ⟨g, c, by rw [List.length_reverse], by rw [List.length_reverse]; exact hcap, ?_, ?_⟩, ?_⟩
    · rw [hw]; simp only [size_setCells]; exact hg
    · intro j x hx
      have hj : j < l.reverse.length := (List.getElem?_eq_some_iff.1 hx).1
      have := World.cell?_setCells_in g (l.reverse.map encStr) 0 (w.drewN q) (fun i hi => by
        rw [hlen] at hi
        show (w.cell? ⟨g, 0 + i, none⟩).isSome = true
        rw [hcells i hi]; rfl) j (by simpa using hj)
      rw [Nat.zero_add] at this
      rw [hw, this]
      rw [List.getElem?_eq_getElem hj] at hx
      injection hx with hx
      simp only [List.getElem_map, hx]
      rfl
    · rw [hw]
      have hk := World.keptBut_setCells g (may := fun _ => True) (l.reverse.map encStr) 0 (w.drewN q) (fun _ _ => trivial)
      refine ⟨World.os_setCells _ _ _ _, ?_, World.output_setCells _ _ _ _, by simp only [size_setCells]; exact Nat.le_refl _, fun k hk2 => ?_⟩
      · have : ∀ (vs : List Value) (o : Nat) (W : World), (W.setCells g o vs).tape = W.tape := by
          intro vs
          induction vs with
          | nil => intro o W; rfl
          | cons v r ih => intro o W; rw [World.setCells, ih]; rfl
        rw [this]; rfl
      · exact World.heap_setCells_other (w.drewN q) g 0 _ (by show k < w.heap.size; omega) (by omega)
theorem join_empty (l : List Tx) : Lib.join l [] = l.flatten := by
  cases l with
  | nil => rfl
  | cons x r => rw [Lib.join_cons]; simp [Lib.joinTail]
theorem cJoinS (v : Value) (l : List Tx) (w : World) (h : Rvd w v l) (hl : l.length ≤ 1000000) (hf : l.flatten.length ≤ 1000000) :
    Calls Try.prog 14 #[v, .string ⟨#[]⟩] w fun e w' => e = .returned (.string (sT l.flatten)) ∧ Below w.heap.size w w' := by
  rcases h with ⟨rfl, p, c, rfl⟩ | ⟨g, c, rfl, hc, hg, hcell⟩
  · exact (Try.strings_Join_none p c ⟨#[]⟩ w).mono fun e w' ⟨he, hw⟩ => ⟨by rw [he]; rfl, by rw [hw]; exact Below.refl _ _⟩
  · have hm : (l.map sT).map (·.data.toList) = l := by
      rw [List.map_map]
      conv => rhs; rw [← List.map_id l]
      apply List.map_congr_left
      intro x _
      exact sT_data x
    have := Try.strings_Join g 0 c (l.map sT) ⟨#[]⟩ w (fun j x hx => by
      rw [List.getElem?_map] at hx
      cases hq : l[j]? with
      | none => rw [hq] at hx; simp at hx
      | some y =>
        rw [hq] at hx
        simp only [Option.map_some, Option.some.injEq] at hx
        rw [Nat.zero_add, hcell j y hq, hx]) hg (by rw [List.length_map]; omega) (by rw [List.length_map]; exact hc) (by
      rw [hm]
      show (Lib.join l []).length ≤ _
      rw [join_empty]; omega)
    rw [List.length_map, hm] at this
    refine this.mono fun e w' ⟨he, hb⟩ => ⟨?_, hb⟩
    rw [he]
    show Ending.returned (.string ⟨(Lib.join l []).toArray⟩) = _
    rw [join_empty]
    rfl
/-- Below B, but for block b, all is as it was. -/
structure Kp (B b : Nat) (w w' : World) : Prop where
  os : w'.os = w.os
  tape : w'.tape = w.tape
  output : w'.output = w.output
  size : w.heap.size ≤ w'.heap.size
  block : ∀ k, k < B → k ≠ b → w'.heap[k]? = w.heap[k]?
theorem Kp.refl (B b : Nat) (w : World) : Kp B b w w := ⟨rfl, rfl, rfl, Nat.le_refl _, fun _ _ _ => rfl⟩
theorem Kp.trans {B b : Nat} {u v w : World} (h : Kp B b u v) (k : Kp B b v w) : Kp B b u w :=
  ⟨k.os.trans h.os, k.tape.trans h.tape, k.output.trans h.output, Nat.le_trans h.size k.size, fun j h1 h2 => (k.block j h1 h2).trans (h.block j h1 h2)⟩
theorem Kp.of_below {B B' b : Nat} {u v : World} (h : Below B' u v) (hB : B ≤ B') : Kp B b u v := ⟨h.os, h.tape, h.output, h.size, fun k h1 _ => h.block k (by omega)⟩
theorem Kp.of_mt {B b : Nat} {u v : World} (h : MT u v b) : Kp B b u v := ⟨h.os, h.tape, h.output, by rw [h.size]; exact Nat.le_refl _, fun k _ h2 => h.other k h2⟩
theorem Kp.below {B b B' : Nat} {u v : World} (h : Kp B b u v) (h1 : B' ≤ b) (h2 : B' ≤ B) : Below B' u v := ⟨h.os, h.tape, h.output, h.size, fun k hk => h.block k (by omega) (by omega)⟩
theorem Kp.gr {B b g : Nat} {u v : World} {l : List Gr} (h : Kp B b u v) (hl : IsGr u (some ⟨g, 0, none⟩) l) (h1 : g < B) (h2 : g ≠ b) : IsGr v (some ⟨g, 0, none⟩) l := by
  rcases hl with rfl | ⟨x, e, hc⟩
  · exact .inl rfl
  · injection e with e
    subst e
    refine .inr ⟨_, rfl, fun i hi => ?_⟩
    obtain ⟨c0, c1⟩ := hc i hi
    have hbk : ∀ o : Nat, v.cell? ⟨g, o, none⟩ = u.cell? ⟨g, o, none⟩ := fun o => World.cell?_of_block (w := u) (h.block g h1 h2)
    have e1 : (⟨g, 0, none⟩ : Addr).add (i * 2) = ⟨g, i * 2 + 0, none⟩ := by unfold Addr.add; split <;> simp_all
    rw [e1] at c0 c1 ⊢
    exact ⟨(hbk _).trans c0, (hbk _).trans c1⟩
theorem IsMS.kept {w w' : World} {b c : Nat} {q : List Tx} {row : Option Nat} (h : IsMS w b c q) (hg : w.grownBy w' row) (hne : some b ≠ row) : IsMS w' b c q := by
  obtain ⟨D, ho, hD, hK⟩ := h
  exact ⟨D, ho.kept hg hne, hD, hK⟩
theorem IsMS.lt {w : World} {b c : Nat} {q : List Tx} (h : IsMS w b c q) : b < w.heap.size := by
  obtain ⟨D, ho, -⟩ := h
  exact ho.lt
theorem MT.own {w w' : World} {b B : Nat} {v : Value} {l : List Tx} (h : MT w w' b) (ho : OwnTs B w v l) (hb : b < B) : OwnTs B w' v l := by
  refine OwnS.grown ho (row := some b) ⟨h.os, h.tape, h.output, by rw [h.size]; exact Nat.le_refl _, fun k _ h2 => h.other k (fun e => h2 (by rw [e]))⟩ ?_
  cases hv : v.ownBlock with
  | none => exact .inl rfl
  | some q => exact .inr (fun e => by injection e with e; have := (ho.lt q hv).1; omega)
/-- The document stops taking where the program stops. -/
theorem bld_break {L : List Gr} {K : Nat} {SZ : Int} {n : Nat} (hs : L.Pairwise fun x y => ahd x y = true) (h : n < L.length) (hb : (L.getD n ([], 0)).2 < 2 ∨ SZ < (((bldAt K SZ L n).length + K : Nat) : Int)) : bldL K SZ L = bldAt K SZ L n := by
  have e : bldL K SZ L = (L.drop n).foldl (bldS K SZ) (bldAt K SZ L n) := by
    unfold bldAt bldL
    rw [← List.foldl_append, List.take_append_drop]
  rw [e]
  refine bld_stop K SZ _ _ (fun g hg => ?_)
  rcases hb with hb | hb
  · left
    rw [List.getD_eq_getElem?_getD, List.getElem?_eq_getElem h, Option.getD_some] at hb
    rw [List.drop_eq_getElem_cons h] at hg
    rcases List.mem_cons.1 hg with rfl | hg
    · exact hb
    · obtain ⟨j, hj, e⟩ := List.mem_iff_getElem.1 hg
      rw [List.length_drop] at hj
      rw [List.getElem_drop] at e
      have := List.pairwise_iff_getElem.1 hs n (n + 1 + j) h (by omega) (by omega)
      rw [e] at this
      unfold ahd at this
      simp only [Bool.or_eq_true, decide_eq_true_eq, Bool.and_eq_true] at this
      rcases this with h | ⟨h, -⟩ <;> omega
  · right; exact hb
end Go.Proofs.Ytdonecbcnkipbaa
