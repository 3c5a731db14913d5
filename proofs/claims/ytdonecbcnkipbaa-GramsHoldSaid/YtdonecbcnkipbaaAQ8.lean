/- Layer 43: a map of rows of bytes by how often they stand. -/
import Derived.Maps.OwnSet
import Derived.Maps.Views
import Derived.Maps.RangeWalk
import Derived.Test.YtdonecbcnkipbaaAQ7
namespace Go.Proofs.Ytdonecbcnkipbaa
open Go.ChangeShapes Go.WideShapes Go.ChangeAt Go.RowKit Go.Maps Go.Lib Go.ChangeMaps Go.WideMaps
set_option linter.unusedVariables false
set_option linter.unusedSimpArgs false
set_option maxRecDepth 100000
open RollMath Gm
theorem lawS : Keyed Try.prog 9 := string_keyed Try.underlying9
theorem zeroM (w : World) : (zeroValue 3).run Try.prog w = .ok (.int .i64 0) w := by kernel_rfl
theorem wfM (x : Nat) (h : x ≤ 1000000000) : (Lit.int .i64 (x : Int)).wf = true := by
  simp [Lit.wf, IntKind.min, IntKind.max, IntKind.signed, IntKind.bits]; omega
theorem keyS (t : Tx) (h : t.length ≤ 100000) : keyOf Try.prog 9 (.string (sT t)) = some (.string t) := by
  have := keyOf_string_mk (P := Try.prog) (k := 9) Try.underlying9 (s := sT t) (by rw [sT_size]; unfold maxLen; omega)
  rw [this, sT_data]
theorem keyS_inv {key : Value} {kl : Lit} (h : keyOf Try.prog 9 key = some kl) : ∃ t : Tx, key = .string (sT t) ∧ kl = .string t := by
  have hk : Try.prog.underlying 9 = some .string := Try.underlying9
  cases key <;> simp [keyOf, hk, mapKey] at h
  rename_i s
  obtain ⟨-, rfl⟩ := h
  exact ⟨s.data.toList, by rw [sT_of], rfl⟩
/-- Block b is a map: how often each row stands in q. -/
def IsMS (w : World) (b c : Nat) (q : List Tx) : Prop :=
  ∃ D : DataW Unit, w.ownsMap Try.prog 9 (plainElem Try.prog 3) b c D ∧ (∀ t, Maps.has D (.string t) = decide (t ∈ q) ∧ D.atKey (.string t) (.lit (.int .i64 0)) = .lit (.int .i64 (q.count t : Nat))) ∧ ∀ kl, Maps.has D kl = true → ∃ t : Tx, kl = .string t
theorem IsMS.put {w' : World} {b c : Nat} {q : List Tx} {t : Tx} {D : DataW Unit} (hm : IsMap D) (hM : ∀ t, Maps.has D (.string t) = decide (t ∈ q) ∧ D.atKey (.string t) (.lit (.int .i64 0)) = .lit (.int .i64 (q.count t : Nat))) (hk : ∀ kl, Maps.has D kl = true → ∃ t : Tx, kl = .string t)
    (h' : w'.ownsMap Try.prog 9 (plainElem Try.prog 3) b (c + 1) (D.put (.string t) (.lit (.int .i64 ((q.count t : Nat) + 1 : Int))))) : IsMS w' b (c + 1) (q ++ [t]) := by
  have hkl : WideAt.IsKeyLit (.string t) := trivial
  refine ⟨_, h', fun s => ?_, fun kl hh => ?_⟩
  · by_cases e : s = t
    · subst e
      rw [has_put_same hm hkl, atKey_put_same hm hkl]
      exact ⟨by simp, by rw [List.count_append]; simp⟩
    · have hne : (Lit.string s) ≠ .string t := by simp [e]
      rw [has_put_other hne, atKey_put_other hne, (hM s).1, (hM s).2]
      refine ⟨by simp [e], ?_⟩
      rw [List.count_append, List.count_singleton, if_neg (by simp; exact fun h => e h.symm)]; rfl
  · by_cases e : kl = .string t
    · exact ⟨t, e⟩
    · rw [has_put_other (fun h => e h)] at hh
      exact hk kl hh
theorem IsMS.made (w : World) : IsMS (w.alloc (.map #[] 0)) w.heap.size 0 [] :=
  ⟨_, World.ownsMap_made w _ _ _, fun t => ⟨rfl, rfl⟩, fun kl h => by simp [Maps.has] at h⟩
/-- But for the map in block b all is as it was. -/
structure MT (w w' : World) (b : Nat) : Prop where
  cell : ∀ a, w'.cell? a = w.cell? a
  other : ∀ k, k ≠ b → w'.heap[k]? = w.heap[k]?
  size : w'.heap.size = w.heap.size
  os : w'.os = w.os
  tape : w'.tape = w.tape
  output : w'.output = w.output
theorem MT.refl (w : World) (b : Nat) : MT w w b := ⟨fun _ => rfl, fun _ _ => rfl, rfl, rfl, rfl, rfl⟩
theorem MT.trans {u v w : World} {b : Nat} (h : MT u v b) (k : MT v w b) : MT u w b :=
  ⟨fun a => (k.cell a).trans (h.cell a), fun j hj => (k.other j hj).trans (h.other j hj), k.size.trans h.size, k.os.trans h.os, k.tape.trans h.tape, k.output.trans h.output⟩
theorem MT.of {w w' : World} {b : Nat} (h : w.mapTurned w' b) : MT w w' b := by
  have hg := h.grown
  obtain ⟨es, clock, es', clock', hb, rfl⟩ := h
  have hlt : b < w.heap.size := block_lt hb
  have hs : (setBlock w b (.map es' clock')).heap = w.heap.setIfInBounds b (.map es' clock') := rfl
  have hother : ∀ k, k ≠ b → (setBlock w b (.map es' clock')).heap[k]? = w.heap[k]? := fun k hk => by
    rw [hs, Array.getElem?_setIfInBounds, if_neg (fun e => hk e.symm)]
  refine ⟨fun a => ?_, hother, by rw [hs]; simp, rfl, rfl, rfl⟩
  by_cases e : a.block = b
  · have h1 : (setBlock w b (.map es' clock')).heap[a.block]? = some (.map es' clock') := by rw [hs, e, Array.getElem?_setIfInBounds, if_pos rfl, if_pos hlt]
    rw [← e] at hb
    unfold World.cell?
    rw [h1, hb]
  · exact World.cell?_of_block (w := w) (hother a.block e)
theorem MT.ts {w w' : World} {b : Nat} (h : MT w w' b) {p : Option Addr} {l : List Tx} (hl : IsTs w p l) : IsTs w' p l := by
  rcases hl with rfl | ⟨x, rfl, hc⟩
  · exact .inl rfl
  · exact .inr ⟨x, rfl, fun j hj => by rw [h.cell]; exact hc j hj⟩
theorem MT.below {w w' : World} {b B : Nat} (h : MT w w' b) (hB : B ≤ b) : Below B w w' :=
  ⟨h.os, by rw [h.tape], h.output, by rw [h.size]; exact Nat.le_refl _, fun k hk => h.other k (by omega)⟩
/-- How the range over the map stands: what is still to come, what is told. -/
structure AccG (q : List Tx) (left : Lit → Bool) (acc : List Gr) : Prop where
  keys : ∀ kl, left kl = true → ∃ t : Tx, kl = .string t ∧ t ∈ q
  told : ∀ g ∈ acc, g.1 ∈ q ∧ g.2 = q.count g.1 ∧ left (.string g.1) = false
  all : ∀ t ∈ q, left (.string t) = true ∨ (t, q.count t) ∈ acc
  apart : acc.Pairwise fun x y => x.1 ≠ y.1
theorem AccG.start {q : List Tx} {left : Lit → Bool} (h : ∀ t, left (.string t) = decide (t ∈ q)) (hk : ∀ kl, left kl = true → ∃ t : Tx, kl = .string t) : AccG q left [] :=
  ⟨fun kl hkl => by obtain ⟨t, rfl⟩ := hk kl hkl; exact ⟨t, rfl, by rw [h] at hkl; exact of_decide_eq_true hkl⟩, fun g hg => by simp at hg, fun t ht => .inl (by rw [h, decide_eq_true ht]), List.Pairwise.nil⟩
theorem AccG.step {q : List Tx} {left : Lit → Bool} {acc : List Gr} (h : AccG q left acc) (t : Tx) (hl : left (.string t) = true) : AccG q (fun z => left z && !z.sameKey (.string t)) (acc ++ [(t, q.count t)]) := by
  have hs : ∀ s : Tx, (Lit.string s).sameKey (.string t) = decide (s = t) := fun s => by
    by_cases e : s = t
    · subst e; rw [decide_eq_true rfl]; simp [Lit.sameKey]
    · rw [decide_eq_false e, sameKey_ne (by simp [e])]
  have htq : t ∈ q := by obtain ⟨s, hs, hq⟩ := h.keys _ hl; injection hs with hs; subst hs; exact hq
  refine ⟨fun kl hkl => ?_, fun g hg => ?_, fun s hs2 => ?_, ?_⟩
  · rw [Bool.and_eq_true] at hkl
    exact h.keys kl hkl.1
  · rcases List.mem_append.1 hg with hg | hg
    · obtain ⟨a, b, c⟩ := h.told g hg
      exact ⟨a, b, by simp only [c, Bool.false_and]⟩
    · rw [List.mem_singleton] at hg
      subst hg
      exact ⟨htq, rfl, by simp only [hs, decide_true, Bool.not_true, Bool.and_false]⟩
  · by_cases e : s = t
    · subst e; right; simp
    · rcases h.all s hs2 with h1 | h1
      · left; simp only [h1, hs, decide_eq_false e, Bool.not_false, Bool.and_self]
      · right; exact List.mem_append_left _ h1
  · rw [List.pairwise_append]
    refine ⟨h.apart, List.pairwise_singleton _ _, fun x hx y hy => ?_⟩
    rw [List.mem_singleton] at hy
    subst hy
    intro e
    have := (h.told x hx).2.2
    rw [e, hl] at this
    simp at this
/-- What is told, put in order, is what is counted. -/
theorem acc_count {q : List Tx} {left : Lit → Bool} {acc l : List Gr} (h : AccG q left acc) (h0 : ∀ kl, left kl = false) (hp : l.Perm acc) (hs : l.Pairwise fun x y => ahd y x = false) : IsCount q q l := by
  have hap : l.Pairwise fun x y => x.1 ≠ y.1 := (hp.pairwise_iff (fun h => fun e => h e.symm)).2 h.apart
  refine ⟨?_, fun g => ?_⟩
  · exact (List.pairwise_and_iff.2 ⟨hs, hap⟩).imp (fun {x y} hh => ahd_tri (fun e => hh.2 e.symm) hh.1)
  · rw [hp.mem_iff]
    constructor
    · intro hg
      obtain ⟨a, b, -⟩ := h.told g hg
      exact ⟨a, b⟩
    · rintro ⟨a, b⟩
      rcases h.all g.1 a with h1 | h1
      · rw [h0] at h1; simp at h1
      · rw [← b] at h1; exact h1
section
variable {H : Type} (w : World) {ops : Array Oper} {rest : List Oper} {o : Oper} {a : Act} {Q : Exit → Act → World → Prop}
theorem next_si (hg : o.guard = none) (it : Operand) (hop : o.op = Op.next it false) (b r n : Nat) (D : DataW H) (left : Lit → Bool) (cnt : Nat) (hit : a.eval it = .pointer (some ⟨r, 0, none⟩)) (h : w.ranges Try.prog 9 (plainElem Try.prog 3) b r n D left cnt)
    (hDone : cnt = 0 → (∀ kl, left kl = false) → wpList Try.prog ops Q rest (a.put o.dst (.tuple #[.bool false])) w)
    (hMore : ∀ (t : Tx) (c : Int) (w' : World) (cnt' : Nat), left (.string t) = true → (∀ zd, D.atKey (.string t) zd = .lit (.int .i64 c)) → w'.ranges Try.prog 9 (plainElem Try.prog 3) b r n D (fun z => left z && !z.sameKey (.string t)) cnt' → cnt' < cnt →
      w.grownBy w' (some r) → w'.heap.size = w.heap.size → (Instr.entry (.pointer (some ⟨r, 0, none⟩))).run Try.prog w' = .ok (.tuple #[.string (sT t), .int .i64 c]) w' → wpList Try.prog ops Q rest (a.put o.dst (.tuple #[.bool true, .string (sT t), .int .i64 c])) w') :
    wpList Try.prog ops Q (o :: rest) a w :=
  wpList_next_ranges w hg it hop 9 lawS (plainElem Try.prog 3) (fun t : Tx => Value.string (sT t)) (Value.int .i64) (fun key kl hkey => by obtain ⟨t, rfl, _⟩ := keyS_inv hkey; exact ⟨t, rfl⟩) (fun v y hv => by obtain ⟨c, rfl, _⟩ := plainElem_int_inv Try.underlying3 hv; exact ⟨c, rfl⟩)
    b r n D left cnt hit h hDone (fun t c kl y w' cnt' hkey hlk hv hat hrg hlt hgr hsz hen => by
      obtain ⟨t', ex, rfl⟩ := keyS_inv hkey
      have ht : t' = t := by
        injection ex with ex
        have := congrArg (fun b : ByteArray => b.data.toList) ex
        simpa [sT_data] using this.symm
      subst ht
      obtain ⟨c', ec, rfl, hwc⟩ := plainElem_int_inv Try.underlying3 hv
      cases ec
      exact hMore t' c w' cnt' hlk hat hrg hlt hgr hsz hen)
end
end Go.Proofs.Ytdonecbcnkipbaa
