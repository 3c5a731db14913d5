/- Layer 11: fill of a part of a table: rows of places of four cells. -/
import Derived.Test.YtbdhfmoididkgaaAL1
import Derived.Test.YtbdhfmoididkgaaJ3
import Derived.Test.YtbdhfmoididkgaaK4
namespace Go.Proofs.Ytbdhfmoididkgaa
open Go.ChangeShapes Go.WideShapes Go.ChangeAt Go.RowKit
set_option linter.unusedVariables false
set_option linter.unusedSimpArgs false
set_option maxRecDepth 100000
open Two
theorem four_of {α : Type} {f : α → List Value} (hf : Flat f 4) (y : α) : ∃ a b c d, f y = [a, b, c, d] := by
  have := (hf y).1
  match hq : f y, this with
  | [a, b, c, d], _ => exact ⟨a, b, c, d, rfl⟩
theorem flat_set4 {α : Type} {f : α → List Value} (hf : Flat f 4) (x : α) (a b c d : Value) (hx : f x = [a, b, c, d]) : ∀ (l : List α) (i : Nat), i < l.length → (l.set i x).flatMap f = ((((l.flatMap f).set (i * 4) a).set (i * 4 + 1) b).set (i * 4 + 2) c).set (i * 4 + 3) d
  | [], _, h => by simp at h
  | y :: l, 0, _ => by
    obtain ⟨y1, y2, y3, y4, hy⟩ := four_of hf y
    simp [List.flatMap_cons, hx, hy]
  | y :: l, i + 1, h => by
    obtain ⟨y1, y2, y3, y4, hy⟩ := four_of hf y
    have ih := flat_set4 hf x a b c d hx l i (by simpa using h)
    rw [List.set_cons_succ, List.flatMap_cons, List.flatMap_cons, ih, hy]
    rw [show (i + 1) * 4 = i * 4 + 1 + 1 + 1 + 1 by omega, show i * 4 + 1 + 1 + 1 + 1 + 1 = (i * 4 + 1) + 1 + 1 + 1 + 1 by omega, show i * 4 + 1 + 1 + 1 + 1 + 2 = (i * 4 + 2) + 1 + 1 + 1 + 1 by omega, show i * 4 + 1 + 1 + 1 + 1 + 3 = (i * 4 + 3) + 1 + 1 + 1 + 1 by omega]
    simp
theorem OwnS.set4 {α : Type} {f : α → List Value} {E B g n cap : Nat} {w : World} {l : List α} (hf : Flat f 4) (h : OwnS f E 4 B w (.slice (some ⟨g, 0, none⟩) n cap) l) (i : Nat) (x : α) (a b c d : Value) (hx : f x = [a, b, c, d]) (hi : i < l.length) :
    OwnS f E 4 B ((((w.setCell ⟨g, i * 4, none⟩ a).setCell ⟨g, i * 4 + 1, none⟩ b).setCell ⟨g, i * 4 + 2, none⟩ c).setCell ⟨g, i * 4 + 3, none⟩ d) (.slice (some ⟨g, 0, none⟩) n cap) (l.set i x) := by
  have hn : n = l.length := by
    rcases h.2 with ⟨h0, -⟩ | ⟨g', cap', cur', h0, -⟩ <;> simp at h0; omega
  subst hn
  have h1 := (World.ownsRow.stored h (i * 4) a).1
  have h2 := (World.ownsRow.stored h1 (i * 4 + 1) b).1
  have h3 := (World.ownsRow.stored h2 (i * 4 + 2) c).1
  have h4 := (World.ownsRow.stored h3 (i * 4 + 3) d).1
  unfold OwnS
  rw [List.length_set, flat_set4 hf x a b c d hx l i hi]
  exact h4
def fT (p : Ent) : List Value := [.int .i32 p.1, .int .i16 p.2.1, .bool p.2.2.1, .int .i32 p.2.2.2]
theorem flatT : Flat fT 4 := fun x => ⟨rfl, by intro u hu; simp [fT] at hu; rcases hu with rfl | rfl | rfl | rfl <;> rfl⟩
abbrev OwnT (B : Nat) (w : World) (v : Value) (l : List Ent) : Prop := OwnS fT 56 4 B w v l
theorem info_tent : (Try.prog.info? 56).map (fun i => (i.zero, i.size, i.bytes)) = some (some (.agg #[.int .i32 0, .int .i16 0, .bool false, .int .i32 0]), 4, 12) := by kernel_rfl
def segTo (tab : List Ent) (b N T q i : Nat) (e : Ent) : List Ent := (List.range tab.length).map fun v => if b ≤ v ∧ v < b + N ∧ v < b + i ∧ (v - b) % q = T then e else tab.getD v z0
theorem segTo_len (tab : List Ent) (b N T q i : Nat) (e : Ent) : (segTo tab b N T q i e).length = tab.length := by simp [segTo]
theorem segTo_start (tab : List Ent) (b N T q : Nat) (e : Ent) (hT : T < q) : segTo tab b N T q T e = tab := by
  apply List.ext_getElem (segTo_len _ _ _ _ _ _ _)
  intro v h1 h2
  have hn : ¬ (b ≤ v ∧ v < b + N ∧ v < b + T ∧ (v - b) % q = T) := fun ⟨x, _, y, z⟩ => by
    rw [Nat.mod_eq_of_lt (by omega)] at z; omega
  simp only [segTo, List.getElem_map, List.getElem_range, if_neg hn]
  simp [List.getD_eq_getElem?_getD, h2]
theorem segTo_step (tab : List Ent) (b N T q i : Nat) (e : Ent) (hq : 0 < q) (hi : i % q = T) (hlt : i < N) (hb : b + N ≤ tab.length) : (segTo tab b N T q i e).set (b + i) e = segTo tab b N T q (i + q) e := by
  apply List.ext_getElem (by rw [List.length_set, segTo_len, segTo_len])
  intro v h1 h2
  rw [List.getElem_set]
  simp only [segTo, List.getElem_map, List.getElem_range]
  by_cases e1 : b + i = v
  · subst e1
    rw [if_pos rfl, if_pos ⟨by omega, by omega, by omega, by rw [Nat.add_sub_cancel_left]; exact hi⟩]
  · rw [if_neg e1]
    by_cases c1 : b ≤ v ∧ v < b + N ∧ v < b + i ∧ (v - b) % q = T
    · rw [if_pos c1, if_pos ⟨c1.1, c1.2.1, by omega, c1.2.2.2⟩]
    · rw [if_neg c1, if_neg]
      rintro ⟨x, y, z, u⟩
      apply c1
      refine ⟨x, y, ?_, u⟩
      apply Classical.byContradiction
      intro hge
      obtain ⟨d, hd⟩ : ∃ d, v - b = i + d := ⟨v - b - i, by omega⟩
      have hd1 : d < q := by omega
      have hd0 : 0 < d := by omega
      rw [hd, Nat.add_mod, hi, Nat.mod_eq_of_lt hd1] at u
      have hT : T < q := by rw [← hi]; exact Nat.mod_lt _ hq
      by_cases hs : T + d < q
      · rw [Nat.mod_eq_of_lt hs] at u; omega
      · rw [Nat.mod_eq_sub_mod (by omega), Nat.mod_eq_of_lt (by omega)] at u; omega
theorem segTo_end (tab : List Ent) (b N T q i : Nat) (e : Ent) (h : N ≤ i) : segTo tab b N T q i e = segF tab b N T q e := by
  unfold segTo segF
  apply List.map_congr_left
  intro v _
  congr 1
  apply propext
  exact ⟨fun ⟨x, y, _, z⟩ => ⟨x, y, z⟩, fun ⟨x, y, z⟩ => ⟨x, y, by omega, z⟩⟩
theorem segF_fill (tab : List Ent) (T q : Nat) (e : Ent) : segF tab 0 tab.length T q e = fillE tab T q e := by
  unfold segF fillE
  apply List.map_congr_left
  intro v hv
  have := List.mem_range.1 hv
  congr 1
  apply propext
  exact ⟨fun ⟨_, _, z⟩ => by simpa using z, fun z => ⟨by omega, by omega, by simpa using z⟩⟩
theorem far4 {w : World} {g g' o o1 o2 o3 o4 : Nat} {v u1 u2 u3 u4 : Value} (h : w.cell? ⟨g, o, none⟩ = some v) (hne : g ≠ g') : ((((w.setCell ⟨g', o1, none⟩ u1).setCell ⟨g', o2, none⟩ u2).setCell ⟨g', o3, none⟩ u3).setCell ⟨g', o4, none⟩ u4).cell? ⟨g, o, none⟩ = some v := by
  rw [World.cell?_of_block (w := w) ((((Below.heap_setCell _ _ _ _ hne).trans (Below.heap_setCell _ _ _ _ hne)).trans (Below.heap_setCell _ _ _ _ hne)).trans (Below.heap_setCell _ _ _ _ hne))]; exact h
end Go.Proofs.Ytbdhfmoididkgaa
