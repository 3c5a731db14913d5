/- Rows that came of a string: they bear a mark beyond their cells. -/
import Derived.Test.YtjpmfaodkldobaaK3
import Derived.Test.YtjpmfaodkldobaaBv
import Derived.ArgAppend
import Derived.Laws.Append
namespace Go.Proofs.Ytjpmfaodkldobaa
open Go.ChangeShapes Go.WideShapes Go.ChangeAt Go.RowKit
set_option linter.unusedVariables false
set_option maxRecDepth 100000
theorem marked_set2 {w : World} {g : Nat} {cs : Array Value} {t : TypeId} {fr : Nat × Nat} (hg : w.heap[g]? = some (.cells cs t fr)) (j : Nat) (u : Value) : (w.setCell ⟨g, j, none⟩ u).heap[g]? = some (.cells (cs.setIfInBounds j u) t fr) := by
  rw [setCell_eq_setRow _ g j cs t fr u hg]
  exact setRow_heap _ _ _ _ _ _ hg
/-- A row of bytes of the call's own, whatever mark it bears beyond its cells. -/
def OwnM (B : Nat) (w : World) (v : Value) (l : List UInt8) : Prop :=
  ∃ g cap cur lo hi, v = .slice (some ⟨g, 0, none⟩) l.length cap ∧ B ≤ g ∧ w.heap[g]? = some (.cells cur 5 (lo, hi)) ∧ (cap ≤ lo ∨ hi = 0) ∧ l.length ≤ cap ∧ cap ≤ maxLen ∧ cur.size = cap ∧ cur.toList.take l.length = cells8 l
theorem OwnM.cell {B : Nat} {w : World} {g n cap : Nat} {l : List UInt8} (h : OwnM B w (.slice (some ⟨g, 0, none⟩) n cap) l) (j : Nat) (hj : j < l.length) : w.cell? ⟨g, j, none⟩ = some (.int .u8 ((l.getD j 0).toNat : Int)) := by
  obtain ⟨g', cap', cur, lo, hi, hv, hB, hg, hlo, hn, hm, hs, ht⟩ := h
  simp only [Value.slice.injEq, Option.some.injEq, Addr.mk.injEq, true_and, and_true] at hv
  obtain ⟨rfl, rfl, rfl⟩ := hv
  rw [cell_in hg]
  have h1 : (cells8 l)[j]? = cur[j]? := by rw [← ht, List.getElem?_take_of_lt hj, Array.getElem?_toList]
  rw [← h1]
  unfold cells8
  simp [List.getD_eq_getElem?_getD, hj]
theorem OwnM.kept {B : Nat} {w w' : World} {v : Value} {l : List UInt8} (h : OwnM B w v l) (hb : Below w.heap.size w w') : OwnM B w' v l := by
  obtain ⟨g, cap, cur, lo, hi, hv, hB, hg, hr⟩ := h
  exact ⟨g, cap, cur, lo, hi, hv, hB, (Keeps.of_below (S := fun _ => False) hb).heap hg (fun h => h), hr⟩
theorem OwnM.form {B : Nat} {w : World} {v : Value} {l : List UInt8} (h : OwnM B w v l) : ∃ g cap, v = .slice (some ⟨g, 0, none⟩) l.length cap ∧ B ≤ g ∧ g < w.heap.size ∧ l.length ≤ cap ∧ cap ≤ maxLen := by
  obtain ⟨g, cap, cur, lo, hi, hv, hB, hg, hlo, hn, hm, hs, ht⟩ := h
  exact ⟨g, cap, hv, hB, block_lt hg, hn, hm⟩
theorem bytesRow_size (s : ByteArray) (c : Nat) (h : s.size ≤ c) : (bytesRow s c).size = c := by
  have h2 : s.data.size = s.size := rfl
  unfold bytesRow; simp; omega
theorem ownM_conv (w : World) (s : ByteArray) (hs : s.size ≤ 1000000000) : OwnM w.heap.size (w.drew.alloc (.cells (bytesRow s (grownCap w s.size 0 5)) 5 ((bytesRow s (grownCap w s.size 0 5)).size, (bytesRow s (grownCap w s.size 0 5)).size + 1))) (.slice (some ⟨w.heap.size, 0, none⟩) s.data.toList.length (grownCap w s.size 0 5)) s.data.toList := by
  have hl : s.data.toList.length = s.size := by simp
  have hge := grownCap_ge w s.size 0 5
  refine ⟨w.heap.size, _, _, _, _, rfl, Nat.le_refl _, heap_alloc_new w.drew _, ?_, by omega, ?_, bytesRow_size s _ hge, ?_⟩
  · rw [bytesRow_size s _ hge]; exact .inl (Nat.le_refl _)
  · exact grownCap_le_maxLen w s.size 0 5 (by unfold maxLen; omega)
  · rw [hl]
    unfold bytesRow cells8
    rw [Array.toList_append, List.take_append_of_le_length (by simp [hl]), List.take_of_length_le (by simp [hl])]
    simp
theorem app_marked {P : Program} {X : World} {ops : Array Oper} {rest : List Oper} {o : Oper} {a : Act} {Q : Exit → Act → World → Prop} (hgd : o.guard = none) (s x : Operand) (t : TypeId)
    (ho : o.op = .call { callee := .builtin .append, args := #[s, x], argTypes := #[t, t] }) (i : TypeInfo) (ht : P.underlying t = some (.slice 5)) (hi : P.info? 5 = some i) (hz : i.zero = some (.int .u8 0)) (hsize : i.size = 1) (hby : i.bytes = 1)
    (B T : Nat) (v : Value) (l : List UInt8) (b : UInt8) (hs : a.eval s = v) (hown : OwnM B X v l) (g1 c1 : Nat) (hg1 : X.heap.size = g1) (hx : a.eval x = .slice (some ⟨g1, 0, none⟩) 1 c1) (hl : l.length ≤ 1000000000) (hB : B ≤ X.heap.size)
    (h : ∀ v' w', OwnM B w' v' (l ++ [b]) → Below B X w' → wpList P ops Q rest (a.put o.dst v') w') : wpList P ops Q (o :: rest) a (X.alloc (.cells #[.int .u8 (b.toNat : Int)] T)) := by
  subst hg1
  refine wpList_plain hgd fun K hK => ?_
  have hnew : ∀ j u, [Value.int .u8 (b.toNat : Int)][j]? = some u → (X.alloc (.cells #[.int .u8 (b.toNat : Int)] T)).cell? ((⟨X.heap.size, 0, none⟩ : Addr).add j) = some u := cell_new1 X _ T _ rfl
  obtain ⟨g, cap, cur, lo, hi2, rfl, hBg, hg, hlo, hn, hm, hcs, htk⟩ := hown
  have hgl := block_lt hg
  have hg' : (X.alloc (.cells #[.int .u8 (b.toNat : Int)] T)).heap[g]? = some (.cells cur 5 (lo, hi2)) := heap_old hg _
  have hbX : Below B X (X.alloc (.cells #[.int .u8 (b.toNat : Int)] T)) := (Below.refl B X).alloc hB _
  by_cases hroom : l.length + 1 ≤ cap
  · have hr := run_append_room_cells (P := P) (X.alloc (.cells #[.int .u8 (b.toNat : Int)] T)) t o.type 5 i ht hi g 0 l.length cap ⟨X.heap.size, 0, none⟩ 1 c1 [.int .u8 (b.toNat : Int)] (by rw [hsize]; rfl) hnew (by intro u hu; simp at hu; subst hu; rfl) hroom
      (fun j hj => by
        have hj0 : j = 0 := by simpa using hj
        subst hj0
        rw [cell_in hg', hsize]
        simp; omega)
      (fun j hj => by
        have hj0 : j = 0 := by simpa using hj
        subst hj0
        rw [hsize]
        simp [World.frozen?, hg']
        omega)
    unfold Oper.wp execOp
    simp only [ho, resolve, invoke, builtin, Sem.run_bind, Sem.run_pure, Result.andThen_ok, List.map_toArray, List.map_cons, List.map_nil, hs, hx, hr]
    refine hK _ _ (h _ _ ?_ ?_)
    · have hset : ((X.alloc (.cells #[.int .u8 (b.toNat : Int)] T)).setCells g (0 + l.length * i.size) [.int .u8 (b.toNat : Int)]) = (X.alloc (.cells #[.int .u8 (b.toNat : Int)] T)).setCell ⟨g, l.length, none⟩ (.int .u8 (b.toNat : Int)) := by rw [hsize]; simp [World.setCells]
      rw [hset]
      refine ⟨g, cap, _, lo, hi2, by simp, hBg, marked_set2 hg' _ _, hlo, by simp; omega, hm, by simp [hcs], ?_⟩
      rw [← cells8_snoc, ← htk, List.length_append, Array.toList_setIfInBounds]
      simp only [List.length_cons, List.length_nil, Nat.zero_add]
      rw [List.take_succ_eq_append_getElem (by simp [hcs]; omega)]
      congr 1
      · rw [List.take_set_of_le (Nat.le_refl _)]
      · simp
    · rw [hsize]
      simp only [World.setCells]
      exact hbX.setCell (by simpa using hBg) _
  · have hlen : (cells8 l).length = l.length := cells8_len l
    have holds : ∀ j u, (cells8 l)[j]? = some u → (X.alloc (.cells #[.int .u8 (b.toNat : Int)] T)).cell? ((⟨g, 0, none⟩ : Addr).add j) = some u := by
      intro j u hj
      have hjl : j < l.length := by have := (List.getElem?_eq_some_iff.1 hj).1; omega
      have e1 : ((⟨g, 0, none⟩ : Addr).add j) = ⟨g, j, none⟩ := by unfold Addr.add; split <;> simp_all
      rw [e1, cell_in hg', ← hj, ← htk, List.getElem?_take_of_lt hjl, Array.getElem?_toList]
    have hr := run_append_grow (P := P) (X.alloc (.cells #[.int .u8 (b.toNat : Int)] T)) t o.type 5 i (.int .u8 0) ht hi hz ⟨g, 0, none⟩ l.length cap (cells8 l) (by rw [hsize, hlen]; omega) holds ⟨X.heap.size, 0, none⟩ 1 c1 [.int .u8 (b.toNat : Int)] (by rw [hsize]; rfl) hnew (by omega) (by omega) (by rw [hby]; exact growslice_fits (by omega) (by omega))
    unfold Oper.wp execOp
    simp only [ho, resolve, invoke, builtin, Sem.run_bind, Sem.run_pure, Result.andThen_ok, List.map_toArray, List.map_cons, List.map_nil, hs, hx, hr]
    refine hK _ _ (h _ _ ?_ ?_)
    · have hge := grownCap_ge (X.alloc (.cells #[.int .u8 (b.toNat : Int)] T)) (l.length + 1) cap 5
      have hgm := grownCap_le_maxLen (X.alloc (.cells #[.int .u8 (b.toNat : Int)] T)) (l.length + 1) cap 5 (by unfold maxLen; omega)
      refine ⟨_, _, _, 0, 0, by simp, by simp; omega, heap_alloc_new (X.alloc (.cells #[.int .u8 (b.toNat : Int)] T)).drew _, .inr rfl, by simp; omega, hgm, ?_, ?_⟩
      · have hz1 : (Value.int IntKind.u8 0).cells.size = 1 := rfl
        simp only [Array.size_append, List.size_toArray, size_zeroCells, hz1, hlen, List.length_cons, List.length_nil]
        omega
      · rw [← cells8_snoc]
        simp only [Array.toList_append, List.append_assoc]
        rw [← List.append_assoc, List.length_append]
        have e : (cells8 l ++ [Value.int .u8 (b.toNat : Int)]).length = l.length + [b].length := by simp [hlen]
        rw [← e]
        exact List.take_left
    · exact hbX.drew.alloc (by simp; omega) _
end Go.Proofs.Ytjpmfaodkldobaa
