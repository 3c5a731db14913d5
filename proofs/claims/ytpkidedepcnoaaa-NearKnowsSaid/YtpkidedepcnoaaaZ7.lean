/- Layer 21: rows of matches sorted, and turned. -/
import Derived.Test.YtpkidedepcnoaaaZ1
import Derived.Test.YtpkidedepcnoaaaZ6
import Derived.Shelf.SlSortCmp.NoneTotal
import Derived.Shelf.SlicesQ.Reverse
import Derived.Ground.SlgnProg
import Derived.Sort.OwnSortedInts
namespace Go.Proofs.Ytpkidedepcnoaaa
open Go.ChangeShapes Go.WideShapes Go.ChangeAt Go.RowKit Go.Shelf Go.Lib Go.Sort
set_option linter.unusedVariables false
set_option linter.unusedSimpArgs false
set_option maxRecDepth 100000
shelf_lay_g SlLaysE0.n35 Slgn 35 at Try 52 as revMatch
theorem flatK_list (l : List Mt) : flatK encM 2 l.toArray = (l.flatMap fM).toArray := by
  apply Array.ext
  · rw [size_flatK]; simp [flat_len flatM]
  · intro t h1 h2
    rw [size_flatK] at h1
    have h3 : t / 2 < l.length := by simp at h1; omega
    have := flat_get flatM l (t / 2) (t % 2) l[t / 2] (by simp [h3]) (Nat.mod_lt _ (by decide))
    rw [Nat.mul_comm, Nat.div_add_mod] at this
    have e1 := get_flatK encM 2 l.toArray t h1
    have hs : t < (flatK encM 2 l.toArray).size := by rw [size_flatK]; exact h1
    rw [getElem!_pos _ t hs] at e1
    rw [e1]
    have e2 : l.toArray[t / 2]! = l[t / 2] := by rw [getElem!_pos _ _ (by simpa using h3)]; simp
    rw [e2]
    have h4 : t % 2 < (encM l[t / 2]).length := by show t % 2 < 2; exact Nat.mod_lt _ (by decide)
    rw [getElem!_pos (encM l[t / 2]) (t % 2) h4]
    have e3 : (fM l[t / 2])[t % 2]? = some ((encM l[t / 2])[t % 2]) := List.getElem?_eq_getElem h4
    rw [e3] at this
    have h5 : t < (l.flatMap fM).length := by simpa using h2
    rw [List.getElem?_eq_getElem h5] at this
    injection this with this
    simp [this]
theorem own_blockM {B g n cap : Nat} {w : World} {l : List Mt} (h : OwnMt B w (.slice (some ⟨g, 0, none⟩) n cap) l) : n = l.length ∧ B ≤ g ∧ ∃ cur, w.heap[g]? = some (.cells cur 43 (0, 0)) ∧ l.length ≤ cap ∧ cap ≤ maxLen ∧ cur.size = cap * 2 ∧ cur.toList.take (l.length * 2) = l.flatMap fM := by
  rcases h.2 with ⟨h0, -⟩ | ⟨g', cap', cur, h0, hb, hg, h1, h2, h3, h4⟩
  · simp at h0
  · simp only [Value.slice.injEq, Option.some.injEq, Addr.mk.injEq, and_true, true_and] at h0
    obtain ⟨rfl, rfl, rfl⟩ := h0
    exact ⟨rfl, hb, cur, hg, h1, h2, h3, h4⟩
theorem own_holds {B g n cap : Nat} {w : World} {l : List Mt} (h : OwnMt B w (.slice (some ⟨g, 0, none⟩) n cap) l) : HoldsK encM 2 w g 0 l.toArray := by
  obtain ⟨-, -, cur, hg, h1, h2, h3, h4⟩ := own_blockM h
  unfold HoldsK
  rw [flatK_list]
  intro j hj
  have hj' : j < (l.flatMap fM).length := by simpa using hj
  refine ⟨?_, by rw [Nat.zero_add]; exact free_in hg j⟩
  rw [Nat.zero_add, cell_in hg]
  have hl := flat_len flatM l
  have e : (cur.toList.take (l.length * 2))[j]? = (l.flatMap fM)[j]? := by rw [h4]
  rw [List.getElem?_take_of_lt (by omega), Array.getElem?_toList] at e
  rw [e, List.getElem?_eq_getElem hj']
  rw [getElem!_pos _ j (by simpa using hj')]
  simp
theorem own_put {B g n cap N : Nat} {w : World} {l l' : List Mt} (os : Array Obj) (h : OwnMt B w (.slice (some ⟨g, 0, none⟩) n cap) l) (hl : l'.length = l.length) : OwnMt B (grow (putRowK encM 2 (Sort.ahead w N) g 0 l'.toArray) os) (.slice (some ⟨g, 0, none⟩) n cap) l' ∧ w.grownBy (grow (putRowK encM 2 (Sort.ahead w N) g 0 l'.toArray) os) (some g) := by
  obtain ⟨rfl, hB, cur, hg, h1, h2, h3, h4⟩ := own_blockM h
  have hlt : g < w.heap.size := block_lt hg
  have hheap : (grow (putRowK encM 2 (Sort.ahead w N) g 0 l'.toArray) os).heap[g]? = some (.cells (putCells id 0 (flatK encM 2 l'.toArray) cur) 43 (0, 0)) := by
    unfold putRowK
    rw [heap_grow_old _ _ (by simpa using hlt)]
    simp [putRow, mapBlock, Sort.ahead, Array.getElem?_modify, hg, onCells]
  refine ⟨⟨by rw [flat_len flatM], .inr ⟨g, cap, _, by rw [hl], hB, hheap, by omega, h2, by simp [putCells, h3], ?_⟩⟩, ?_⟩
  · rw [flatK_list]
    apply List.ext_getElem?
    intro j
    have hll := flat_len flatM l'
    by_cases hj : j < l'.length * 2
    · rw [List.getElem?_take_of_lt hj, Array.getElem?_toList]
      have hjc : j < cur.size := by omega
      simp [putCells, hjc, hll, hj]
      try (rw [getElem!_pos _ j (by simpa [hll] using hj)]; rw [List.getElem?_eq_getElem (by omega)]; simp)
    · rw [List.getElem?_take_eq_none (by omega), List.getElem?_eq_none (by omega)]
  · refine ⟨rfl, rfl, rfl, by unfold putRowK; simp, fun k hk hne => ?_⟩
    unfold putRowK
    rw [heap_grow_old _ _ (by simpa using hk)]
    have : g ≠ k := fun e => hne (by rw [e])
    simp [putRow, mapBlock, Sort.ahead, Array.getElem?_modify, this]
/-- slices.SortFunc on a row of the call's own. -/
theorem cSortM (B : Nat) (v : Value) (l : List Mt) (w : World) (h : OwnMt B w v l) (hB : B ≤ w.heap.size) (hl : l.length < 4611686018427387904) :
    Calls Try.prog 49 #[v, .func (Fn.func 50) #[] #[]] w fun e w' => e = .returned (.tuple #[]) ∧ ∃ l', OwnMt B w' v l' ∧ l'.Perm l ∧ l'.Pairwise (fun x y => y.1 ≤ x.1) ∧ Below B w w' := by
  by_cases h0 : l.length = 0
  · obtain rfl : l = [] := List.length_eq_zero_iff.1 h0
    obtain ⟨p, c, rfl⟩ := h.slice
    exact (AnyF.slices_SortFunc_none sortMatch p c _ w).mono fun e w' ⟨he, hw⟩ => ⟨he, [], by rw [hw]; exact h, List.Perm.refl _, List.Pairwise.nil, by rw [hw]; exact Below.refl _ _⟩
  · obtain ⟨g, c, rfl, hBg, hg⟩ := h.form (by omega) (by decide)
    have hH := own_holds h
    have hs : l.length = l.toArray.size := by simp
    have := sortM g 0 c l.toArray w hH hg (by simpa using hl)
    rw [← hs] at this
    refine this.mono fun e w' ⟨he, d', n, os, hp, hso, hw⟩ => ?_
    obtain ⟨hsz, -, hperm⟩ := hp
    have e1 : d'.extract 0 l.length = d' := by
      have : l.length = d'.size := by rw [hsz]; simp
      rw [this]; exact Array.extract_size
    rw [e1, show l.toArray.extract 0 l.length = l.toArray by rw [hs]; exact Array.extract_size] at hperm
    have hl2 : d'.toList.length = l.length := by rw [Array.length_toList, hsz]; simp
    have hown := own_put (N := n) os h hl2
    have hw2 : w' = grow (putRowK encM 2 (Sort.ahead w n) g 0 d'.toList.toArray) os := by rw [hw]; rfl
    refine ⟨he, d'.toList, by rw [hw2]; exact hown.1, by simpa using hperm, ?_, by rw [hw2]; exact below_of_grown hown.2 hB (fun k hk => by injection hk with hk; omega)⟩
    rw [List.pairwise_iff_getElem]
    intro i j hi hj hij
    have hi' : i < d'.size := by simpa using hi
    have hj' : j < d'.size := by simpa using hj
    have h3 := hso i j (Nat.zero_le _) hij (by rw [hs, ← hsz]; exact hj')
    rw [getElem!_pos d' j hj', getElem!_pos d' i hi', ltM] at h3
    have h4 := of_decide_eq_false h3
    simp only [Array.getElem_toList]
    omega
theorem cRevM (B : Nat) (v : Value) (l : List Mt) (w : World) (h : OwnMt B w v l) (hB : B ≤ w.heap.size) (hl : l.length ≤ 9223372036854775807) :
    Calls Try.prog 52 #[v] w fun e w' => e = .returned (.tuple #[]) ∧ OwnMt B w' v l.reverse ∧ Below B w w' := by
  by_cases h0 : l.length = 0
  · obtain rfl : l = [] := List.length_eq_zero_iff.1 h0
    obtain ⟨p, c, rfl⟩ := h.slice
    exact (AnyQ.slices_Reverse_empty revMatch p c w).mono fun e w' ⟨he, hw⟩ => ⟨he, by rw [hw]; exact h, by rw [hw]; exact Below.refl _ _⟩
  · obtain ⟨g, c, rfl, hBg, hg⟩ := h.form (by omega) (by decide)
    have hH := own_holds h
    have hs : l.length = l.toArray.size := by simp
    have := AnyQ.slices_Reverse revMatch 2 (fun w => by kernel_rfl) (fun w => by kernel_rfl) encM (fun _ => rfl) (fun x v hv => by simp [encM] at hv; rcases hv with rfl | rfl <;> rfl) g 0 c l.toArray w hH (by simpa using hl)
    rw [← hs] at this
    refine this.mono fun e w' ⟨he, n, hw⟩ => ?_
    have hown := own_put (N := n) (l' := l.reverse) #[] h (by simp)
    have hw2 : w' = grow (putRowK encM 2 (Sort.ahead w n) g 0 l.reverse.toArray) #[] := by rw [hw, grow_empty]; simp
    exact ⟨he, by rw [hw2]; exact hown.1, by rw [hw2]; exact below_of_grown hown.2 hB (fun k hk => by injection hk with hk; omega)⟩
end Go.Proofs.Ytpkidedepcnoaaa
