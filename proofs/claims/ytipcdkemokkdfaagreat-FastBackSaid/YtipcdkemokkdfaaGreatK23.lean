import Derived.Test.YtipcdkemokkdfaaGreatK18
import Derived.Test.YtipcdkemokkdfaaGreatK20
import Derived.Test.YtipcdkemokkdfaaGreatK22
import Derived.Deep.WholeRow
import Derived.Deep.LoopGhost
import Derived.Test.YtipcdkemokkdfaaGreatK01
import Derived.Test.YtipcdkemokkdfaaGreatK21
/- Layer 8: how many symbols have each length, and the first codes. -/
namespace Go.Proofs.YtipcdkemokkdfaaGreat
open Go.ChangeShapes Go.WideShapes Go.ChangeAt Go.RowKit
set_option linter.unusedVariables false
set_option maxRecDepth 100000
open KraftMath CanonMath

/-- An array of numbers. -/
def arrI (l : List Int) : Array Value := (intCells l).toArray
theorem arrI_size (l : List Int) : (arrI l).size = l.length := by simp [arrI, intCells_len]
theorem arrI_get (l : List Int) (i : Nat) (h : i < l.length) : (arrI l)[i]? = some (.int .i64 (l.getD i 0)) := by
  unfold arrI; rw [List.getElem?_toArray, intCells_get l i h]
theorem arrI_set (l : List Int) (i : Nat) (x : Int) : (arrI l).setIfInBounds i (.int .i64 x) = arrI (l.set i x) := by
  unfold arrI; rw [List.setIfInBounds_toArray, intCells_set]
theorem arrI_one (l : List Int) : (arrI l).all (·.oneCell') = true := by
  rw [arrI, List.all_toArray, List.all_eq_true]; exact intCells_one l
theorem arrI_zero (n : Nat) : Array.replicate n (.int .i64 0) = arrI (List.replicate n 0) := by
  unfold arrI intCells; simp
theorem set_getD (l : List Int) (i j : Nat) (x : Int) : (l.set i x).getD j 0 = if i = j ∧ i < l.length then x else l.getD j 0 := by
  simp only [List.getD_eq_getElem?_getD, List.getElem?_set]
  by_cases h : i = j
  · subst h
    by_cases h' : i < l.length
    · simp [h']
    · simp [h']; 
  · simp [h]
/-- A block that holds an array. -/
def ArrAt (w : World) (g : Nat) (l : List Int) : Prop := w.heap[g]? = some (.cells (arrI l) 124 (0, 0))
theorem ArrAt.cell {w : World} {g : Nat} {l : List Int} (h : ArrAt w g l) (i : Nat) (hi : i < l.length) : w.cell? ⟨g, i, none⟩ = some (.int .i64 (l.getD i 0)) := (cell_in h i).trans (arrI_get l i hi)
theorem ArrAt.free {w : World} {g : Nat} {l : List Int} (h : ArrAt w g l) (i : Nat) : w.frozen? ⟨g, i, none⟩ = false := free_in h i
theorem ArrAt.set {w : World} {g : Nat} {l : List Int} (h : ArrAt w g l) (i : Nat) (x : Int) : ArrAt (w.setCell ⟨g, i, none⟩ (.int .i64 x)) g (l.set i x) := by
  unfold ArrAt; rw [← arrI_set]; exact block_set h i _
theorem ArrAt.far {w : World} {g b i : Nat} {l : List Int} (h : ArrAt w g l) (hne : g ≠ b) (u : Value) : ArrAt (w.setCell ⟨b, i, none⟩ u) g l := by
  unfold ArrAt; rw [Below.heap_setCell _ _ _ _ hne]; exact h
theorem ArrAt.lt {w : World} {g : Nat} {l : List Int} (h : ArrAt w g l) : g < w.heap.size := block_lt h
theorem ArrAt.old {w : World} {g : Nat} {l : List Int} (h : ArrAt w g l) (o : Obj) : ArrAt (w.alloc o) g l := heap_old h o
theorem ArrAt.kept {w w' : World} {g : Nat} {l : List Int} (h : ArrAt w g l) (hb : Below w.heap.size w w') : ArrAt w' g l := (hb.block g h.lt).trans h
theorem ArrAt.new (w : World) (l : List Int) : ArrAt (w.alloc (.cells (arrI l) 124)) w.heap.size l := heap_alloc_new w _
theorem arr_zero : (∀ w, (zeroValue 124).run Tryz.prog w = .ok (.agg (arrI (List.replicate 17 0))) w) ∧ (Tryz.prog.info? 124).map (·.size) = some 17 := by
  obtain ⟨hz, hi⟩ := zero_of_info (P := Tryz.prog) (t := 124) (v := .agg (Array.replicate 17 (.int .i64 0))) (n := 17) (by kernel_rfl)
  rw [arrI_zero] at hz
  exact ⟨hz, hi⟩
/-- How many are of each length. -/
def cntA (l : List Int) : List Int := (List.range 17).map (fun n => if n = 0 then 0 else (cnt l n : Int))
theorem cntA_len (l : List Int) : (cntA l).length = 17 := by simp [cntA]
theorem cntA_get (l : List Int) (n : Nat) (h : n < 17) : (cntA l).getD n 0 = if n = 0 then 0 else (cnt l n : Int) := by
  simp [cntA, List.getD_eq_getElem?_getD, h]
theorem getD_ext (a b : List Int) (hl : a.length = b.length) (h : ∀ i, i < a.length → a.getD i 0 = b.getD i 0) : a = b := by
  apply List.ext_getElem hl
  intro i h1 h2
  have := h i h1
  simpa [List.getD_eq_getElem?_getD, h1, h2] using this
theorem cntA_nil : cntA [] = List.replicate 17 0 := by decide
theorem cntA_zero (l : List Int) (k : Nat) (h : k < l.length) (h0 : l.getD k 0 = 0) : cntA (l.take (k + 1)) = cntA (l.take k) := by
  refine getD_ext _ _ (by rw [cntA_len, cntA_len]) (fun i hi => ?_)
  rw [cntA_len] at hi
  rw [cntA_get _ i hi, cntA_get _ i hi]
  by_cases hi0 : i = 0
  · rw [if_pos hi0, if_pos hi0]
  · rw [if_neg hi0, if_neg hi0, cnt_take_succ l k i h, if_neg (by omega)]; rfl
theorem cntA_one (l : List Int) (k m : Nat) (h : k < l.length) (h0 : l.getD k 0 = m) (h1 : 1 ≤ m) (h16 : m ≤ 16) : (cntA (l.take k)).set m ((cntA (l.take k)).getD m 0 + 1) = cntA (l.take (k + 1)) := by
  refine getD_ext _ _ (by rw [List.length_set, cntA_len, cntA_len]) (fun i hi => ?_)
  rw [List.length_set, cntA_len] at hi
  rw [set_getD, cntA_len, cntA_get _ i hi, cntA_get _ i hi, cntA_get _ m (by omega), if_neg (by omega : ¬ m = 0), cnt_take_succ l k i h]
  by_cases hm : m = i
  · subst hm; rw [if_pos ⟨rfl, by omega⟩, if_neg (by omega), if_pos h0]; omega
  · rw [if_neg (by omega)]
    by_cases hi0 : i = 0
    · rw [if_pos hi0, if_pos hi0]
    · rw [if_neg hi0, if_neg hi0, if_neg (by omega)]; rfl
theorem cnt_le (l : List Int) (n : Nat) : cnt l n ≤ l.length := by unfold cnt; exact List.length_filter_le _ _
set_option maxHeartbeats 1600000 in
theorem cCounts (a : Option Addr) (c : Nat) (l : List Int) (w : World) (h : IsInts w a l) (hb : ∀ n ∈ l, 0 ≤ n ∧ n ≤ 16) :
    Calls Tryz.prog 64 #[.slice a l.length c] w fun e w' => e = .returned (.agg (arrI (cntA l))) ∧ Below w.heap.size w w' := by
  obtain ⟨hz, hi⟩ := arr_zero
  have HA := Lib.hid (ArrAt.new w (List.replicate 17 0)); have HB := Lib.hid (ArrAt.new (w.alloc (.cells (arrI (List.replicate 17 0)) 124)) (List.replicate 17 0))
  have HZ : Hid ((List.replicate 17 (0 : Int)).length = 17) := by show _ = _; simp
  have HN : Hid (List.replicate 17 (0 : Int) = cntA []) := cntA_nil.symm
  obtain ⟨Z, hZ⟩ : ∃ Z, List.replicate 17 (0 : Int) = Z := ⟨_, rfl⟩
  rw [hZ] at HA HB hz HZ HN
  have hl := h.1
  have hg := fun k (hk : k < l.length) => hb (l.getD k 0) (by simp [List.getD_eq_getElem?_getD, hk])
  have h_ := Lib.hid h
  have hi_ := Lib.hid hi
  have hg_ := Lib.hid hg
  clear h hi hg
  clear hZ hb
  go_enter Tryz.func64, Tryz.ntmps64
  go_wp2
  go_loopw [8] (fun i wr => ∃ k : Nat, k ≤ l.length ∧ i = .int .i64 k ∧ ArrAt wr w.heap.size Z ∧ ArrAt wr (w.heap.size + 1) (cntA (l.take k)) ∧ Below w.heap.size w wr) (fun i _ => l.length - (intOf i).toNat)
  case atStart => exact ⟨0, Nat.zero_le _, rfl, HA.out.old _, by have := HB.out; rw [HN.out] at this ⊢; simpa using this, by go_grown⟩
  case round =>
    obtain ⟨k, hk, rfl, hA, hB, hbel⟩ := hrel
    by_cases hlt : k < l.length
    · obtain ⟨x, rfl, hxb, hx⟩ := h_.out.at k hlt
      have cx := hx k hlt
      have cx : wr.cell? (x.add k) = some (.int .i64 (l.getD k 0)) := by rw [hbel.cell (by rw [add_block]; exact hxb)]; exact cx
      obtain ⟨g0, g1⟩ := hg_.out k hlt
      have Z0 := Lib.hid (cntA_zero l k hlt)
      have Z1 := Lib.hid (fun m => cntA_one l k m hlt)
      obtain ⟨X, hX⟩ : ∃ X, l.getD k 0 = X := ⟨_, rfl⟩
      rw [hX] at cx g0 g1 Z0 Z1
      clear hX hx
      obtain ⟨m, rfl⟩ : ∃ m : Nat, X = m := ⟨X.toNat, by omega⟩
      by_cases h0 : m = 0
      · subst h0
        have HE := Lib.hid (Z0.out rfl)
        have hA_ := Lib.hid hA
        have hB_ := Lib.hid hB
        clear hA hB
        go_wp2
        go_roundw
        case rel => exact ⟨k + 1, by omega, by go_num, hA_.out, by rw [HE.out]; exact hB_.out, hbel⟩
        case measure => simp [intOf]; omega
      · have HE := Lib.hid (Z1.out m rfl (by omega) (by omega))
        have hc := hB.cell m (by rw [cntA_len]; omega)
        have hfr := hB.free m
        have hcv : 0 ≤ (cntA (l.take k)).getD m 0 ∧ (cntA (l.take k)).getD m 0 ≤ 70368744177664 := by
          rw [cntA_get _ m (by omega), if_neg h0]
          have := cnt_le (l.take k) m
          rw [List.length_take] at this
          omega
        have HS := Lib.hid (hB.set m ((cntA (l.take k)).getD m 0 + 1))
        have HAf := Lib.hid (hA.far (b := w.heap.size + 1) (i := m) (by omega) (.int .i64 ((cntA (l.take k)).getD m 0 + 1)))
        rw [HE.out] at HS
        obtain ⟨C, hC⟩ : ∃ C, (cntA (l.take k)).getD m 0 = C := ⟨_, rfl⟩
        rw [hC] at hc hcv HS HAf
        have hA_ := Lib.hid hA
        have hB_ := Lib.hid hB
        clear hA hB
        clear hC HE
        go_wp2
        go_roundw
        case rel => exact ⟨k + 1, by omega, by go_num, HAf.out, HS.out, hbel.setCell (by simp) _⟩
        case measure => simp [intOf]; omega
    · obtain rfl : k = l.length := by omega
      rw [List.take_length] at hB
      have hlen := Lib.hid (cntA_len l)
      have H3 := Lib.hid (setRow_heap _ (w.heap.size) (arrI Z) (arrI (cntA l)) 124 (0, 0) hA)
      have hbS := below_setRow (g := w.heap.size) hbel (by omega) (arrI (cntA l))
      have HSZ : Hid ((Tryz.prog.info? 124).map (·.size) = some (arrI (cntA l)).size) := by show _ = _; rw [hi_.out, arrI_size, hlen.out]
      have HZS : Hid ((arrI Z).size = (arrI (cntA l)).size) := by show _ = _; rw [arrI_size, arrI_size, hlen.out, HZ.out]
      have HONE := Lib.hid (arrI_one (cntA l))
      obtain ⟨T, hT⟩ : ∃ T, arrI (cntA l) = T := ⟨_, rfl⟩
      obtain ⟨ZZ, hZZ⟩ : ∃ ZZ, arrI Z = ZZ := ⟨_, rfl⟩
      unfold ArrAt at hA hB
      rw [hZZ] at hA HZS
      rw [hT] at hB H3 hbS HSZ HZS HONE
      have hAh := Lib.hid hA; have hBh := Lib.hid hB; have hbSh := Lib.hid hbS; have hTh := Lib.hid hT
      clear hA hB hbS hT hZZ
      go_wp2_with (first | (refine wpList_load_row rfl 124 (.tmp 3) rfl (w.heap.size + 1) rfl 124 T (0, 0) _ hBh.out Tryz.underlying124 rfl HSZ.out ?_) | (refine wpList_store_row rfl 124 (.tmp 2) (.tmp 20) rfl (w.heap.size) T rfl rfl 124 ZZ hAh.out HSZ.out HZS.out HONE.out ?_))
      exact bodyPost_ret (v := .agg T) (results_cell_row rfl _ _ (w.heap.size) 124 T (0, 0) _ rfl H3.out Tryz.underlying124 rfl HSZ.out) rfl ⟨by rw [hTh.out], hbSh.out⟩
/-- The first codes of 1 to k bits, behind them the counts of the lengths ahead. -/
def fstA (l : List Int) (k : Nat) : List Int := (List.range 17).map (fun n => if n ≤ k then (first l n : Int) else if n = 1 then 0 else (cnt l (n - 1) : Int))
theorem fstA_len (l : List Int) (k : Nat) : (fstA l k).length = 17 := by simp [fstA]
theorem fstA_get (l : List Int) (k n : Nat) (h : n < 17) : (fstA l k).getD n 0 = if n ≤ k then (first l n : Int) else if n = 1 then 0 else (cnt l (n - 1) : Int) := by
  simp [fstA, List.getD_eq_getElem?_getD, h]
theorem fstA_start (l : List Int) : 0 :: (cntA l).take 16 = fstA l 0 := by
  refine getD_ext _ _ (by rw [fstA_len, List.length_cons, List.length_take, cntA_len]; rfl) (fun i hi => ?_)
  rw [List.length_cons, List.length_take, cntA_len] at hi
  have hi : i < 17 := by omega
  rw [fstA_get _ _ _ hi]
  cases i with
  | zero => simp [first]
  | succ i =>
    have e : (0 :: (cntA l).take 16).getD (i + 1) 0 = (cntA l).getD i 0 := by
      rw [List.getD_cons_succ]
      simp only [List.getD_eq_getElem?_getD]
      rw [List.getElem?_take, if_pos (by omega)]
    rw [e, cntA_get _ _ (by omega), if_neg (by omega : ¬ i + 1 ≤ 0)]
    by_cases h0 : i = 0
    · rw [if_pos h0, if_pos (by omega)]
    · rw [if_neg h0, if_neg (by omega), Nat.add_sub_cancel]
theorem fstA_step (l : List Int) (k : Nat) (hk : k + 1 < 17) : (fstA l k).set (k + 1) (2 * ((fstA l k).getD (k + 1) 0 + (fstA l k).getD k 0)) = fstA l (k + 1) := by
  refine getD_ext _ _ (by rw [List.length_set, fstA_len, fstA_len]) (fun i hi => ?_)
  rw [List.length_set, fstA_len] at hi
  rw [set_getD, fstA_len, fstA_get _ _ _ hi, fstA_get _ (k + 1) _ hi, fstA_get _ _ (k + 1) hk, fstA_get _ _ k (by omega), if_neg (by omega : ¬ k + 1 ≤ k), if_pos (Nat.le_refl k)]
  by_cases h : k + 1 = i
  · subst h
    rw [if_pos ⟨rfl, by omega⟩, if_pos (Nat.le_refl _)]
    simp only [first]
    by_cases h0 : k = 0
    · rw [if_pos (by omega), if_pos h0]; omega
    · rw [if_neg (by omega), if_neg h0, Nat.add_sub_cancel]; omega
  · rw [if_neg (by omega)]
    by_cases h1 : i ≤ k
    · rw [if_pos h1, if_pos (by omega)]
    · rw [if_neg h1, if_neg (by omega), if_neg (by omega)]
theorem first_le (l : List Int) (n : Nat) : first l n + 2 * l.length ≤ 2 ^ (n + 1) * l.length := by
  induction n with
  | zero => simp [first]
  | succ n ih =>
    simp only [first]
    have := cnt_le l n
    have h2 : 2 ^ (n + 1 + 1) * l.length = 2 * (2 ^ (n + 1) * l.length) := by rw [Nat.pow_succ, Nat.mul_comm _ 2, Nat.mul_assoc]
    rw [h2]
    split <;> omega
theorem first_bd (l : List Int) (n : Nat) (hn : n ≤ 16) : first l n ≤ 131072 * l.length := by
  have h1 := first_le l n
  have h2 : 2 ^ (n + 1) ≤ 2 ^ 17 := Nat.pow_le_pow_right (by decide) (by omega)
  have h3 := Nat.mul_le_mul_right l.length h2
  omega
theorem fstA_bd (l : List Int) (k n : Nat) (hn : n < 17) (hl : l.length ≤ 1048576) : 0 ≤ (fstA l k).getD n 0 ∧ (fstA l k).getD n 0 ≤ 137438953472 := by
  rw [fstA_get _ _ _ hn]
  have := first_bd l n (by omega)
  have := cnt_le l (n - 1)
  split
  · omega
  · split <;> omega
theorem src_take (w : World) (M : List Int) (T : TypeId) (A B : Obj) (n : Nat) (g : Nat) (hg : g = w.heap.size) (hn : n ≤ M.length) : ∀ j v, (intCells (M.take n))[j]? = some v → ((((w.alloc (.cells (arrI M) T)).alloc A).alloc B)).cell? ((⟨g, 0, none⟩ : Addr).add j) = some v := by
  subst hg
  have hh : (((w.alloc (.cells (arrI M) T)).alloc A).alloc B).heap[w.heap.size]? = some (.cells (arrI M) T (0, 0)) := heap_old (heap_old (heap_alloc_new w _) _) _
  refine cells_of (fun j hj => ?_)
  rw [Nat.zero_add, cell_in hh, arrI, List.getElem?_toArray]
  rw [intCells_len] at hj
  unfold intCells
  rw [List.getElem?_map, List.getElem?_map, List.getElem?_take, if_pos (by rw [List.length_take] at hj; omega)]
set_option maxHeartbeats 1600000 in
theorem cFirsts (l M : List Int) (hM : cntA l = M) (hll : l.length ≤ 1048576) (w : World) :
    Calls Tryz.prog 63 #[.agg (arrI M)] w fun e w' => e = .returned (.agg (arrI (fstA l 16))) ∧ Below w.heap.size w w' := by
  obtain ⟨hz, hi⟩ := arr_zero
  have HZ : Hid ((List.replicate 17 (0 : Int)).length = 17) := by show _ = _; simp
  have HR : Hid ((intCells (List.replicate 17 0)).take 1 ++ intCells (M.take 16) ++ (intCells (List.replicate 17 0)).drop (1 + (intCells (M.take 16)).length) = intCells (fstA l 0)) := by
    show _ = _
    have hm : M.length = 17 := by rw [← hM, cntA_len]
    rw [List.drop_of_length_le (by rw [intCells_len, intCells_len, List.length_take, List.length_replicate]; omega), ← fstA_start, hM, List.append_nil]
    rfl
  have HMl : Hid (M.length = 17) := by show _ = _; rw [← hM, cntA_len]
  have HNl : Hid ((intCells (M.take 16)).length = Nat.min 16 16) := by show _ = _; rw [intCells_len, List.length_take, HMl.out]; rfl
  have HFt : Hid (1 + (intCells (M.take 16)).length ≤ (intCells (List.replicate 17 0)).length) := by show _ ≤ _; rw [HNl.out, intCells_len, List.length_replicate]; decide
  obtain ⟨Z, hZ⟩ : ∃ Z, List.replicate 17 (0 : Int) = Z := ⟨_, rfl⟩
  rw [hZ] at hz HZ HR HFt
  have HS := Lib.hid (src_take w M 124 (.cells (arrI Z) 124) (.cells (arrI Z) 124) 16 w.heap.size rfl (by rw [HMl.out]; omega))
  have hi_ := Lib.hid hi
  clear hi
  clear hM hZ
  go_enter Tryz.func63, Tryz.ntmps63
  go_wp2
  go_region_law (refine step_copy_last rfl (.tmp 5) (.tmp 6) 65 65 rfl 3 Tryz.underlying65 (by kernel_rfl) _ (w.heap.size + 1 + 1) (by simp) ⟨w.heap.size, 0, none⟩ 1 16 16 16 17 rfl rfl (intCells Z) (intCells (M.take 16)) (intCells (fstA l 0)) 124 HNl.out HS.out HFt.out (intCells_one _) HR.out ?_)
  all_goals
    have hA : ArrAt ((((w.alloc (Obj.cells (arrI M) 124)).alloc (Obj.cells (arrI Z) 124)).alloc (Obj.cells (arrI (fstA l 0)) 124)).drew) (w.heap.size + 1) Z := heap_old (by have := heap_alloc_new (w.alloc (Obj.cells (arrI M) 124)) (Obj.cells (arrI Z) 124); simpa using this) _
    have hB : ArrAt ((((w.alloc (Obj.cells (arrI M) 124)).alloc (Obj.cells (arrI Z) 124)).alloc (Obj.cells (arrI (fstA l 0)) 124)).drew) (w.heap.size + 1 + 1) (fstA l 0) := by
      have e : w.heap.size + 1 + 1 = ((w.alloc (Obj.cells (arrI M) 124)).alloc (Obj.cells (arrI Z) 124)).heap.size := by simp
      rw [e]; exact heap_alloc_new _ _
    have hbel : Below w.heap.size w ((((w.alloc (Obj.cells (arrI M) 124)).alloc (Obj.cells (arrI Z) 124)).alloc (Obj.cells (arrI (fstA l 0)) 124)).drew) := by go_grown
    rw [show (intCells (fstA l 0)).toArray = arrI (fstA l 0) from rfl]
    obtain ⟨wx, hwx⟩ : ∃ wx, ((((w.alloc (Obj.cells (arrI M) 124)).alloc (Obj.cells (arrI Z) 124)).alloc (Obj.cells (arrI (fstA l 0)) 124)).drew) = wx := ⟨_, rfl⟩
    rw [hwx] at hA hB hbel ⊢
    have hA_ := Lib.hid hA
    have hB_ := Lib.hid hB
    clear hA hB
    clear hwx hz HS HFt HNl HR
    go_wp2
    go_loopw [4] (fun i wr => ∃ k : Nat, k ≤ 16 ∧ i = .int .i64 ((k : Int) + 1) ∧ ArrAt wr (w.heap.size + 1) Z ∧ ArrAt wr (w.heap.size + 1 + 1) (fstA l k) ∧ Below w.heap.size w wr) (fun i _ => 17 - (intOf i).toNat)
    case atStart => exact ⟨0, by omega, rfl, hA_.out, hB_.out, hbel⟩
    case round =>
      clear hbel
      obtain ⟨k, hk, rfl, hA, hB, hbel⟩ := hrel
      by_cases hlt : k < 16
      · have hd16 : decide ((k : Int) + 1 ≤ 16) = true := by simp; omega
        have hc0 := hB.cell k (by rw [fstA_len]; omega)
        have hc1 := hB.cell (k + 1) (by rw [fstA_len]; omega)
        have hfr := hB.free (k + 1)
        have b0 := fstA_bd l k k (by omega) hll
        have b1 := fstA_bd l k (k + 1) (by omega) hll
        have HSt := Lib.hid (hB.set (k + 1) (2 * ((fstA l k).getD (k + 1) 0 + (fstA l k).getD k 0)))
        have HAf := Lib.hid (hA.far (b := w.heap.size + 1 + 1) (i := k + 1) (by omega) (.int .i64 (2 * ((fstA l k).getD (k + 1) 0 + (fstA l k).getD k 0))))
        have HE := Lib.hid (fstA_step l k (by omega))
        rw [HE.out] at HSt
        obtain ⟨C0, hC0⟩ : ∃ C0, (fstA l k).getD k 0 = C0 := ⟨_, rfl⟩
        obtain ⟨C1, hC1⟩ : ∃ C1, (fstA l k).getD (k + 1) 0 = C1 := ⟨_, rfl⟩
        rw [hC0] at hc0 b0 HSt HAf
        rw [hC1] at hc1 b1 HSt HAf
        have hA_ := Lib.hid hA
        have hB_ := Lib.hid hB
        clear hA hB
        clear hC0 hC1 HE
        go_wp2
        go_region
        all_goals
          go_wp2
          go_roundw
          (case rel => exact ⟨k + 1, by omega, by go_num, HAf.out, HSt.out, (hbel.setCell (by simp; omega) _).drew⟩)
          (case measure => simp [intOf]; omega)
      · obtain rfl : k = 16 := by omega
        have hd16 : decide (((16 : Nat) : Int) + 1 ≤ 16) = false := by decide
        have hlen := Lib.hid (fstA_len l 16)
        have hz' := Lib.hid hlen.out
        have H3 := Lib.hid (setRow_heap _ (w.heap.size + 1) (arrI Z) (arrI (fstA l 16)) 124 (0, 0) hA)
        have hbS := below_setRow (g := w.heap.size + 1) hbel (by omega) (arrI (fstA l 16))
        have HSZ : Hid ((Tryz.prog.info? 124).map (·.size) = some (arrI (fstA l 16)).size) := by show _ = _; rw [hi_.out, arrI_size, hlen.out]
        have HZS : Hid ((arrI Z).size = (arrI (fstA l 16)).size) := by show _ = _; rw [arrI_size, arrI_size, hlen.out, HZ.out]
        have HONE := Lib.hid (arrI_one (fstA l 16))
        obtain ⟨T, hT⟩ : ∃ T, arrI (fstA l 16) = T := ⟨_, rfl⟩
        obtain ⟨ZZ, hZZ⟩ : ∃ ZZ, arrI Z = ZZ := ⟨_, rfl⟩
        unfold ArrAt at hA hB
        rw [hZZ] at hA HZS
        rw [hT] at hB H3 hbS HSZ HZS HONE
        have hAh := Lib.hid hA; have hBh := Lib.hid hB; have hbSh := Lib.hid hbS; have hTh := Lib.hid hT
        clear hA hB hbS hT hZZ
        go_wp2_with (first | (refine wpList_load_row rfl 124 (.tmp 3) rfl (w.heap.size + 1 + 1) rfl 124 T (0, 0) _ hBh.out Tryz.underlying124 rfl HSZ.out ?_) | (refine wpList_store_row rfl 124 (.tmp 2) (.tmp 23) rfl (w.heap.size + 1) T rfl rfl 124 ZZ hAh.out HSZ.out HZS.out HONE.out ?_))
        exact bodyPost_ret (v := .agg T) (results_cell_row rfl _ _ (w.heap.size + 1) 124 T (0, 0) _ rfl H3.out Tryz.underlying124 rfl HSZ.out) rfl ⟨by rw [hTh.out], hbSh.out⟩
end Go.Proofs.YtipcdkemokkdfaaGreat

/- Layer 8: the contract of the document's Order. -/
namespace Go.Proofs.YtipcdkemokkdfaaGreat
open Go.ChangeShapes Go.WideShapes Go.ChangeAt Go.RowKit
set_option linter.unusedVariables false
set_option maxRecDepth 100000
open KraftMath
end Go.Proofs.YtipcdkemokkdfaaGreat

/- Layer 8: the codes. -/
namespace Go.Proofs.YtipcdkemokkdfaaGreat
open Go.ChangeShapes Go.WideShapes Go.ChangeAt Go.RowKit
set_option linter.unusedVariables false
set_option maxRecDepth 100000
open KraftMath CanonMath

/-- The next code of each length behind k symbols. -/
def nxtA (l : List Int) (k : Nat) : List Int := (List.range 17).map (fun n => if n = 0 then 0 else ((first l n + cnt (l.take k) n : Nat) : Int))
theorem nxtA_len (l : List Int) (k : Nat) : (nxtA l k).length = 17 := by simp [nxtA]
theorem nxtA_get (l : List Int) (k n : Nat) (h : n < 17) : (nxtA l k).getD n 0 = if n = 0 then 0 else ((first l n + cnt (l.take k) n : Nat) : Int) := by
  simp [nxtA, List.getD_eq_getElem?_getD, h]
theorem nxtA_start (l : List Int) : fstA l 16 = nxtA l 0 := by
  refine getD_ext _ _ (by rw [fstA_len, nxtA_len]) (fun i hi => ?_)
  rw [fstA_len] at hi
  rw [fstA_get _ _ _ hi, nxtA_get _ _ _ hi, if_pos (by omega)]
  by_cases h : i = 0
  · subst h; rfl
  · rw [if_neg h]; simp [cnt]
theorem nxtA_zero (l : List Int) (k : Nat) (h : k < l.length) (h0 : l.getD k 0 = 0) : nxtA l (k + 1) = nxtA l k := by
  refine getD_ext _ _ (by rw [nxtA_len, nxtA_len]) (fun i hi => ?_)
  rw [nxtA_len] at hi
  rw [nxtA_get _ _ _ hi, nxtA_get _ _ _ hi, cnt_take_succ l k i h]
  by_cases hi0 : i = 0
  · rw [if_pos hi0, if_pos hi0]
  · rw [if_neg hi0, if_neg hi0, if_neg (by omega)]; rfl
theorem nxtA_one (l : List Int) (k m : Nat) (h : k < l.length) (h0 : l.getD k 0 = m) (h1 : 1 ≤ m) (h16 : m ≤ 16) : (nxtA l k).set m ((nxtA l k).getD m 0 + 1) = nxtA l (k + 1) := by
  refine getD_ext _ _ (by rw [List.length_set, nxtA_len, nxtA_len]) (fun i hi => ?_)
  rw [List.length_set, nxtA_len] at hi
  rw [set_getD, nxtA_len, nxtA_get _ _ i hi, nxtA_get _ _ i hi, nxtA_get _ _ m (by omega), if_neg (by omega : ¬ m = 0), cnt_take_succ l k i h]
  by_cases hm : m = i
  · subst hm; rw [if_pos ⟨rfl, by omega⟩, if_neg (by omega), if_pos h0]; omega
  · rw [if_neg (by omega)]
    by_cases hi0 : i = 0
    · rw [if_pos hi0, if_pos hi0]
    · rw [if_neg hi0, if_neg hi0, if_neg (by omega)]; rfl
/-- The codes of the first k symbols. -/
def codeTo (l : List Int) (k : Nat) : List Int := (List.range l.length).map (fun s => if s < k then (code l s : Int) else 0)
theorem codeTo_len (l : List Int) (k : Nat) : (codeTo l k).length = l.length := by simp [codeTo]
theorem codeTo_get (l : List Int) (k n : Nat) (h : n < l.length) : (codeTo l k).getD n 0 = if n < k then (code l n : Int) else 0 := by
  simp [codeTo, List.getD_eq_getElem?_getD, h]
theorem codeTo_zero (l : List Int) : codeTo l 0 = List.replicate l.length 0 := by
  refine getD_ext _ _ (by rw [codeTo_len, List.length_replicate]) (fun i hi => ?_)
  rw [codeTo_len] at hi
  rw [codeTo_get _ _ _ hi, if_neg (by omega)]
  simp [List.getD_eq_getElem?_getD, hi]
theorem codeTo_skip (l : List Int) (k : Nat) (h : k < l.length) (h0 : l.getD k 0 = 0) : codeTo l (k + 1) = codeTo l k := by
  refine getD_ext _ _ (by rw [codeTo_len, codeTo_len]) (fun i hi => ?_)
  rw [codeTo_len] at hi
  rw [codeTo_get _ _ _ hi, codeTo_get _ _ _ hi]
  by_cases h1 : i < k
  · rw [if_pos h1, if_pos (by omega)]
  · by_cases h2 : i = k
    · subst h2
      rw [if_pos (by omega), if_neg h1]
      have : len l i = 0 := by unfold len; omega
      unfold code; rw [if_pos this]; rfl
    · rw [if_neg h1, if_neg (by omega)]
theorem codeTo_one (l : List Int) (k m : Nat) (h : k < l.length) (h0 : l.getD k 0 = m) (h1 : 1 ≤ m) (h16 : m ≤ 16) : (codeTo l k).set k ((nxtA l k).getD m 0) = codeTo l (k + 1) := by
  refine getD_ext _ _ (by rw [List.length_set, codeTo_len, codeTo_len]) (fun i hi => ?_)
  rw [List.length_set, codeTo_len] at hi
  rw [set_getD, codeTo_len, codeTo_get _ _ _ hi, codeTo_get _ _ _ hi, nxtA_get _ _ _ (by omega), if_neg (by omega : ¬ m = 0)]
  by_cases h2 : k = i
  · subst h2
    rw [if_pos ⟨rfl, h⟩, if_pos (by omega)]
    have : len l k = m := by unfold len; omega
    unfold code; rw [this, if_neg (by omega)]
  · rw [if_neg (by omega)]
    by_cases h1 : i < k
    · rw [if_pos h1, if_pos (by omega)]
    · rw [if_neg h1, if_neg (by omega)]
def codesL (l : List Int) : List Int := if check l 16 = 0 then codeTo l l.length else []
def Tells (v0 : Value → Value) (r : List Int) (w : World) (e : Ending) (w' : World) : Prop := ∃ v', e = .returned (v0 v') ∧ IsL w' v' r ∧ Below w.heap.size w w'
set_option maxHeartbeats 3200000 in
theorem cCodes (a : Option Addr) (c : Nat) (l : List Int) (w : World) (h : IsInts w a l) :
    Calls Tryz.prog 38 #[.slice a l.length c] w (Tells (fun v => .tuple #[v, .int .i64 (check l 16)]) (codesL l) w) := by
  have C := kCheck_any a c 16 l w h
  by_cases hE : check l 16 = 0
  · have hok := (check_ok l 16).1 hE
    have hO : codesL l = codeTo l l.length := by unfold codesL; rw [if_pos hE]
    have hll := hok.2.2.1
    have hg := fun k (hk : k < l.length) => hok.2.2.2.1 (l.getD k 0) (by simp [List.getD_eq_getElem?_getD, hk])
    have C2 := fun n => cCounts a c l (w.drewN n) h hok.2.2.2.1
    have C3 := cFirsts l _ rfl (by omega)
    rw [nxtA_start] at C3
    rw [hE] at C ⊢
    rw [hO]
    obtain ⟨hz, hi⟩ := arr_zero
    have HSZ : Hid ((Tryz.prog.info? 124).map (·.size) = some (arrI (nxtA l 0)).size) := by show _ = _; rw [hi, arrI_size, nxtA_len]
    have HZS : Hid ((arrI (List.replicate 17 0)).size = (arrI (nxtA l 0)).size) := by show _ = _; rw [arrI_size, arrI_size, nxtA_len, List.length_replicate]
    have HONE := Lib.hid (arrI_one (nxtA l 0))
    have HAN := Lib.hid (fun X => ArrAt.new X (nxtA l 0))
    obtain ⟨Z, hZ⟩ : ∃ Z, arrI (List.replicate 17 (0 : Int)) = Z := ⟨_, rfl⟩
    rw [hZ] at hz HZS
    have C_ := Lib.hid C
    have C2_ := Lib.hid C2
    have C3_ := Lib.hid C3
    have h_ := Lib.hid h
    have hg_ := Lib.hid hg
    clear C C2 C3 h hg
    clear hZ hi hok hE hO
    go_enter Tryz.func38, Tryz.ntmps38
    go_wp2_with fail
    refine C_.out.mono ?_; rintro e w0 ⟨rfl, n0, rfl⟩
    go_wp2_with fail
    refine (C2_.out n0).mono ?_; rintro e w1 ⟨rfl, hb1⟩
    have hb1 : Below w.heap.size w w1 := (below_dn (Below.refl _ w) n0).trans hb1
    go_wp2_with fail
    refine (C3_.out w1).mono ?_; rintro e w2 ⟨rfl, hb2⟩
    have hb2 : Below w.heap.size w w2 := hb1.trans (hb2.mono hb1.size)
    clear hb1
    have hnew : Hid ((w2.alloc (.cells Z 124)).heap[w2.heap.size]? = some (.cells Z 124 (0, 0))) := heap_alloc_new w2 _
    have HT := Lib.hid (HAN.out w2)
    obtain ⟨T, hT⟩ : ∃ T, arrI (nxtA l 0) = T := ⟨_, rfl⟩
    rw [hT] at HSZ HZS HONE
    have HTT := Lib.hid hT
    rw [hT]
    clear hT
    have HLl := Lib.hid (show l.length ≤ 1099511627776 by omega)
    go_wp2_with (first | (refine wpList_store_row rfl 124 (.tmp 5) (.tmp 16) rfl w2.heap.size T rfl rfl 124 Z hnew.out HSZ.out HZS.out HONE.out ?_; rw [setRow_last]) | (refine make_int rfl (.tmp 18) (.tmp 18) rfl .i64 .i64 _ _ l.length rfl rfl rfl rfl HLl.out ?_; intro w3 hown hb3 hsz3))
    rw [HTT.out] at HT
    have HA3 := Lib.hid (HT.out.kept hb3)
    have hbs2 := hb2.size
    have hb3 : Below w.heap.size w w3 := (hb2.alloc hb2.size _).trans (hb3.mono (by simp; omega))
    simp only [World.size_alloc] at hown hsz3
    rw [← codeTo_zero] at hown
    have hown_ := Lib.hid hown
    clear hown
    clear hz C_ C2_ C3_ hnew HAN HZS HONE HSZ HT HTT hb2
    go_wp2
    go_loopw [22] (fun i wr => ∃ k : Nat, k ≤ l.length ∧ i = .int .i64 k ∧ ArrAt wr w2.heap.size (nxtA l k) ∧ OwnI (w2.heap.size + 1) wr (.slice (some ⟨w2.heap.size + 1, 0, none⟩) l.length l.length) (codeTo l k) ∧ Below w.heap.size w wr) (fun i _ => l.length - (intOf i).toNat)
    case atStart => exact ⟨0, Nat.zero_le _, rfl, HA3.out, hown_.out, hb3⟩
    case round =>
      clear hb3
      obtain ⟨k, hk, rfl, hA, hown, hbel⟩ := hrel
      by_cases hlt : k < l.length
      · obtain ⟨x, rfl, hxb, hx⟩ := h_.out.at k hlt
        have cx := hx k hlt
        have cx : wr.cell? (x.add k) = some (.int .i64 (l.getD k 0)) := by rw [hbel.cell (by rw [add_block]; exact hxb)]; exact cx
        obtain ⟨g0, g1⟩ := hg_.out k hlt
        have Z0 := Lib.hid (fun e => And.intro (nxtA_zero l k hlt e) (codeTo_skip l k hlt e))
        have Z1 := Lib.hid (fun m a b c => And.intro (nxtA_one l k m hlt a b c) (codeTo_one l k m hlt a b c))
        obtain ⟨X, hX⟩ : ∃ X, l.getD k 0 = X := ⟨_, rfl⟩
        rw [hX] at cx g0 g1 Z0 Z1
        clear hX hx
        obtain ⟨m, rfl⟩ : ∃ m : Nat, X = m := ⟨X.toNat, by omega⟩
        by_cases h0 : m = 0
        · subst h0
          have HE := Lib.hid (Z0.out rfl)
          have hA_ := Lib.hid hA
          have hown_ := Lib.hid hown
          clear hA hown
          go_wp2
          go_roundw
          case rel => exact ⟨k + 1, by omega, by go_num, by rw [HE.out.1]; exact hA_.out, by rw [HE.out.2]; exact hown_.out, hbel⟩
          case measure => simp [intOf]; omega
        · have HE := Lib.hid (Z1.out m rfl (by omega) (by omega))
          have hc := hA.cell m (by rw [nxtA_len]; omega)
          have hfr := hA.free m
          have hfo := hown.free k
          have hcv : 0 ≤ (nxtA l k).getD m 0 ∧ (nxtA l k).getD m 0 ≤ 70368744177664 := by
            rw [nxtA_get _ _ _ (by omega), if_neg h0]
            have := cnt_le (l.take k) m
            have := first_bd l m (by omega)
            rw [List.length_take] at *
            omega
          have hq := hown.int_cell k (by rw [codeTo_len]; exact hlt)
          obtain ⟨C, hC⟩ : ∃ C, (nxtA l k).getD m 0 = C := ⟨_, rfl⟩
          have hc2 := hA.far (b := w2.heap.size + 1) (i := k) (by omega) (.int .i64 C)
          have HS := Lib.hid (hc2.set m (C + 1))
          have HO := Lib.hid (OwnS.grown (hown.set_int k C (by rw [codeTo_len]; exact hlt)) (World.grownBy_setCell ⟨w2.heap.size, m, none⟩ (.int .i64 (C + 1))) (.inr (by simp [Value.ownBlock])))
          rw [hC] at hc hcv HE
          rw [HE.out.1] at HS
          rw [HE.out.2] at HO
          have hA_ := Lib.hid hA
          have hown_ := Lib.hid hown
          have hc2_ := Lib.hid hc2
          clear hA hown hc2
          clear hC HE
          go_wp2
          go_roundw
          case rel => exact ⟨k + 1, by omega, by go_num, HS.out, HO.out, (hbel.setCell (by simp; omega) _).setCell (by simp; omega) _⟩
          case measure => simp [intOf]; omega
      · obtain rfl : k = l.length := by omega
        have HV := Lib.hid (hown.isL (by rw [codeTo_len]; omega))
        clear hown hA
        go_wp2
        go_ret2
        exact ⟨_, rfl, HV.out, hbel⟩
  · have hO : codesL l = [] := by unfold codesL; rw [if_neg hE]
    rw [hO]
    obtain ⟨E, hEE⟩ : ∃ E, check l 16 = E := ⟨_, rfl⟩
    rw [hEE] at C hE ⊢
    have e1 : (E == 0) = false := by rw [beq_eq_false_iff_ne]; exact hE
    have e2 : (E != 0) = true := by rw [bne, e1]; rfl
    have C_ := Lib.hid C
    clear C
    clear hE hEE hO
    go_enter Tryz.func38, Tryz.ntmps38
    go_wp2_with fail
    refine C_.out.mono ?_; rintro e w0 ⟨rfl, n0, rfl⟩
    go_wp2_with fail
    go_ret2
    exact ⟨_, rfl, IsL.nil _, below_dn (Below.refl _ _) n0⟩
end Go.Proofs.YtipcdkemokkdfaaGreat

/- Layer 9: bits as numbers; codes that may be leave no gap. -/
namespace Go.Proofs.YtipcdkemokkdfaaGreat
set_option linter.unusedVariables false
set_option maxRecDepth 100000
open KraftMath CanonMath
theorem rev_ind {α : Type} {P : List α → Prop} (h0 : P []) (hs : ∀ r b, P r → P (r ++ [b])) (r : List α) : P r := by
  have key : ∀ (n : Nat) (r : List α), r.length = n → P r := by
    intro n
    induction n with
    | zero => intro r h; rw [List.length_eq_zero_iff.1 h]; exact h0
    | succ n ih =>
      intro r h
      have hne : r ≠ [] := by rintro rfl; simp at h
      rw [← List.dropLast_concat_getLast hne]
      exact hs _ _ (ih _ (by rw [List.length_dropLast, h]; rfl))
  exact key _ r rfl
def val (r : List Bool) : Nat := r.foldl (fun v b => 2 * v + b.toNat) 0
theorem val_snoc (r : List Bool) (b : Bool) : val (r ++ [b]) = 2 * val r + b.toNat := by simp [val]
theorem val_lt (r : List Bool) : val r < 2 ^ r.length := by
  induction r using rev_ind with
  | h0 => decide
  | hs r b ih =>
    rw [val_snoc, List.length_append, List.length_singleton, Nat.pow_succ]
    cases b <;> simp <;> omega
theorem msb_snoc (c n : Nat) : msb c (n + 1) = msb (c / 2) n ++ [c % 2 == 1] := by
  induction n with
  | zero => simp [msb]
  | succ n ih =>
    rw [msb, ih, msb]
    have : c / 2 / 2 ^ n = c / 2 ^ (n + 1) := by rw [Nat.div_div_eq_div_mul, Nat.pow_succ, Nat.mul_comm]
    rw [this]; rfl
theorem msb_val (r : List Bool) : msb (val r) r.length = r := by
  induction r using rev_ind with
  | h0 => rfl
  | hs r b ih =>
    rw [val_snoc, List.length_append, List.length_singleton, msb_snoc]
    have e1 : (2 * val r + b.toNat) / 2 = val r := by cases b <;> simp <;> omega
    have e2 : ((2 * val r + b.toNat) % 2 == 1) = b := by cases b <;> simp <;> omega
    rw [e1, e2, ih]
theorem val_msb (c n : Nat) (h : c < 2 ^ n) : val (msb c n) = c := by
  induction n generalizing c with
  | zero => obtain rfl : c = 0 := by rw [Nat.pow_zero] at h; omega
            rfl
  | succ n ih =>
    rw [msb_snoc, val_snoc, ih (c / 2) (by rw [Nat.pow_succ] at h; omega)]
    by_cases h2 : c % 2 = 1
    · rw [h2]; show 2 * (c / 2) + 1 = c; omega
    · have h3 : c % 2 = 0 := by omega
      rw [h3]; show 2 * (c / 2) + 0 = c; omega
theorem msb_take (c n : Nat) : ∀ k, k ≤ n → (msb c n).take k = msb (c / 2 ^ (n - k)) k := by
  induction n generalizing c with
  | zero => intro k hk; obtain rfl : k = 0 := by omega
            rfl
  | succ n ih =>
    intro k hk
    by_cases h : k = n + 1
    · subst h; rw [Nat.sub_self, Nat.pow_zero, Nat.div_one, List.take_of_length_le (by rw [msb_len]; exact Nat.le_refl _)]
    · rw [msb_snoc, List.take_append_of_le_length (by rw [msb_len]; omega), ih (c / 2) k (by omega), Nat.div_div_eq_div_mul, show n + 1 - k = (n - k) + 1 by omega, Nat.pow_succ, Nat.mul_comm]
theorem begL_code {row : List Bool} {c n : Nat} (hc : c < 2 ^ n) : begL row (msb c n) = true ↔ n ≤ row.length ∧ val (row.take n) = c := by
  unfold begL
  rw [msb_len, Bool.and_eq_true, decide_eq_true_iff, decide_eq_true_iff]
  constructor
  · rintro ⟨h1, h2⟩
    exact ⟨h1, by rw [h2, val_msb c n hc]⟩
  · rintro ⟨h1, h2⟩
    refine ⟨h1, ?_⟩
    have hl : (row.take n).length = n := by rw [List.length_take]; omega
    have := msb_val (row.take n)
    rw [hl, h2] at this
    exact this.symm
theorem begL_row {row : List Bool} {c n : Nat} : begL (msb c n) row = true ↔ row.length ≤ n ∧ msb (c / 2 ^ (n - row.length)) row.length = row := by
  unfold begL
  rw [msb_len, Bool.and_eq_true, decide_eq_true_iff, decide_eq_true_iff]
  constructor
  · rintro ⟨h1, h2⟩
    rw [msb_take c n _ h1] at h2
    exact ⟨h1, h2⟩
  · rintro ⟨h1, h2⟩
    rw [← msb_take c n _ h1] at h2
    exact ⟨h1, h2⟩
/-- A row begins with the code of s. -/
def Hit (l : List Int) (row : List Bool) (s : Nat) : Prop := s < l.length ∧ len l s ≠ 0 ∧ begL row (msb (code l s) (len l s)) = true
theorem ok_b {l : List Int} (h : check l 16 = 0) : ∀ s, s < l.length → 0 ≤ l.getD s 0 ∧ len l s ≤ 16 := by
  intro s hs
  have := ((check_ok l 16).1 h).2.2.2.1 (l.getD s 0) (by simp [List.getD_eq_getElem?_getD, hs])
  unfold len; omega
theorem ok_k {l : List Int} (h : check l 16 = 0) : ksum 16 l ≤ 65536 := by
  rcases ((check_ok l 16).1 h).2.2.2.2 with ⟨-, h⟩ | ⟨-, h⟩ <;> rw [h] <;> decide
theorem ok_c {l : List Int} (h : check l 16 = 0) {s : Nat} (hs : s < l.length) : code l s < 2 ^ len l s := code_fits l s hs (ok_b h s hs).1 (ok_b h s hs).2 (ok_k h)
theorem hit_iff {l : List Int} (h : check l 16 = 0) {row : List Bool} {s : Nat} : Hit l row s ↔ s < l.length ∧ len l s ≠ 0 ∧ len l s ≤ row.length ∧ val (row.take (len l s)) = code l s := by
  unfold Hit
  constructor
  · rintro ⟨h1, h2, h3⟩
    exact ⟨h1, h2, (begL_code (ok_c h h1)).1 h3⟩
  · rintro ⟨h1, h2, h3⟩
    exact ⟨h1, h2, (begL_code (ok_c h h1)).2 h3⟩
theorem val_take (row : List Bool) (n m : Nat) (h : n ≤ m) (hm : m ≤ row.length) : val (row.take m) / 2 ^ (m - n) = val (row.take n) := by
  have h1 := msb_val (row.take m)
  have hl : (row.take m).length = m := by rw [List.length_take]; omega
  rw [hl] at h1
  have h2 := msb_take (val (row.take m)) m n h
  rw [h1, List.take_take, Nat.min_eq_left h] at h2
  have h3 : val (row.take m) / 2 ^ (m - n) < 2 ^ n := by
    have := val_lt (row.take m)
    rw [hl] at this
    rw [Nat.div_lt_iff_lt_mul (Nat.pow_pos (by decide)), ← Nat.pow_add, show n + (m - n) = m by omega]
    exact this
  rw [h2, val_msb _ _ h3]
theorem hit_one {l : List Int} (h : check l 16 = 0) {row : List Bool} {s t : Nat} (h1 : Hit l row s) (h2 : Hit l row t) : s = t := by
  rw [hit_iff h] at h1 h2
  refine Decidable.byContradiction fun hne => ?_
  have key : ∀ i k, i ≠ k → i < l.length → k < l.length → len l i ≠ 0 → len l i ≤ len l k → len l k ≤ row.length → val (row.take (len l i)) = code l i → val (row.take (len l k)) = code l k → False := by
    intro i k hne hi hk h0 hle hr vi vk
    refine code_free l i k hne hi hk (ok_b h i hi).1 (ok_b h k hk).1 (by omega) hle (ok_b h k hk).2 ?_
    rw [← vi, ← vk]
    exact val_take row _ _ hle hr
  rcases Nat.le_total (len l s) (len l t) with hle | hle
  · exact key s t hne h1.1 h2.1 h1.2.1 hle h2.2.2.1 h1.2.2.2 h2.2.2.2
  · exact key t s (Ne.symm hne) h2.1 h1.1 h2.2.1 hle h1.2.2.1 h2.2.2.2 h1.2.2.2
/-- A point of 16 bits lies within the code of some symbol, if the codes leave no gap. -/
theorem within (l : List Int) (x : Nat) (hx : x < takes l (ord l)) : ∃ s, s ∈ ord l ∧ code l s * 2 ^ (16 - len l s) ≤ x ∧ x < (code l s + 1) * 2 ^ (16 - len l s) := by
  have key : ∀ k, k ≤ (ord l).length → x < takes l ((ord l).take k) → ∃ s, s ∈ ord l ∧ code l s * 2 ^ (16 - len l s) ≤ x ∧ x < (code l s + 1) * 2 ^ (16 - len l s) := by
    intro k
    induction k with
    | zero => intro _ h; simp [takes] at h
    | succ k ih =>
      intro hk h
      by_cases h2 : x < takes l ((ord l).take k)
      · exact ih (by omega) h2
      · have hkl : k < (ord l).length := by omega
        obtain ⟨s, hs⟩ : ∃ s, (ord l)[k]? = some s := ⟨_, List.getElem?_eq_getElem hkl⟩
        have hget : (ord l)[k] = s := (List.getElem?_eq_some_iff.1 hs).2
        obtain ⟨a1, a2, a3, a4, a5⟩ := pos_of_get l k s hs
        have e := takes_pos l s a1 a2 a3
        rw [a5] at e
        rw [List.take_succ_eq_append_getElem hkl, hget, takes_append, e] at h
        have ht : takes l [s] = 2 ^ (16 - len l s) := by simp [takes]
        rw [ht] at h
        rw [e] at h2
        exact ⟨s, List.mem_of_getElem? hs, Nat.le_of_not_lt h2, by rw [Nat.add_mul, Nat.one_mul]; exact h⟩
  have := key (ord l).length (Nat.le_refl _)
  rw [List.take_length] at this
  exact this hx
theorem no_gap {l : List Int} (h : check l 16 = 0) {row : List Bool} (hn : ∀ s, ¬ Hit l row s) (hm : ∃ s, s < l.length ∧ row.length < len l s) : ∃ s, s < l.length ∧ len l s ≠ 0 ∧ begL (msb (code l s) (len l s)) row = true := by
  obtain ⟨s0, hs0, hlt⟩ := hm
  obtain ⟨-, -, -, hb, hks⟩ := (check_ok l 16).1 h
  by_cases h0 : row.length = 0
  · have : row = [] := List.length_eq_zero_iff.1 h0
    subst this
    exact ⟨s0, hs0, by omega, begL_row.2 ⟨Nat.zero_le _, rfl⟩⟩
  · have hord := ord_length l hb
    have htk : takes l (ord l) = ksum 16 l := by unfold ord; rw [takes_upto, ksum_below]
    rcases hks with ⟨hu, hk⟩ | ⟨hu, hk⟩
    · exfalso
      have hm0 : s0 ∈ ord l := (mem_ord l s0).2 ⟨hs0, by omega, (ok_b h s0 hs0).2, by unfold len at hlt; omega⟩
      rw [hu] at hord
      obtain ⟨z, hz⟩ := List.length_eq_one_iff.1 hord
      rw [hz, List.mem_singleton] at hm0
      rw [hz, hk, ← hm0] at htk
      simp only [takes, Nat.add_zero] at htk
      have h16 := (ok_b h s0 hs0).2
      have : 2 ^ (16 - len l s0) ≤ 2 ^ 14 := Nat.pow_le_pow_right (by decide) (by omega)
      omega
    · rw [hk] at htk
      have hr16 : row.length ≤ 16 := by have := (ok_b h s0 hs0).2; omega
      have hv := val_lt row
      have hp : 2 ^ row.length * 2 ^ (16 - row.length) = 2 ^ 16 := by rw [← Nat.pow_add, show row.length + (16 - row.length) = 16 by omega]
      have hq : 0 < 2 ^ (16 - row.length) := Nat.pow_pos (by decide)
      have hx : val row * 2 ^ (16 - row.length) < takes l (ord l) := by
        rw [htk, ← hp]; exact Nat.mul_lt_mul_of_pos_right hv hq
      obtain ⟨s, hs, lo, hi⟩ := within l _ hx
      obtain ⟨m1, m2, m3, m4⟩ := (mem_ord l s).1 hs
      by_cases hle : len l s ≤ row.length
      · refine absurd ?_ (hn s)
        rw [hit_iff h]
        refine ⟨m1, by omega, hle, ?_⟩
        have e1 : 2 ^ (16 - len l s) = 2 ^ (row.length - len l s) * 2 ^ (16 - row.length) := by rw [← Nat.pow_add, show row.length - len l s + (16 - row.length) = 16 - len l s by omega]
        rw [e1, ← Nat.mul_assoc] at lo hi
        have lo2 := Nat.le_of_mul_le_mul_right lo hq
        have hi2 := Nat.lt_of_mul_lt_mul_right hi
        have hv2 := val_take row (len l s) row.length hle (Nat.le_refl _)
        rw [List.take_length] at hv2
        rw [← hv2]
        exact Nat.div_eq_of_lt_le lo2 hi2
      · refine ⟨s, m1, by omega, begL_row.2 ⟨by omega, ?_⟩⟩
        have e1 : 2 ^ (16 - row.length) = 2 ^ (len l s - row.length) * 2 ^ (16 - len l s) := by rw [← Nat.pow_add, show len l s - row.length + (16 - len l s) = 16 - row.length by omega]
        have hq2 : 0 < 2 ^ (16 - len l s) := Nat.pow_pos (by decide)
        rw [e1, ← Nat.mul_assoc] at lo hi
        have lo2 := Nat.le_of_mul_le_mul_right lo hq2
        have hi2 := Nat.lt_of_mul_lt_mul_right hi
        have e2 : code l s = val row * 2 ^ (len l s - row.length) := by omega
        rw [e2, Nat.mul_div_cancel _ (Nat.pow_pos (by decide)), msb_val]
end Go.Proofs.YtipcdkemokkdfaaGreat

/- Layer 8: the order of symbols. -/
namespace Go.Proofs.YtipcdkemokkdfaaGreat
open Go.ChangeShapes Go.WideShapes Go.ChangeAt Go.RowKit
set_option linter.unusedVariables false
set_option maxRecDepth 100000
open KraftMath CanonMath

end Go.Proofs.YtipcdkemokkdfaaGreat
