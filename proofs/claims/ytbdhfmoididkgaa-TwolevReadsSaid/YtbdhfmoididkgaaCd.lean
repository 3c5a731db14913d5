/- Layer 8: how many symbols have each length, and the first codes. -/
import Derived.Test.YtbdhfmoididkgaaKt
import Derived.Test.YtbdhfmoididkgaaCc
import Derived.Test.YtbdhfmoididkgaaCn
import Derived.Deep.WholeRow
import Derived.Deep.LoopGhost
namespace Go.Proofs.Ytbdhfmoididkgaa
open Go.ChangeShapes Go.WideShapes Go.ChangeAt Go.RowKit
set_option linter.unusedVariables false
set_option maxRecDepth 100000
open KraftMath CanonMath

/-- An array of numbers. -/
def arrI (l : List Int) : Array Value := (intCells l).toArray
theorem arrI_size (l : List Int) : (arrI l).size = l.length := by simp [arrI, intCells_len]
theorem arrI_get (l : List Int) (i : Nat) (h : i < l.length) : (arrI l)[i]? = some (.int .i64 (l.getD i 0)) := by
  unfold arrI; rw [List.getElem?_toArray, intCells_get l i h]
theorem arrI_set (l : List Int) (i : Nat) (x : Int) : (arrI l).setIfInBounds i (.int .i64 x) = arrI (l.set i x) := by
  unfold arrI; rw [List.setIfInBounds_toArray, intCells_set]
theorem arrI_one (l : List Int) : (arrI l).all (·.oneCell') = true := by
  rw [arrI, List.all_toArray, List.all_eq_true]; exact intCells_one l
theorem arrI_zero (n : Nat) : Array.replicate n (.int .i64 0) = arrI (List.replicate n 0) := by
  unfold arrI intCells; simp
theorem set_getD (l : List Int) (i j : Nat) (x : Int) : (l.set i x).getD j 0 = if i = j ∧ i < l.length then x else l.getD j 0 := by
  simp only [List.getD_eq_getElem?_getD, List.getElem?_set]
  by_cases h : i = j
  · subst h
    by_cases h' : i < l.length
    · simp [h']
    · simp [h']; 
  · simp [h]
/-- A block that holds an array. -/
def ArrAt (w : World) (g : Nat) (l : List Int) : Prop := w.heap[g]? = some (.cells (arrI l) 74 (0, 0))
theorem ArrAt.cell {w : World} {g : Nat} {l : List Int} (h : ArrAt w g l) (i : Nat) (hi : i < l.length) : w.cell? ⟨g, i, none⟩ = some (.int .i64 (l.getD i 0)) := (cell_in h i).trans (arrI_get l i hi)
theorem ArrAt.free {w : World} {g : Nat} {l : List Int} (h : ArrAt w g l) (i : Nat) : w.frozen? ⟨g, i, none⟩ = false := free_in h i
theorem ArrAt.set {w : World} {g : Nat} {l : List Int} (h : ArrAt w g l) (i : Nat) (x : Int) : ArrAt (w.setCell ⟨g, i, none⟩ (.int .i64 x)) g (l.set i x) := by
  unfold ArrAt; rw [← arrI_set]; exact block_set h i _
theorem ArrAt.far {w : World} {g b i : Nat} {l : List Int} (h : ArrAt w g l) (hne : g ≠ b) (u : Value) : ArrAt (w.setCell ⟨b, i, none⟩ u) g l := by
  unfold ArrAt; rw [Below.heap_setCell _ _ _ _ hne]; exact h
theorem ArrAt.lt {w : World} {g : Nat} {l : List Int} (h : ArrAt w g l) : g < w.heap.size := block_lt h
theorem ArrAt.old {w : World} {g : Nat} {l : List Int} (h : ArrAt w g l) (o : Obj) : ArrAt (w.alloc o) g l := heap_old h o
theorem ArrAt.kept {w w' : World} {g : Nat} {l : List Int} (h : ArrAt w g l) (hb : Below w.heap.size w w') : ArrAt w' g l := (hb.block g h.lt).trans h
theorem ArrAt.new (w : World) (l : List Int) : ArrAt (w.alloc (.cells (arrI l) 74)) w.heap.size l := heap_alloc_new w _
theorem arr_zero : (∀ w, (zeroValue 74).run Try.prog w = .ok (.agg (arrI (List.replicate 17 0))) w) ∧ (Try.prog.info? 74).map (·.size) = some 17 := by
  obtain ⟨hz, hi⟩ := zero_of_info (P := Try.prog) (t := 74) (v := .agg (Array.replicate 17 (.int .i64 0))) (n := 17) (by kernel_rfl)
  rw [arrI_zero] at hz
  exact ⟨hz, hi⟩
/-- How many are of each length. -/
def cntA (l : List Int) : List Int := (List.range 17).map (fun n => if n = 0 then 0 else (cnt l n : Int))
theorem cntA_len (l : List Int) : (cntA l).length = 17 := by simp [cntA]
theorem cntA_get (l : List Int) (n : Nat) (h : n < 17) : (cntA l).getD n 0 = if n = 0 then 0 else (cnt l n : Int) := by
  simp [cntA, List.getD_eq_getElem?_getD, h]
theorem getD_ext (a b : List Int) (hl : a.length = b.length) (h : ∀ i, i < a.length → a.getD i 0 = b.getD i 0) : a = b := by
  apply List.ext_getElem hl
  intro i h1 h2
  have := h i h1
  simpa [List.getD_eq_getElem?_getD, h1, h2] using this
theorem cntA_nil : cntA [] = List.replicate 17 0 := by decide
theorem cntA_zero (l : List Int) (k : Nat) (h : k < l.length) (h0 : l.getD k 0 = 0) : cntA (l.take (k + 1)) = cntA (l.take k) := by
  refine getD_ext _ _ (by rw [cntA_len, cntA_len]) (fun i hi => ?_)
  rw [cntA_len] at hi
  rw [cntA_get _ i hi, cntA_get _ i hi]
  by_cases hi0 : i = 0
  · rw [if_pos hi0, if_pos hi0]
  · rw [if_neg hi0, if_neg hi0, cnt_take_succ l k i h, if_neg (by omega)]; rfl
theorem cntA_one (l : List Int) (k m : Nat) (h : k < l.length) (h0 : l.getD k 0 = m) (h1 : 1 ≤ m) (h16 : m ≤ 16) : (cntA (l.take k)).set m ((cntA (l.take k)).getD m 0 + 1) = cntA (l.take (k + 1)) := by
  refine getD_ext _ _ (by rw [List.length_set, cntA_len, cntA_len]) (fun i hi => ?_)
  rw [List.length_set, cntA_len] at hi
  rw [set_getD, cntA_len, cntA_get _ i hi, cntA_get _ i hi, cntA_get _ m (by omega), if_neg (by omega : ¬ m = 0), cnt_take_succ l k i h]
  by_cases hm : m = i
  · subst hm; rw [if_pos ⟨rfl, by omega⟩, if_neg (by omega), if_pos h0]; omega
  · rw [if_neg (by omega)]
    by_cases hi0 : i = 0
    · rw [if_pos hi0, if_pos hi0]
    · rw [if_neg hi0, if_neg hi0, if_neg (by omega)]; rfl
theorem cnt_le (l : List Int) (n : Nat) : cnt l n ≤ l.length := by unfold cnt; exact List.length_filter_le _ _
set_option maxHeartbeats 1600000 in
theorem cCounts (a : Option Addr) (c : Nat) (l : List Int) (w : World) (h : IsInts w a l) (hb : ∀ n ∈ l, 0 ≤ n ∧ n ≤ 16) :
    Calls Try.prog 32 #[.slice a l.length c] w fun e w' => e = .returned (.agg (arrI (cntA l))) ∧ Below w.heap.size w w' := by
  obtain ⟨hz, hi⟩ := arr_zero
  have HA := Lib.hid (ArrAt.new w (List.replicate 17 0)); have HB := Lib.hid (ArrAt.new (w.alloc (.cells (arrI (List.replicate 17 0)) 74)) (List.replicate 17 0))
  have HZ : Hid ((List.replicate 17 (0 : Int)).length = 17) := by show _ = _; simp
  have HN : Hid (List.replicate 17 (0 : Int) = cntA []) := cntA_nil.symm
  obtain ⟨Z, hZ⟩ : ∃ Z, List.replicate 17 (0 : Int) = Z := ⟨_, rfl⟩
  rw [hZ] at HA HB hz HZ HN
  have hl := h.1
  have hg := fun k (hk : k < l.length) => hb (l.getD k 0) (by simp [List.getD_eq_getElem?_getD, hk])
  have h_ := Lib.hid h
  have hi_ := Lib.hid hi
  have hg_ := Lib.hid hg
  clear h hi hg
  clear hZ hb
  go_enter Try.func32, Try.ntmps32
  go_wp2
  go_loopw [8] (fun i wr => ∃ k : Nat, k ≤ l.length ∧ i = .int .i64 k ∧ ArrAt wr w.heap.size Z ∧ ArrAt wr (w.heap.size + 1) (cntA (l.take k)) ∧ Below w.heap.size w wr) (fun i _ => l.length - (intOf i).toNat)
  case atStart => exact ⟨0, Nat.zero_le _, rfl, HA.out.old _, by have := HB.out; rw [HN.out] at this ⊢; simpa using this, by go_grown⟩
  case round =>
    obtain ⟨k, hk, rfl, hA, hB, hbel⟩ := hrel
    by_cases hlt : k < l.length
    · obtain ⟨x, rfl, hxb, hx⟩ := h_.out.at k hlt
      have cx := hx k hlt
      have cx : wr.cell? (x.add k) = some (.int .i64 (l.getD k 0)) := by rw [hbel.cell (by rw [add_block]; exact hxb)]; exact cx
      obtain ⟨g0, g1⟩ := hg_.out k hlt
      have Z0 := Lib.hid (cntA_zero l k hlt)
      have Z1 := Lib.hid (fun m => cntA_one l k m hlt)
      obtain ⟨X, hX⟩ : ∃ X, l.getD k 0 = X := ⟨_, rfl⟩
      rw [hX] at cx g0 g1 Z0 Z1
      clear hX hx
      obtain ⟨m, rfl⟩ : ∃ m : Nat, X = m := ⟨X.toNat, by omega⟩
      by_cases h0 : m = 0
      · subst h0
        have HE := Lib.hid (Z0.out rfl)
        have hA_ := Lib.hid hA
        have hB_ := Lib.hid hB
        clear hA hB
        go_wp2
        go_roundw
        case rel => exact ⟨k + 1, by omega, by go_num, hA_.out, by rw [HE.out]; exact hB_.out, hbel⟩
        case measure => simp [intOf]; omega
      · have HE := Lib.hid (Z1.out m rfl (by omega) (by omega))
        have hc := hB.cell m (by rw [cntA_len]; omega)
        have hfr := hB.free m
        have hcv : 0 ≤ (cntA (l.take k)).getD m 0 ∧ (cntA (l.take k)).getD m 0 ≤ 70368744177664 := by
          rw [cntA_get _ m (by omega), if_neg h0]
          have := cnt_le (l.take k) m
          rw [List.length_take] at this
          omega
        have HS := Lib.hid (hB.set m ((cntA (l.take k)).getD m 0 + 1))
        have HAf := Lib.hid (hA.far (b := w.heap.size + 1) (i := m) (by omega) (.int .i64 ((cntA (l.take k)).getD m 0 + 1)))
        rw [HE.out] at HS
        obtain ⟨C, hC⟩ : ∃ C, (cntA (l.take k)).getD m 0 = C := ⟨_, rfl⟩
        rw [hC] at hc hcv HS HAf
        have hA_ := Lib.hid hA
        have hB_ := Lib.hid hB
        clear hA hB
        clear hC HE
        go_wp2
        go_roundw
        case rel => exact ⟨k + 1, by omega, by go_num, HAf.out, HS.out, hbel.setCell (by simp) _⟩
        case measure => simp [intOf]; omega
    · obtain rfl : k = l.length := by omega
      rw [List.take_length] at hB
      have hlen := Lib.hid (cntA_len l)
      have H3 := Lib.hid (setRow_heap _ (w.heap.size) (arrI Z) (arrI (cntA l)) 74 (0, 0) hA)
      have hbS := below_setRow (g := w.heap.size) hbel (by omega) (arrI (cntA l))
      have HSZ : Hid ((Try.prog.info? 74).map (·.size) = some (arrI (cntA l)).size) := by show _ = _; rw [hi_.out, arrI_size, hlen.out]
      have HZS : Hid ((arrI Z).size = (arrI (cntA l)).size) := by show _ = _; rw [arrI_size, arrI_size, hlen.out, HZ.out]
      have HONE := Lib.hid (arrI_one (cntA l))
      obtain ⟨T, hT⟩ : ∃ T, arrI (cntA l) = T := ⟨_, rfl⟩
      obtain ⟨ZZ, hZZ⟩ : ∃ ZZ, arrI Z = ZZ := ⟨_, rfl⟩
      unfold ArrAt at hA hB
      rw [hZZ] at hA HZS
      rw [hT] at hB H3 hbS HSZ HZS HONE
      have hAh := Lib.hid hA; have hBh := Lib.hid hB; have hbSh := Lib.hid hbS; have hTh := Lib.hid hT
      clear hA hB hbS hT hZZ
      go_wp2_with (first | (refine wpList_load_row rfl 74 (.tmp 3) rfl (w.heap.size + 1) rfl 74 T (0, 0) _ hBh.out Try.underlying74 rfl HSZ.out ?_) | (refine wpList_store_row rfl 74 (.tmp 2) (.tmp 20) rfl (w.heap.size) T rfl rfl 74 ZZ hAh.out HSZ.out HZS.out HONE.out ?_))
      exact bodyPost_ret (v := .agg T) (results_cell_row rfl _ _ (w.heap.size) 74 T (0, 0) _ rfl H3.out Try.underlying74 rfl HSZ.out) rfl ⟨by rw [hTh.out], hbSh.out⟩
/-- The first codes of 1 to k bits, behind them the counts of the lengths ahead. -/
def fstA (l : List Int) (k : Nat) : List Int := (List.range 17).map (fun n => if n ≤ k then (first l n : Int) else if n = 1 then 0 else (cnt l (n - 1) : Int))
theorem fstA_len (l : List Int) (k : Nat) : (fstA l k).length = 17 := by simp [fstA]
theorem fstA_get (l : List Int) (k n : Nat) (h : n < 17) : (fstA l k).getD n 0 = if n ≤ k then (first l n : Int) else if n = 1 then 0 else (cnt l (n - 1) : Int) := by
  simp [fstA, List.getD_eq_getElem?_getD, h]
theorem fstA_start (l : List Int) : 0 :: (cntA l).take 16 = fstA l 0 := by
  refine getD_ext _ _ (by rw [fstA_len, List.length_cons, List.length_take, cntA_len]; rfl) (fun i hi => ?_)
  rw [List.length_cons, List.length_take, cntA_len] at hi
  have hi : i < 17 := by omega
  rw [fstA_get _ _ _ hi]
  cases i with
  | zero => simp [first]
  | succ i =>
    have e : (0 :: (cntA l).take 16).getD (i + 1) 0 = (cntA l).getD i 0 := by
      rw [List.getD_cons_succ]
      simp only [List.getD_eq_getElem?_getD]
      rw [List.getElem?_take, if_pos (by omega)]
    rw [e, cntA_get _ _ (by omega), if_neg (by omega : ¬ i + 1 ≤ 0)]
    by_cases h0 : i = 0
    · rw [if_pos h0, if_pos (by omega)]
    · rw [if_neg h0, if_neg (by omega), Nat.add_sub_cancel]
theorem fstA_step (l : List Int) (k : Nat) (hk : k + 1 < 17) : (fstA l k).set (k + 1) (2 * ((fstA l k).getD (k + 1) 0 + (fstA l k).getD k 0)) = fstA l (k + 1) := by
  refine getD_ext _ _ (by rw [List.length_set, fstA_len, fstA_len]) (fun i hi => ?_)
  rw [List.length_set, fstA_len] at hi
  rw [set_getD, fstA_len, fstA_get _ _ _ hi, fstA_get _ (k + 1) _ hi, fstA_get _ _ (k + 1) hk, fstA_get _ _ k (by omega), if_neg (by omega : ¬ k + 1 ≤ k), if_pos (Nat.le_refl k)]
  by_cases h : k + 1 = i
  · subst h
    rw [if_pos ⟨rfl, by omega⟩, if_pos (Nat.le_refl _)]
    simp only [first]
    by_cases h0 : k = 0
    · rw [if_pos (by omega), if_pos h0]; omega
    · rw [if_neg (by omega), if_neg h0, Nat.add_sub_cancel]; omega
  · rw [if_neg (by omega)]
    by_cases h1 : i ≤ k
    · rw [if_pos h1, if_pos (by omega)]
    · rw [if_neg h1, if_neg (by omega), if_neg (by omega)]
theorem first_le (l : List Int) (n : Nat) : first l n + 2 * l.length ≤ 2 ^ (n + 1) * l.length := by
  induction n with
  | zero => simp [first]
  | succ n ih =>
    simp only [first]
    have := cnt_le l n
    have h2 : 2 ^ (n + 1 + 1) * l.length = 2 * (2 ^ (n + 1) * l.length) := by rw [Nat.pow_succ, Nat.mul_comm _ 2, Nat.mul_assoc]
    rw [h2]
    split <;> omega
theorem first_bd (l : List Int) (n : Nat) (hn : n ≤ 16) : first l n ≤ 131072 * l.length := by
  have h1 := first_le l n
  have h2 : 2 ^ (n + 1) ≤ 2 ^ 17 := Nat.pow_le_pow_right (by decide) (by omega)
  have h3 := Nat.mul_le_mul_right l.length h2
  omega
theorem fstA_bd (l : List Int) (k n : Nat) (hn : n < 17) (hl : l.length ≤ 1048576) : 0 ≤ (fstA l k).getD n 0 ∧ (fstA l k).getD n 0 ≤ 137438953472 := by
  rw [fstA_get _ _ _ hn]
  have := first_bd l n (by omega)
  have := cnt_le l (n - 1)
  split
  · omega
  · split <;> omega
theorem src_take (w : World) (M : List Int) (T : TypeId) (A B : Obj) (n : Nat) (g : Nat) (hg : g = w.heap.size) (hn : n ≤ M.length) : ∀ j v, (intCells (M.take n))[j]? = some v → ((((w.alloc (.cells (arrI M) T)).alloc A).alloc B)).cell? ((⟨g, 0, none⟩ : Addr).add j) = some v := by
  subst hg
  have hh : (((w.alloc (.cells (arrI M) T)).alloc A).alloc B).heap[w.heap.size]? = some (.cells (arrI M) T (0, 0)) := heap_old (heap_old (heap_alloc_new w _) _) _
  refine cells_of (fun j hj => ?_)
  rw [Nat.zero_add, cell_in hh, arrI, List.getElem?_toArray]
  rw [intCells_len] at hj
  unfold intCells
  rw [List.getElem?_map, List.getElem?_map, List.getElem?_take, if_pos (by rw [List.length_take] at hj; omega)]
set_option maxHeartbeats 1600000 in
theorem cFirsts (l M : List Int) (hM : cntA l = M) (hll : l.length ≤ 1048576) (w : World) :
    Calls Try.prog 31 #[.agg (arrI M)] w fun e w' => e = .returned (.agg (arrI (fstA l 16))) ∧ Below w.heap.size w w' := by
  obtain ⟨hz, hi⟩ := arr_zero
  have HZ : Hid ((List.replicate 17 (0 : Int)).length = 17) := by show _ = _; simp
  have HR : Hid ((intCells (List.replicate 17 0)).take 1 ++ intCells (M.take 16) ++ (intCells (List.replicate 17 0)).drop (1 + (intCells (M.take 16)).length) = intCells (fstA l 0)) := by
    show _ = _
    have hm : M.length = 17 := by rw [← hM, cntA_len]
    rw [List.drop_of_length_le (by rw [intCells_len, intCells_len, List.length_take, List.length_replicate]; omega), ← fstA_start, hM, List.append_nil]
    rfl
  have HMl : Hid (M.length = 17) := by show _ = _; rw [← hM, cntA_len]
  have HNl : Hid ((intCells (M.take 16)).length = Nat.min 16 16) := by show _ = _; rw [intCells_len, List.length_take, HMl.out]; rfl
  have HFt : Hid (1 + (intCells (M.take 16)).length ≤ (intCells (List.replicate 17 0)).length) := by show _ ≤ _; rw [HNl.out, intCells_len, List.length_replicate]; decide
  obtain ⟨Z, hZ⟩ : ∃ Z, List.replicate 17 (0 : Int) = Z := ⟨_, rfl⟩
  rw [hZ] at hz HZ HR HFt
  have HS := Lib.hid (src_take w M 74 (.cells (arrI Z) 74) (.cells (arrI Z) 74) 16 w.heap.size rfl (by rw [HMl.out]; omega))
  have hi_ := Lib.hid hi
  clear hi
  clear hM hZ
  go_enter Try.func31, Try.ntmps31
  go_wp2
  go_region_law (refine step_copy_last rfl (.tmp 5) (.tmp 6) 22 22 rfl 3 Try.underlying22 (by kernel_rfl) _ (w.heap.size + 1 + 1) (by simp) ⟨w.heap.size, 0, none⟩ 1 16 16 16 17 rfl rfl (intCells Z) (intCells (M.take 16)) (intCells (fstA l 0)) 74 HNl.out HS.out HFt.out (intCells_one _) HR.out ?_)
  all_goals
    have hA : ArrAt ((((w.alloc (Obj.cells (arrI M) 74)).alloc (Obj.cells (arrI Z) 74)).alloc (Obj.cells (arrI (fstA l 0)) 74)).drew) (w.heap.size + 1) Z := heap_old (by have := heap_alloc_new (w.alloc (Obj.cells (arrI M) 74)) (Obj.cells (arrI Z) 74); simpa using this) _
    have hB : ArrAt ((((w.alloc (Obj.cells (arrI M) 74)).alloc (Obj.cells (arrI Z) 74)).alloc (Obj.cells (arrI (fstA l 0)) 74)).drew) (w.heap.size + 1 + 1) (fstA l 0) := by
      have e : w.heap.size + 1 + 1 = ((w.alloc (Obj.cells (arrI M) 74)).alloc (Obj.cells (arrI Z) 74)).heap.size := by simp
      rw [e]; exact heap_alloc_new _ _
    have hbel : Below w.heap.size w ((((w.alloc (Obj.cells (arrI M) 74)).alloc (Obj.cells (arrI Z) 74)).alloc (Obj.cells (arrI (fstA l 0)) 74)).drew) := by go_grown
    rw [show (intCells (fstA l 0)).toArray = arrI (fstA l 0) from rfl]
    obtain ⟨wx, hwx⟩ : ∃ wx, ((((w.alloc (Obj.cells (arrI M) 74)).alloc (Obj.cells (arrI Z) 74)).alloc (Obj.cells (arrI (fstA l 0)) 74)).drew) = wx := ⟨_, rfl⟩
    rw [hwx] at hA hB hbel ⊢
    have hA_ := Lib.hid hA
    have hB_ := Lib.hid hB
    clear hA hB
    clear hwx hz HS HFt HNl HR
    go_wp2
    go_loopw [4] (fun i wr => ∃ k : Nat, k ≤ 16 ∧ i = .int .i64 ((k : Int) + 1) ∧ ArrAt wr (w.heap.size + 1) Z ∧ ArrAt wr (w.heap.size + 1 + 1) (fstA l k) ∧ Below w.heap.size w wr) (fun i _ => 17 - (intOf i).toNat)
    case atStart => exact ⟨0, by omega, rfl, hA_.out, hB_.out, hbel⟩
    case round =>
      clear hbel
      obtain ⟨k, hk, rfl, hA, hB, hbel⟩ := hrel
      by_cases hlt : k < 16
      · have hd16 : decide ((k : Int) + 1 ≤ 16) = true := by simp; omega
        have hc0 := hB.cell k (by rw [fstA_len]; omega)
        have hc1 := hB.cell (k + 1) (by rw [fstA_len]; omega)
        have hfr := hB.free (k + 1)
        have b0 := fstA_bd l k k (by omega) hll
        have b1 := fstA_bd l k (k + 1) (by omega) hll
        have HSt := Lib.hid (hB.set (k + 1) (2 * ((fstA l k).getD (k + 1) 0 + (fstA l k).getD k 0)))
        have HAf := Lib.hid (hA.far (b := w.heap.size + 1 + 1) (i := k + 1) (by omega) (.int .i64 (2 * ((fstA l k).getD (k + 1) 0 + (fstA l k).getD k 0))))
        have HE := Lib.hid (fstA_step l k (by omega))
        rw [HE.out] at HSt
        obtain ⟨C0, hC0⟩ : ∃ C0, (fstA l k).getD k 0 = C0 := ⟨_, rfl⟩
        obtain ⟨C1, hC1⟩ : ∃ C1, (fstA l k).getD (k + 1) 0 = C1 := ⟨_, rfl⟩
        rw [hC0] at hc0 b0 HSt HAf
        rw [hC1] at hc1 b1 HSt HAf
        have hA_ := Lib.hid hA
        have hB_ := Lib.hid hB
        clear hA hB
        clear hC0 hC1 HE
        go_wp2
        go_region
        all_goals
          go_wp2
          go_roundw
          (case rel => exact ⟨k + 1, by omega, by go_num, HAf.out, HSt.out, (hbel.setCell (by simp; omega) _).drew⟩)
          (case measure => simp [intOf]; omega)
      · obtain rfl : k = 16 := by omega
        have hd16 : decide (((16 : Nat) : Int) + 1 ≤ 16) = false := by decide
        have hlen := Lib.hid (fstA_len l 16)
        have hz' := Lib.hid hlen.out
        have H3 := Lib.hid (setRow_heap _ (w.heap.size + 1) (arrI Z) (arrI (fstA l 16)) 74 (0, 0) hA)
        have hbS := below_setRow (g := w.heap.size + 1) hbel (by omega) (arrI (fstA l 16))
        have HSZ : Hid ((Try.prog.info? 74).map (·.size) = some (arrI (fstA l 16)).size) := by show _ = _; rw [hi_.out, arrI_size, hlen.out]
        have HZS : Hid ((arrI Z).size = (arrI (fstA l 16)).size) := by show _ = _; rw [arrI_size, arrI_size, hlen.out, HZ.out]
        have HONE := Lib.hid (arrI_one (fstA l 16))
        obtain ⟨T, hT⟩ : ∃ T, arrI (fstA l 16) = T := ⟨_, rfl⟩
        obtain ⟨ZZ, hZZ⟩ : ∃ ZZ, arrI Z = ZZ := ⟨_, rfl⟩
        unfold ArrAt at hA hB
        rw [hZZ] at hA HZS
        rw [hT] at hB H3 hbS HSZ HZS HONE
        have hAh := Lib.hid hA; have hBh := Lib.hid hB; have hbSh := Lib.hid hbS; have hTh := Lib.hid hT
        clear hA hB hbS hT hZZ
        go_wp2_with (first | (refine wpList_load_row rfl 74 (.tmp 3) rfl (w.heap.size + 1 + 1) rfl 74 T (0, 0) _ hBh.out Try.underlying74 rfl HSZ.out ?_) | (refine wpList_store_row rfl 74 (.tmp 2) (.tmp 23) rfl (w.heap.size + 1) T rfl rfl 74 ZZ hAh.out HSZ.out HZS.out HONE.out ?_))
        exact bodyPost_ret (v := .agg T) (results_cell_row rfl _ _ (w.heap.size + 1) 74 T (0, 0) _ rfl H3.out Try.underlying74 rfl HSZ.out) rfl ⟨by rw [hTh.out], hbSh.out⟩
end Go.Proofs.Ytbdhfmoididkgaa
