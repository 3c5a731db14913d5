/- Layer 22: blocks of numbers; of, shared. -/
import Derived.Test.YtgoplbngfinbdaaM8
namespace Go.Proofs.Ytgoplbngfinbdaa
open Go.ChangeShapes Go.WideShapes Go.ChangeAt Go.RowKit
set_option linter.unusedVariables false
set_option linter.unusedSimpArgs false
set_option maxRecDepth 100000
/-- A block of int32 numbers (of structs of such, too). -/
def lkA (l : List Int) : Array Value := (l.map (Value.int .i32)).toArray
def IsBk (w : World) (g : Nat) (T : TypeId) (l : List Int) : Prop := w.heap[g]? = some (.cells (lkA l) T (0, 0))
theorem IsBk.cell {w : World} {g : Nat} {T : TypeId} {l : List Int} (h : IsBk w g T l) (j : Nat) (hj : j < l.length) : w.cell? ⟨g, j, none⟩ = some (.int .i32 (l.getD j 0)) := by
  refine cell_lit h j _ ?_
  unfold lkA
  simp [List.getD_eq_getElem?_getD, hj]
theorem IsBk.free {w : World} {g : Nat} {T : TypeId} {l : List Int} (h : IsBk w g T l) (j : Nat) : w.frozen? ⟨g, j, none⟩ = false := free_in h j
theorem IsBk.set {w : World} {g : Nat} {T : TypeId} {l : List Int} (h : IsBk w g T l) (j : Nat) (x : Int) : IsBk (w.setCell ⟨g, j, none⟩ (.int .i32 x)) g T (l.set j x) := by
  have := block_set h j (.int .i32 x)
  unfold IsBk
  rw [this]
  congr 2
  unfold lkA
  simp [List.map_set]
theorem IsBk.away {w : World} {g k j : Nat} {T : TypeId} {l : List Int} {u : Value} (h : IsBk w g T l) (hk : g ≠ k) : IsBk (w.setCell ⟨k, j, none⟩ u) g T l :=
  (Below.heap_setCell _ _ _ _ hk).trans h
theorem IsBk.kept {w w' : World} {g : Nat} {T : TypeId} {l : List Int} (h : IsBk w g T l) (hb : Below w.heap.size w w') : IsBk w' g T l := (hb.block _ (block_lt h)).trans h
/-- A finder, where it stands and what hangs where. -/
structure IsG (N : Nat) (w : World) (g g1 g2 : Nat) (L : List UInt8) (W D at_ m : Nat) (tp lk : List Int) : Prop where
  box : w.heap[g]? = some (.cells #[.string (sM L), .int .i64 W, .int .i64 D, .int .i64 at_, .slice (some ⟨g1, 0, none⟩) N N, .slice (some ⟨g2, 0, none⟩) m m] 111 (0, 0))
  ta : IsBk w g1 21 tp
  tb : IsBk w g2 142 lk
  tl : tp.length = N
  ll : lk.length = 2 * m
  n1 : g1 ≠ g
  n2 : g2 ≠ g
  n12 : g1 ≠ g2
theorem IsG.kept {N : Nat} {w w' : World} {g g1 g2 : Nat} {L : List UInt8} {W D at_ m : Nat} {tp lk : List Int} (h : IsG N w g g1 g2 L W D at_ m tp lk) (hb : Below w.heap.size w w') : IsG N w' g g1 g2 L W D at_ m tp lk :=
  ⟨(hb.block _ (block_lt h.box)).trans h.box, h.ta.kept hb, h.tb.kept hb, h.tl, h.ll, h.n1, h.n2, h.n12⟩
theorem IsG.drewN {N : Nat} {w : World} {g g1 g2 : Nat} {L : List UInt8} {W D at_ m : Nat} {tp lk : List Int} (h : IsG N w g g1 g2 L W D at_ m tp lk) (n : Nat) : IsG N (w.drewN n) g g1 g2 L W D at_ m tp lk := ⟨h.box, h.ta, h.tb, h.tl, h.ll, h.n1, h.n2, h.n12⟩
theorem IsG.step_at {N : Nat} {w : World} {g g1 g2 : Nat} {L : List UInt8} {W D at_ m : Nat} {tp lk : List Int} (h : IsG N w g g1 g2 L W D at_ m tp lk) (x : Nat) : IsG N (w.setCell ⟨g, 3, none⟩ (.int .i64 x)) g g1 g2 L W D x m tp lk :=
  ⟨by have := block_set h.box 3 (.int .i64 x); simpa using this, h.ta.away h.n1, h.tb.away h.n2, h.tl, h.ll, h.n1, h.n2, h.n12⟩
theorem IsG.step_tp {N : Nat} {w : World} {g g1 g2 : Nat} {L : List UInt8} {W D at_ m : Nat} {tp lk : List Int} (h : IsG N w g g1 g2 L W D at_ m tp lk) (j : Nat) (x : Int) : IsG N (w.setCell ⟨g1, j, none⟩ (.int .i32 x)) g g1 g2 L W D at_ m (tp.set j x) lk :=
  ⟨(Below.heap_setCell _ _ _ _ (fun e => h.n1 e.symm)).trans h.box, h.ta.set j x, h.tb.away h.n12.symm, by rw [List.length_set]; exact h.tl, h.ll, h.n1, h.n2, h.n12⟩
theorem IsG.step_lk {N : Nat} {w : World} {g g1 g2 : Nat} {L : List UInt8} {W D at_ m : Nat} {tp lk : List Int} (h : IsG N w g g1 g2 L W D at_ m tp lk) (j : Nat) (x : Int) : IsG N (w.setCell ⟨g2, j, none⟩ (.int .i32 x)) g g1 g2 L W D at_ m tp (lk.set j x) :=
  ⟨(Below.heap_setCell _ _ _ _ (fun e => h.n2 e.symm)).trans h.box, h.ta.away h.n12, h.tb.set j x, h.tl, by rw [List.length_set]; exact h.ll, h.n1, h.n2, h.n12⟩
theorem slM (L : List UInt8) (a b : Int) (i n : Nat) (ha : a = i) (hb : b = ((i + n : Nat) : Int)) (hn : i + n ≤ L.length) (W : World) : (Instr.slice 9 (.string (sM L)) (some (.int .i64 a)) (some (.int .i64 b)) none).run Try.prog W = .ok (.string (sM ((L.drop i).take n))) W := by
  subst ha hb
  have hsz := sM_size L
  have := run_slice_string (P := Try.prog) W 9 (sM L) .i64 .i64 (i : Int) ((i + n : Nat) : Int) Try.underlying9 (by omega) (by omega) (by omega)
  rw [this]
  congr 2
  rw [Int.toNat_natCast, Int.toNat_natCast]
  apply ByteArray.ext
  simp [sM, ByteArray.data_extract, List.extract_toArray, List.extract_eq_take_drop]
set_option maxHeartbeats 1600000 in
theorem cOf (N : Nat) (w : World) (g g1 g2 : Nat) (L : List UInt8) (W D at_ m : Nat) (tp lk : List Int) (h : IsG N w g g1 g2 L W D at_ m tp lk) (p : Nat) (hp : p ≤ 1000000) (hm : 0 < m) (hm2 : m ≤ 1000000) (q : Nat) (hq : p % m = q) :
    Calls Try.prog 87 #[.pointer (some ⟨g, 0, none⟩), .int .i64 p] w fun e w' => e = .returned (.pointer (some ⟨g2, q * 2, none⟩)) ∧ ∃ k, w' = w.drewN k := by
  have hqm : q < m := by rw [← hq]; exact Nat.mod_lt _ hm
  have c5 := cell_lit h.box 5 _ rfl
  have hlt := block_lt h.box
  have hr1 : (p : Int).tmod m = (q : Int) := by rw [Int.tmod_eq_emod_of_nonneg (by omega)]; omega
  have hr2 : (p : Int) % m = (q : Int) := by omega
  have hmi : ¬ (m : Int) = 0 := by omega
  have hmi2 : ¬ m = 0 := by omega
  clear h hq
  go_enter Try.func87, Try.ntmps87
  go_wp2_with fail
  go_quiet (fail)
  go_wp2_with fail
  go_ret
  exact ⟨rfl, _, rfl⟩
set_option maxHeartbeats 1600000 in
theorem cBShared (L : List UInt8) (k i n most : Nat) (w : World) (hL : L.length ≤ 1000000) (hk : k ≤ i) (hi : i + most ≤ L.length) (C : Nat) (hC : min (comAt L k i) most = C) (hn : n ≤ C) :
    Calls Try.prog 88 #[.string (sM L), .int .i64 k, .int .i64 i, .int .i64 n, .int .i64 most] w fun e w' => e = .returned (.int .i64 C) ∧ Below w.heap.size w w' := by
  have HI := Lib.hid (fun n (h : n ≤ C) => (show n < C ↔ n < most ∧ L.getD (k + n) 0 = L.getD (i + n) 0 by
    have h1 := comAt_iff L k i n (by omega)
    constructor
    · intro h2
      have h3 := h1.1 (by omega)
      exact ⟨by omega, h3.2.2⟩
    · rintro ⟨h2, h3⟩
      have h4 := h1.2 ⟨by omega, by omega, h3⟩
      omega))
  have hCm : C ≤ most := by omega
  have hS : (sM L).size = L.length := sM_size L
  have s1 := slM L k ((k : Int) + most) k most rfl (by omega) (by omega)
  have s2 := slM L i ((i : Int) + most) i most rfl (by omega) (by omega)
  obtain ⟨A, hA⟩ : ∃ A, (L.drop k).take most = A := ⟨_, rfl⟩
  obtain ⟨B, hB⟩ : ∃ B, (L.drop i).take most = B := ⟨_, rfl⟩
  rw [hA] at s1
  rw [hB] at s2
  have hAl : A.length = most := by rw [← hA, List.length_take, List.length_drop]; omega
  have hBl : B.length = most := by rw [← hB, List.length_take, List.length_drop]; omega
  have hAg : ∀ j, j < most → A.getD j 0 = L.getD (k + j) 0 := fun j hj => by rw [← hA]; simp [List.getD_eq_getElem?_getD, List.getElem?_take, List.getElem?_drop, hj]
  have hBg : ∀ j, j < most → B.getD j 0 = L.getD (i + j) 0 := fun j hj => by rw [← hB]; simp [List.getD_eq_getElem?_getD, List.getElem?_take, List.getElem?_drop, hj]
  have hAs : (sM A).size = most := by rw [sM_size, hAl]
  have hBs : (sM B).size = most := by rw [sM_size, hBl]
  have HAG := Lib.hid hAg
  have HBG := Lib.hid hBg
  have HAl := Lib.hid hAl
  have HBl := Lib.hid hBl
  have b1 : (k : Int) + most ≤ L.length := by omega
  have b2 : (i : Int) + most ≤ L.length := by omega
  clear hC hA hB hAl hBl hAg hBg
  go_enter Try.func88, Try.ntmps88
  go_wp2_with fail
  go_quiet (fail)
  go_wp2_with fail
  clear s1 s2 b1 b2
  go_loopw [3] (fun u wr => ∃ n : Nat, n ≤ C ∧ u = .int .i64 n ∧ Below w.heap.size w wr) (fun u _ => C - (intOf u).toNat)
  case atStart => exact ⟨n, hn, rfl, below_dn (Below.refl _ _) _⟩
  case round =>
    clear hn
    obtain ⟨n, hn, rfl, hb⟩ := hrel
    have hiff := HI.out n hn
    have HB := Lib.hid hb
    clear hb
    by_cases hm : n < most
    · have d1 : decide ((n : Int) < most) = true := decide_eq_true (by omega)
      have d0 : decide (n < most) = true := decide_eq_true hm
      have x1 := ixM A (n : Int) n rfl (by rw [HAl.out]; exact hm)
      have x2 := ixM B (n : Int) n rfl (by rw [HBl.out]; exact hm)
      rw [HAG.out n hm] at x1
      rw [HBG.out n hm] at x2
      by_cases h3 : L.getD (k + n) 0 = L.getD (i + n) 0
      · have hlt := hiff.2 ⟨hm, h3⟩
        rw [h3] at x1
        obtain ⟨Z, hZ⟩ : ∃ Z, L.getD (i + n) 0 = Z := ⟨_, rfl⟩
        rw [hZ] at x1 x2
        clear h3 hZ hiff
        go_wp2_with fail
        go_quiet (fail)
        go_wp2_with fail
        go_roundw
        case rel => exact ⟨n + 1, by omega, by go_num, below_dn HB.out _⟩
        case measure => simp [intOf]; omega
      · have hNe : ¬ n < C := fun h => h3 (hiff.1 h).2
        obtain rfl : n = C := by omega
        obtain ⟨Z, hZ⟩ : ∃ Z, L.getD (i + n) 0 = Z := ⟨_, rfl⟩
        obtain ⟨Y, hY⟩ : ∃ Y, L.getD (k + n) 0 = Y := ⟨_, rfl⟩
        rw [hZ, hY] at h3
        rw [hZ] at x2
        rw [hY] at x1
        have hYZ : ((Y.toNat : Int) == (Z.toNat : Int)) = false := by rw [beq_eq_false_iff_ne]; intro h; exact h3 (UInt8.toNat_inj.1 (by omega))
        clear h3 hZ hY hiff hNe
        go_wp2_with fail
        go_quiet (fail)
        go_wp2_with fail
        go_ret
        exact ⟨rfl, below_dn HB.out _⟩
    · have d1 : decide ((n : Int) < most) = false := decide_eq_false (by omega)
      have d0 : decide (n < most) = false := decide_eq_false hm
      obtain rfl : n = C := by omega
      clear hiff
      go_wp2_with fail
      go_quiet (fail)
      go_wp2_with fail
      go_ret
      exact ⟨rfl, below_dn HB.out _⟩
end Go.Proofs.Ytgoplbngfinbdaa
