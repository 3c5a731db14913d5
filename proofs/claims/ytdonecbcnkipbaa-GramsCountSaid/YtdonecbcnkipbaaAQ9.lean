/- Layer 43: grams are sorted by the library. -/
import Derived.Shelf.SlSortCmp.WholeK
import Derived.Shelf.SlSortCmp.NoneTotal
import Derived.Shelf.SlicesG.Cmp
import Derived.Shelf.Small.Bits
import Derived.Shelf.Lay
import Derived.Ground.SlsfProg
import Derived.Ground.SlgcProg
import Derived.Ground.NamesProg
import Derived.Test.YtdonecbcnkipbaaAQ8
namespace Go.Proofs.Ytdonecbcnkipbaa
open Go.ChangeShapes Go.WideShapes Go.ChangeAt Go.RowKit Go.Shelf Go.Lib Go.Sort
set_option linter.unusedVariables false
set_option linter.unusedSimpArgs false
set_option maxRecDepth 100000
open RollMath Gm
shelf_lay_g SlLaysF0.n6 Slsf 6 at Try 16 as sortGram
shelf_lay_g SlLaysC2.n5 Slgc 5 at Try 19 as cmpIntG
def cmpS (a b : Tx) : Int := if Op.bytesLess a b = true then -1 else if Op.bytesLess b a = true then 1 else 0
def orI (x y : Int) : Int := if x = 0 then y else x
def cmpG (x y : Gr) : Int := orI (Lib.compareInt (y.2 : Int) (x.2 : Int)) (cmpS x.1 y.1)
theorem cNaN (a : Tx) (w : World) : Calls Try.prog 31 #[.string (sT a)] w fun e w' => e = .returned (.bool false) ∧ w' = w := by
  have h := sT_eq a a
  rw [decide_eq_true rfl] at h
  go_enter Try.func31, Try.ntmps31
  go_wp2_with fail
  go_ret
  exact ⟨rfl, rfl⟩
theorem gtr_run (a b : Tx) (t : TypeId) (W : World) : (binOp .gtr t (.string (sT a)) (.string (sT b))).run Try.prog W = .ok (.bool (Op.bytesLess b a)) W := by
  have e : binOp .gtr t (.string (sT a)) (.string (sT b)) = pure (.bool !(Op.bytesLess (sT a).toList (sT b).toList || (sT a).toList == (sT b).toList)) := by simp [binOp, Op.stringOp]
  have h : (!(Op.bytesLess a b || decide (a = b))) = Op.bytesLess b a := by
    by_cases hab : a = b
    · subst hab; rw [lt_irr]; simp
    · rw [decide_eq_false hab, Bool.or_false]
      rcases h1 : Op.bytesLess a b with _ | _
      · rw [lt_tri a b hab h1]; rfl
      · rcases h2 : Op.bytesLess b a with _ | _
        · rfl
        · have := lt_tr a b a h1 h2
          rw [lt_irr] at this; simp at this
  rw [e, sT_less, sT_eq, h]
  rfl
set_option maxHeartbeats 1600000 in
theorem cCmpS (a b : Tx) (w : World) : Calls Try.prog 20 #[.string (sT a), .string (sT b)] w fun e w' => e = .returned (.int .i64 (cmpS a b)) ∧ w' = w := by
  have CN := Lib.hid (fun t W => cNaN t W)
  have hl := fun t W => less_run a b t W
  have hg := fun t W => gtr_run a b t W
  unfold cmpS
  obtain ⟨L, hL⟩ : ∃ L, Op.bytesLess a b = L := ⟨_, rfl⟩
  obtain ⟨G, hG⟩ : ∃ G, Op.bytesLess b a = G := ⟨_, rfl⟩
  have h1 := sT_less a b
  have h2 := sT_less b a
  rw [hL] at hl h1 ⊢
  rw [hG] at hg h2 ⊢
  go_enter Try.func20, Try.ntmps20
  go_wp2_with fail
  refine (CN.out _ _).mono ?_; rintro e w1 ⟨rfl, rfl⟩
  go_wp2_with fail
  refine (CN.out _ _).mono ?_; rintro e w2 ⟨rfl, rfl⟩
  have h3 := sT_eq a b
  clear hl CN
  cases L with
  | true =>
    clear h2 h3
    go_wp2_with fail
    go_ret
    exact ⟨rfl, rfl⟩
  | false =>
    cases G with
    | true =>
      rw [decide_eq_false (fun e => by subst e; rw [lt_irr] at hG; simp at hG)] at h3
      clear h2
      go_wp2_with fail
      go_ret
      exact ⟨rfl, rfl⟩
    | false =>
      have hab : a = b := Classical.byContradiction fun e => by have := lt_tri a b e hL; rw [hG] at this; simp at this
      rw [decide_eq_true hab] at h3
      clear h2 hab
      go_wp2_with fail
      go_ret
      exact ⟨rfl, rfl⟩
theorem cOr (w : World) (g c : Nat) (x y : Int) (h : w.heap[g]? = some (.cells #[.int .i64 x, .int .i64 y] 3 (0, 0))) : Calls Try.prog 18 #[.slice (some ⟨g, 0, none⟩) 2 c] w fun e w' => e = .returned (.int .i64 (orI x y)) ∧ w' = w := by
  have c0 := cell_lit h 0 _ rfl
  have c1 := cell_lit h 1 _ rfl
  have hgl := block_lt h
  obtain ⟨R, hR⟩ : ∃ R, orI x y = R := ⟨_, rfl⟩
  rw [hR]
  have HR := Lib.hid hR
  clear h hR
  go_enter Try.func18, Try.ntmps18
  go_wp2_with fail
  go_loopw [8] (fun i wr => ∃ k : Nat, k ≤ 2 ∧ i = .int .i64 k ∧ wr = w ∧ Hid ((1 ≤ k → x = 0) ∧ (2 ≤ k → y = 0))) (fun i _ => 2 - (intOf i).toNat)
  case atStart => exact ⟨0, by omega, rfl, rfl, Lib.hid ⟨by omega, by omega⟩⟩
  case round =>
    obtain ⟨k, hk, rfl, rfl, hz⟩ := hrel
    by_cases h0 : k = 0
    · subst h0
      by_cases hx : x = 0
      · have hxi : (x == 0) = true := by rw [beq_iff_eq]; exact hx
        have hxn : (x != 0) = false := by rw [bne, hxi]; rfl
        have HZ := Lib.hid (show (1 ≤ 1 → x = 0) ∧ (2 ≤ 1 → y = 0) from ⟨fun _ => hx, by omega⟩)
        clear hx
        go_wp2_with fail
        go_roundw
        case rel => exact ⟨1, by omega, by simp, by simp, HZ⟩
        case measure => simp [intOf]
      · have hxi : (x == 0) = false := by rw [beq_eq_false_iff_ne]; exact hx
        have hxn : (x != 0) = true := by rw [bne, hxi]; rfl
        have HX := Lib.hid (show x = R by rw [← HR.out]; unfold orI; rw [if_neg hx])
        clear hx
        go_wp2_with fail
        go_ret
        rw [HX.out]
        exact ⟨rfl, rfl⟩
    · by_cases h1 : k = 1
      · subst h1
        have hx0 : x = 0 := hz.out.1 (by omega)
        by_cases hy : y = 0
        · have hyi : (y == 0) = true := by rw [beq_iff_eq]; exact hy
          have hyn : (y != 0) = false := by rw [bne, hyi]; rfl
          have HZ := Lib.hid (show (1 ≤ 2 → x = 0) ∧ (2 ≤ 2 → y = 0) from ⟨fun _ => hx0, fun _ => hy⟩)
          clear hy hx0 h0
          go_wp2_with fail
          go_roundw
          case rel => exact ⟨2, by omega, by simp, by simp, HZ⟩
          case measure => simp [intOf]
        · have hyi : (y == 0) = false := by rw [beq_eq_false_iff_ne]; exact hy
          have hyn : (y != 0) = true := by rw [bne, hyi]; rfl
          have HX := Lib.hid (show y = R by rw [← HR.out]; unfold orI; rw [if_pos hx0])
          clear hy hx0 h0
          go_wp2_with fail
          go_ret
          rw [HX.out]
          exact ⟨rfl, rfl⟩
      · obtain rfl : k = 2 := by omega
        have HX := Lib.hid (show 0 = R by rw [← HR.out]; unfold orI; rw [if_pos (hz.out.1 (by omega)), hz.out.2 (by omega)])
        clear h0 h1
        go_wp2_with fail
        go_ret
        rw [HX.out]
        exact ⟨rfl, rfl⟩
theorem ahd_tri2 {a b : Gr} (h : a ≠ b) (h1 : ahd a b = false) : ahd b a = true := by
  by_cases e : a.1 = b.1
  · have : a.2 ≠ b.2 := fun e2 => h (Prod.ext e e2)
    unfold ahd at *
    simp only [Bool.or_eq_false_iff, decide_eq_false_iff_not, Bool.or_eq_true, decide_eq_true_eq] at h1 ⊢
    left; omega
  · exact ahd_tri e h1
theorem ltG (x y : Gr) : ltOf cmpG x y = ahd x y := by
  unfold ltOf cmpG orI Lib.compareInt cmpS ahd
  by_cases h1 : y.2 < x.2
  · have h2 : (y.2 : Int) < (x.2 : Int) := by omega
    simp [h1, h2]
  · have h2 : ¬ (y.2 : Int) < (x.2 : Int) := by omega
    by_cases h3 : x.2 < y.2
    · have h4 : (x.2 : Int) < (y.2 : Int) := by omega
      have h5 : ¬ x.2 = y.2 := by omega
      simp [h1, h2, h4, h5]
    · have h5 : x.2 = y.2 := by omega
      rcases h6 : Op.bytesLess x.1 y.1 with _ | _
      · rcases h7 : Op.bytesLess y.1 x.1 with _ | _ <;> simp [h5, h6, h7]
      · simp [h5, h6]
theorem swoG : SWO (ltOf cmpG) where
  irrefl x := by rw [ltG]; exact ahd_irr x
  trans x y z h1 h2 := by rw [ltG] at *; exact ahd_tr h1 h2
  ntrans x y z h1 h2 := by
    rw [ltG] at *
    rcases h : ahd x z with _ | _
    · rfl
    · by_cases e : x = y
      · subst e; rw [h] at h2; exact h2
      · have := ahd_tr (ahd_tri2 e h1) h
        rw [this] at h2; exact h2
set_option maxHeartbeats 3200000 in
theorem closureG (x y : Gr) (W : World) : Calls Try.prog 17 #[.agg #[.string (sT x.1), .int .i64 (x.2 : Int)], .agg #[.string (sT y.1), .int .i64 (y.2 : Int)]] W fun e w' => e = .returned (.int .i64 (cmpG x y)) ∧ ∃ q os', w' = grow (W.drewN q) os' := by
  have CI := Lib.hid (fun W' => show Calls Try.prog 19 #[.int .i64 (y.2 : Int), .int .i64 (x.2 : Int)] W' _ from AnyG.cmp_Compare_int cmpIntG (y.2 : Int) (x.2 : Int) W')
  have CS := Lib.hid (fun W' => cCmpS x.1 y.1 W')
  unfold cmpG
  obtain ⟨A, hA⟩ : ∃ A, Lib.compareInt (y.2 : Int) (x.2 : Int) = A := ⟨_, rfl⟩
  obtain ⟨B, hB⟩ : ∃ B, cmpS x.1 y.1 = B := ⟨_, rfl⟩
  rw [hA] at CI ⊢
  rw [hB] at CS ⊢
  have CO := Lib.hid (fun (V : World) (g c : Nat) (hg : g = V.heap.size) => cOr (V.alloc (.cells #[.int .i64 A, .int .i64 B] 3)) g c A B (by subst hg; exact heap_alloc_new V _))
  clear hA hB
  obtain ⟨bx, hbx⟩ : ∃ bx : Obj, .cells #[.string (sT x.1), .int .i64 (x.2 : Int)] 35 = bx := ⟨_, rfl⟩
  obtain ⟨bY, hby⟩ : ∃ bY : Obj, .cells #[.string (sT y.1), .int .i64 (y.2 : Int)] 35 = bY := ⟨_, rfl⟩
  obtain ⟨W2, hW2⟩ : ∃ W2, (W.alloc bx).alloc bY = W2 := ⟨_, rfl⟩
  have h0 : W2.heap[W.heap.size]? = some bx := by rw [← hW2]; exact heap_two_first W bx bY
  have h1 : W2.heap[W.heap.size + 1]? = some bY := by rw [← hW2]; exact heap_two_last W bx bY
  have hsz : W2.heap.size = W.heap.size + 1 + 1 := by rw [← hW2]; simp
  rw [← hbx] at h0
  rw [← hby] at h1
  have hS : (W2.cell? ⟨W.heap.size, 0, none⟩ = some (.string (sT x.1)) ∧ W2.cell? ⟨W.heap.size, 1, none⟩ = some (.int .i64 (x.2 : Int))) ∧ W2.cell? ⟨W.heap.size + 1, 0, none⟩ = some (.string (sT y.1)) ∧ W2.cell? ⟨W.heap.size + 1, 1, none⟩ = some (.int .i64 (y.2 : Int)) :=
    ⟨⟨cell_lit h0 0 _ rfl, cell_lit h0 1 _ rfl⟩, cell_lit h1 0 _ rfl, cell_lit h1 1 _ rfl⟩
  have HS0 := Lib.hid hS
  have HS1 := Lib.hid (fun o : Obj => show ((W2.drew.alloc o).cell? ⟨W.heap.size, 0, none⟩ = some (.string (sT x.1)) ∧ (W2.drew.alloc o).cell? ⟨W.heap.size, 1, none⟩ = some (.int .i64 (x.2 : Int))) ∧ (W2.drew.alloc o).cell? ⟨W.heap.size + 1, 0, none⟩ = some (.string (sT y.1)) ∧ (W2.drew.alloc o).cell? ⟨W.heap.size + 1, 1, none⟩ = some (.int .i64 (y.2 : Int)) from by
    have hb : Below W2.heap.size W2 (W2.drew.alloc o) := ((Below.refl _ W2).drew).alloc (Nat.le_refl _) o
    have c0 := hb.cell (p := ⟨W.heap.size, 0, none⟩) (by show W.heap.size < _; omega)
    have c1 := hb.cell (p := ⟨W.heap.size, 1, none⟩) (by show W.heap.size < _; omega)
    have c2 := hb.cell (p := ⟨W.heap.size + 1, 0, none⟩) (by show W.heap.size + 1 < _; omega)
    have c3 := hb.cell (p := ⟨W.heap.size + 1, 1, none⟩) (by show W.heap.size + 1 < _; omega)
    exact ⟨⟨c0.trans hS.1.1, c1.trans hS.1.2⟩, c2.trans hS.2.1, c3.trans hS.2.2⟩)
  have HG := Lib.hid (show ∀ o : Obj, ∃ q os', W2.drew.alloc o = grow (W.drewN q) os' from fun o => ⟨1, _, by rw [← hW2]; show ((W.drew.alloc bx).alloc bY).alloc o = _; rw [alloc_eq_grow, alloc_eq_grow, alloc_eq_grow, grow_grow, grow_grow]; rfl⟩)
  have HW2 := Lib.hid hW2
  clear hS h0 h1
  go_enter Try.func17, Try.ntmps17
  go_wp2_with fail
  clear hbx hby hW2
  clear hsz
  go_region_held3 (fun V => (V.cell? ⟨W.heap.size, 0, none⟩ = some (.string (sT x.1)) ∧ V.cell? ⟨W.heap.size, 1, none⟩ = some (.int .i64 (x.2 : Int))) ∧ V.cell? ⟨W.heap.size + 1, 0, none⟩ = some (.string (sT y.1)) ∧ V.cell? ⟨W.heap.size + 1, 1, none⟩ = some (.int .i64 (y.2 : Int))) (first | exact HS0.out | exact HS1.out _) (first | (go_at_call 19; (with_reducible refine (CI.out _).mono ?_; rintro e wx ⟨rfl, rfl⟩)) | (go_at_call 20; (with_reducible refine (CS.out _).mono ?_; rintro e wx ⟨rfl, rfl⟩)) | (go_at_call 18; (refine (CO.out W2.drew _ _ rfl).mono ?_; rintro e wx ⟨rfl, rfl⟩)) | fail)
  simp only [Exit.then]
  rename_i hK hHeld
  refine hK _ _ ?_
  clear hK hHeld HS0 HS1 CI CS CO HW2
  go_wp2_with fail
  go_ret
  exact ⟨rfl, HG.out _⟩
theorem sortG (blk off cap : Nat) (d : Array Gr) (w : World) (hH : HoldsK fG 2 w blk off d) (hblk : blk < w.heap.size) (hsz : d.size < 4611686018427387904) :
    Calls Try.prog 16 #[.slice (some ⟨blk, off, none⟩) d.size cap, .func (Fn.func 17) #[] #[]] w fun e w' => e = .returned (.tuple #[]) ∧ ∃ d' n os, PermIn 0 d.size d d' ∧ SortedIn (ltOf cmpG) 0 d.size d' ∧ w' = sortWorldK fG 2 w blk off n d' os := by
  have eg : ∀ args w, (callFunc 17 args).run Try.prog w = .ok (.enter 17 args) w := enters_of Try.func17 (by kernel_rfl) rfl
  exact AnyQ.slices_SortFunc sortGram 2 (fun w => by kernel_rfl) (fun w => by kernel_rfl) fG (fun _ => rfl) (fun x v hv => by simp [fG] at hv; rcases hv with rfl | rfl <;> rfl) cmpG swoG 17 #[] blk off cap d w eg (fun _ _ _ _ x y => closureG x y _) hH hblk hsz
theorem flatK_list (l : List Gr) : flatK fG 2 l.toArray = (l.flatMap fG).toArray := by
  apply Array.ext
  · rw [size_flatK]; simp [flat_len flatG]
  · intro t h1 h2
    rw [size_flatK] at h1
    have h3 : t / 2 < l.length := by simp at h1; omega
    have := flat_get flatG l (t / 2) (t % 2) l[t / 2] (by simp [h3]) (Nat.mod_lt _ (by decide))
    rw [Nat.mul_comm, Nat.div_add_mod] at this
    have e1 := get_flatK fG 2 l.toArray t h1
    have hs : t < (flatK fG 2 l.toArray).size := by rw [size_flatK]; exact h1
    rw [getElem!_pos _ t hs] at e1
    rw [e1]
    have e2 : l.toArray[t / 2]! = l[t / 2] := by rw [getElem!_pos _ _ (by simpa using h3)]; simp
    rw [e2]
    have h4 : t % 2 < (fG l[t / 2]).length := by show t % 2 < 2; exact Nat.mod_lt _ (by decide)
    rw [getElem!_pos (fG l[t / 2]) (t % 2) h4]
    have e3 : (fG l[t / 2])[t % 2]? = some ((fG l[t / 2])[t % 2]) := List.getElem?_eq_getElem h4
    rw [e3] at this
    have h5 : t < (l.flatMap fG).length := by simpa using h2
    rw [List.getElem?_eq_getElem h5] at this
    injection this with this
    simp [this]
theorem own_blockG {B g n cap : Nat} {w : World} {l : List Gr} (h : OwnG B w (.slice (some ⟨g, 0, none⟩) n cap) l) : n = l.length ∧ B ≤ g ∧ ∃ cur, w.heap[g]? = some (.cells cur 35 (0, 0)) ∧ l.length ≤ cap ∧ cap ≤ maxLen ∧ cur.size = cap * 2 ∧ cur.toList.take (l.length * 2) = l.flatMap fG := by
  rcases h.2 with ⟨h0, -⟩ | ⟨g', cap', cur, h0, hb, hg, h1, h2, h3, h4⟩
  · simp at h0
  · simp only [Value.slice.injEq, Option.some.injEq, Addr.mk.injEq, and_true, true_and] at h0
    obtain ⟨rfl, rfl, rfl⟩ := h0
    exact ⟨rfl, hb, cur, hg, h1, h2, h3, h4⟩
theorem own_holds {B g n cap : Nat} {w : World} {l : List Gr} (h : OwnG B w (.slice (some ⟨g, 0, none⟩) n cap) l) : HoldsK fG 2 w g 0 l.toArray := by
  obtain ⟨-, -, cur, hg, h1, h2, h3, h4⟩ := own_blockG h
  unfold HoldsK
  rw [flatK_list]
  intro j hj
  have hj' : j < (l.flatMap fG).length := by simpa using hj
  refine ⟨?_, by rw [Nat.zero_add]; exact free_in hg j⟩
  rw [Nat.zero_add, cell_in hg]
  have hl := flat_len flatG l
  have e : (cur.toList.take (l.length * 2))[j]? = (l.flatMap fG)[j]? := by rw [h4]
  rw [List.getElem?_take_of_lt (by omega), Array.getElem?_toList] at e
  rw [e, List.getElem?_eq_getElem hj']
  rw [getElem!_pos _ j (by simpa using hj')]
  simp
theorem own_put {B g n cap N : Nat} {w : World} {l l' : List Gr} (os : Array Obj) (h : OwnG B w (.slice (some ⟨g, 0, none⟩) n cap) l) (hl : l'.length = l.length) : OwnG B (grow (putRowK fG 2 (Sort.ahead w N) g 0 l'.toArray) os) (.slice (some ⟨g, 0, none⟩) n cap) l' ∧ w.grownBy (grow (putRowK fG 2 (Sort.ahead w N) g 0 l'.toArray) os) (some g) := by
  obtain ⟨rfl, hB, cur, hg, h1, h2, h3, h4⟩ := own_blockG h
  have hlt : g < w.heap.size := block_lt hg
  have hheap : (grow (putRowK fG 2 (Sort.ahead w N) g 0 l'.toArray) os).heap[g]? = some (.cells (putCells id 0 (flatK fG 2 l'.toArray) cur) 35 (0, 0)) := by
    unfold putRowK
    rw [heap_grow_old _ _ (by simpa using hlt)]
    simp [putRow, mapBlock, Sort.ahead, Array.getElem?_modify, hg, onCells]
  refine ⟨⟨by rw [flat_len flatG], .inr ⟨g, cap, _, by rw [hl], hB, hheap, by omega, h2, by simp [putCells, h3], ?_⟩⟩, ?_⟩
  · rw [flatK_list]
    apply List.ext_getElem?
    intro j
    have hll := flat_len flatG l'
    by_cases hj : j < l'.length * 2
    · rw [List.getElem?_take_of_lt hj, Array.getElem?_toList]
      have hjc : j < cur.size := by omega
      simp [putCells, hjc, hll, hj]
      try (rw [getElem!_pos _ j (by simpa [hll] using hj)]; rw [List.getElem?_eq_getElem (by omega)]; simp)
    · rw [List.getElem?_take_eq_none (by omega), List.getElem?_eq_none (by omega)]
  · refine ⟨rfl, rfl, rfl, by unfold putRowK; simp, fun k hk hne => ?_⟩
    unfold putRowK
    rw [heap_grow_old _ _ (by simpa using hk)]
    have : g ≠ k := fun e => hne (by rw [e])
    simp [putRow, mapBlock, Sort.ahead, Array.getElem?_modify, this]
/-- slices.SortFunc on a row of the call's own. -/
theorem cSortG (B : Nat) (v : Value) (l : List Gr) (w : World) (h : OwnG B w v l) (hB : B ≤ w.heap.size) (hl : l.length < 4611686018427387904) :
    Calls Try.prog 16 #[v, .func (Fn.func 17) #[] #[]] w fun e w' => e = .returned (.tuple #[]) ∧ ∃ l', OwnG B w' v l' ∧ l'.Perm l ∧ l'.Pairwise (fun x y => ahd y x = false) ∧ Below B w w' := by
  by_cases h0 : l.length = 0
  · obtain rfl : l = [] := List.length_eq_zero_iff.1 h0
    obtain ⟨p, c, rfl⟩ := h.slice
    exact (AnyF.slices_SortFunc_none sortGram p c _ w).mono fun e w' ⟨he, hw⟩ => ⟨he, [], by rw [hw]; exact h, List.Perm.refl _, List.Pairwise.nil, by rw [hw]; exact Below.refl _ _⟩
  · obtain ⟨g, c, rfl, hBg, hg⟩ := h.form (by omega) (by decide)
    have hH := own_holds h
    have hs : l.length = l.toArray.size := by simp
    have := sortG g 0 c l.toArray w hH hg (by simpa using hl)
    rw [← hs] at this
    refine this.mono fun e w' ⟨he, d', n, os, hp, hso, hw⟩ => ?_
    obtain ⟨hsz, -, hperm⟩ := hp
    have e1 : d'.extract 0 l.length = d' := by
      have : l.length = d'.size := by rw [hsz]; simp
      rw [this]; exact Array.extract_size
    rw [e1, show l.toArray.extract 0 l.length = l.toArray by rw [hs]; exact Array.extract_size] at hperm
    have hl2 : d'.toList.length = l.length := by rw [Array.length_toList, hsz]; simp
    have hown := own_put (N := n) os h hl2
    have hw2 : w' = grow (putRowK fG 2 (Sort.ahead w n) g 0 d'.toList.toArray) os := by rw [hw]; rfl
    refine ⟨he, d'.toList, by rw [hw2]; exact hown.1, by simpa using hperm, ?_, by rw [hw2]; exact below_of_grown hown.2 hB (fun k hk => by injection hk with hk; omega)⟩
    rw [List.pairwise_iff_getElem]
    intro i j hi hj hij
    have hi' : i < d'.size := by simpa using hi
    have hj' : j < d'.size := by simpa using hj
    have h3 := hso i j (Nat.zero_le _) hij (by rw [hs, ← hsz]; exact hj')
    rw [getElem!_pos d' j hj', getElem!_pos d' i hi', ltG] at h3
    simp only [Array.getElem_toList]
    exact h3
end Go.Proofs.Ytdonecbcnkipbaa
