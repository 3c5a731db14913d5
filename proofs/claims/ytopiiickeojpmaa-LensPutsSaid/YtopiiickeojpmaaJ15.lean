import Derived.Test.YtopiiickeojpmaaAP1
import Derived.Test.YtopiiickeojpmaaJ12
import Derived.Deep.WholeRow
import Derived.Great.BuildSlice
import Derived.Test.YtopiiickeojpmaaJ01
import Derived.Test.YtopiiickeojpmaaBm
import Derived.IntWalk
import Derived.Lib.UnsafeStr
import Derived.Deep.LoopGhost
/- Layer 13: the order of places; whether lengths may be written. -/
namespace Go.Proofs.Ytopiiickeojpmaa
open Go.ChangeShapes Go.WideShapes Go.ChangeAt Go.RowKit
set_option linter.unusedVariables false
set_option linter.unusedSimpArgs false
set_option maxRecDepth 100000
open Bits hiding packF pack_length
open RunsMath KraftMath CanonMath
theorem arr19 : ∃ Z : Array Value, Z.size = 19 ∧ (∀ w, (zeroValue 83).run Try.prog w = .ok (.agg Z) w) ∧ (Try.prog.info? 83).map (·.size) = some 19 := by
  obtain ⟨hz, hi⟩ := zero_of_info (P := Try.prog) (t := 83) (v := .agg (Array.replicate 19 (.int .i64 0))) (n := 19) (by kernel_rfl)
  exact ⟨_, by simp, hz, hi⟩
theorem places_len : placesI.length = 19 := by decide
theorem placesA_size : (arrI placesI).size = 19 := by rw [arrI_size, places_len]
def PlAt (w : World) (g : Nat) : Prop := w.heap[g]? = some (.cells (arrI placesI) 83 (0, 0))
theorem PlAt.cell {w : World} {g : Nat} (h : PlAt w g) (i : Nat) (hi : i < 19) : w.cell? ⟨g, i, none⟩ = some (.int .i64 ((placesN.getD i 0 : Nat) : Int)) := by
  refine (cell_in h i).trans ?_
  rw [arrI_get placesI i (by rw [places_len]; exact hi)]
  congr 2
  unfold placesI
  have hl : i < placesN.length := hi
  rw [List.getD_eq_getElem?_getD, List.getElem?_map, List.getElem?_eq_getElem hl, List.getD_eq_getElem?_getD, List.getElem?_eq_getElem hl]; rfl
theorem PlAt.kept {w w' : World} {g : Nat} (h : PlAt w g) (hb : Below w.heap.size w w') : PlAt w' g := (hb.block g (block_lt h)).trans h
set_option maxHeartbeats 3200000 in
theorem cOrder13 (w : World) : Calls Try.prog 46 #[] w fun e w' => e = .returned (.agg (arrI placesI)) ∧ Below w.heap.size w w' := by
  obtain ⟨Z, hZs, hz, hi⟩ := arr19
  have HSZ : Hid ((Try.prog.info? 83).map (·.size) = some (arrI placesI).size) := by show _ = _; rw [hi, placesA_size]
  have HZS : Hid (Z.size = (arrI placesI).size) := by show _ = _; rw [hZs, placesA_size]
  have HONE := Lib.hid (arrI_one placesI)
  have HPL : Hid ((placesI.map (Value.int .i64)).toArray = arrI placesI) := rfl
  obtain ⟨T, hTT⟩ : ∃ T, arrI placesI = T := ⟨_, rfl⟩
  rw [hTT] at HSZ HZS HONE HPL ⊢
  clear hi hZs hTT
  go_enter Try.func46, Try.ntmps46
  go_wp2_with (first
    | (refine wpList_buildFlatArr rfl 83 3 19 _ rfl .i64 placesI Try.underlying83 (by kernel_rfl) (by kernel_rfl) rfl ?_; rw [HPL.out]; refine wpList_store_row rfl 83 (.tmp 0) (.tmp 1) rfl w.heap.size T rfl rfl 83 Z (heap_alloc_new w _) HSZ.out HZS.out HONE.out ?_; rw [setRow_last])
    | fail)
  exact bodyPost_ret (v := .agg T) (results_cell_row rfl _ _ w.heap.size 83 T (0, 0) _ rfl (heap_alloc_new w _) Try.underlying83 rfl HSZ.out) rfl ⟨rfl, (Below.refl _ _).alloc (Nat.le_refl _) _⟩
set_option maxHeartbeats 3200000 in
theorem dPlaces (w : World) : Calls Try.prog 32 #[] w fun e w' => ∃ v, e = .returned v ∧ IsL w' v placesI ∧ Below w.heap.size w w' := by
  go_enter Try.func32, Try.ntmps32
  go_wp2_with fail
  go_ret
  exact ⟨_, rfl, ⟨_, _, rfl, IsInts.new w placesI 3 (0, 0) (by decide)⟩, (Below.refl _ _).alloc (Nat.le_refl _) _⟩
/-- Why lengths may not be written. -/
def chkL (l : List Int) : Int := if l.length = 0 ∨ 1024 < l.length then 5 else if okB l = false then 2 else 0
theorem okB_bad {l : List Int} {k : Nat} (hk : k < l.length) (h : l.getD k 0 < 0 ∨ 15 < l.getD k 0) : okB l = false := by
  rw [← Bool.not_eq_true]
  intro h2
  have := (okB_iff l).1 h2 l[k] (List.getElem_mem hk)
  rw [List.getD_eq_getElem?_getD, List.getElem?_eq_getElem hk] at h
  simp at h
  omega
theorem okB_good {l : List Int} (h : ∀ k, k < l.length → 0 ≤ l.getD k 0 ∧ l.getD k 0 ≤ 15) : okB l = true := by
  refine (okB_iff l).2 fun x hx => ?_
  obtain ⟨k, hk, e⟩ := List.mem_iff_getElem.1 hx
  have := h k hk
  rw [List.getD_eq_getElem?_getD, List.getElem?_eq_getElem hk, e] at this
  exact this
set_option maxHeartbeats 1600000 in
theorem cCheckLim (a : Option Addr) (c n : Nat) (h : n = 0 ∨ 1024 < n) (hn : n ≤ 70368744177664) (w : World) : Calls Try.prog 23 #[.slice a n c] w fun e w' => e = .returned (.int .i64 5) ∧ w' = w := by
  rcases h with rfl | h
  · go_enter Try.func23, Try.ntmps23
    go_wp2_with fail
    go_ret
    exact ⟨rfl, rfl⟩
  · have h0 : ((n : Int) == 0) = false := by rw [beq_eq_false_iff_ne]; omega
    have hn1 : (1024 : Int) < (n : Int) := by omega
    go_enter Try.func23, Try.ntmps23
    go_wp2_with fail
    go_ret
    exact ⟨rfl, rfl⟩
set_option maxHeartbeats 1600000 in
theorem cCheckIn (a : Option Addr) (c : Nat) (l : List Int) (h0 : l.length ≠ 0) (hl : l.length ≤ 1024) (w : World) (h : IsInts w a l) (E : Int) (hE : chkL l = E) : Calls Try.prog 23 #[.slice a l.length c] w fun e w' => e = .returned (.int .i64 E) ∧ w' = w := by
  have HE : Hid (okB l = false → E = 2) := by show _; intro hb; rw [← hE]; unfold chkL; rw [if_neg (by omega), if_pos hb]
  have HG : Hid (okB l = true → E = 0) := by show _; intro hb; rw [← hE]; unfold chkL; rw [if_neg (by omega), if_neg (by rw [hb]; decide)]
  have HI := Lib.hid h
  have hz : ((l.length : Int) == 0) = false := by rw [beq_eq_false_iff_ne]; omega
  have hm : ¬ (1024 : Int) < (l.length : Int) := by omega
  clear h hE
  go_enter Try.func23, Try.ntmps23
  go_wp2_with fail
  go_loopw [15] (fun iv wr => ∃ k : Nat, k ≤ l.length ∧ iv = .int .i64 k ∧ Hid (∀ j, j < k → 0 ≤ l.getD j 0 ∧ l.getD j 0 ≤ 15) ∧ wr = w) (fun iv _ => l.length - (intOf iv).toNat)
  case atStart => exact ⟨0, Nat.zero_le _, rfl, Lib.hid (fun j hj => by omega), rfl⟩
  case round =>
    obtain ⟨k, hk, rfl, hall, rfl⟩ := hrel
    by_cases hlt : k < l.length
    · obtain ⟨x, rfl, -, cx⟩ := HI.out.at k hlt
      have cs := cx k hlt
      have hki : (k : Int) < (l.length : Int) := by omega
      have hbad := okB_bad (l := l) hlt
      have hnext : (0 ≤ l.getD k 0 ∧ l.getD k 0 ≤ 15) → ∀ j, j < k + 1 → 0 ≤ l.getD j 0 ∧ l.getD j 0 ≤ 15 := fun h j hj => by
        by_cases e : j = k
        · subst e; exact h
        · exact hall.out j (by omega)
      obtain ⟨X, hX⟩ : ∃ X, l.getD k 0 = X := ⟨_, rfl⟩
      rw [hX] at cs hbad hnext
      have HBAD := Lib.hid hbad
      have HNE := Lib.hid hnext
      clear cx hX hbad hnext
      by_cases h0 : X < 0
      · obtain rfl := HE.out (HBAD.out (.inl h0))
        have d0 : decide (X < 0) = true := decide_eq_true h0
        go_wp2_with fail
        go_ret
        exact ⟨rfl, rfl⟩
      · by_cases h1 : 15 < X
        · obtain rfl := HE.out (HBAD.out (.inr h1))
          have d0 : decide (X < 0) = false := decide_eq_false h0
          have d1 : decide (15 < X) = true := decide_eq_true h1
          go_wp2_with fail
          go_ret
          exact ⟨rfl, rfl⟩
        · have d0 : decide (X < 0) = false := decide_eq_false h0
          have d1 : decide (15 < X) = false := decide_eq_false h1
          have HN2 := Lib.hid (HNE.out ⟨by omega, by omega⟩)
          go_wp2_with fail
          go_roundw
          case rel => exact ⟨k + 1, by omega, by go_num, HN2, by first | rfl | trivial⟩
          case measure => simp [intOf]; omega
    · obtain rfl : k = l.length := by omega
      obtain rfl := HG.out (okB_good hall.out)
      have hki : ¬ (l.length : Int) < (l.length : Int) := by omega
      go_wp2_with fail
      go_ret
      exact ⟨rfl, rfl⟩
end Go.Proofs.Ytopiiickeojpmaa

/- Contracts of layer 1's writer. -/
namespace Go.Proofs.Ytopiiickeojpmaa
open Go.ChangeShapes Go.WideShapes Go.ChangeAt Go.RowKit
set_option linter.unusedVariables false
set_option maxRecDepth 100000
open Bits

theorem infoB : (Try.prog.info? 5).map (fun i => (i.zero, i.size, i.bytes)) = some (some (.int .u8 0), 1, 1) := by kernel_rfl
def byteCells (l : List UInt8) : List Value := l.map fun b => .int .u8 (b.toNat : Int)

set_option maxHeartbeats 800000 in
theorem wTake (w : World) (g bx B : Nat) (v r n : Value) (bs : List UInt8) (b : UInt8) (hbx : w.heap[bx]? = some (.cells #[.pointer (some ⟨g, 0, none⟩)] 24 (0, 0))) (hg : w.heap[g]? = some (.cells #[v, r, n] 49 (0, 0)))
    (hown : w.ownsRow B 5 1 v bs.length (byteCells bs)) (hB : B ≤ w.heap.size) (hl : bs.length ≤ 1000000000000) :
    Calls Try.prog 22 #[.int .u8 b.toNat, .pointer (some ⟨bx, 0, none⟩)] w fun e w' => e = .returned (.tuple #[]) ∧
      ∃ k cap, w'.heap[g]? = some (.cells #[.slice (some ⟨k, 0, none⟩) (bs.length + 1) cap, r, n] 49 (0, 0)) ∧ w'.ownsRow B 5 1 (.slice (some ⟨k, 0, none⟩) (bs.length + 1) cap) (bs ++ [b]).length (byteCells (bs ++ [b])) ∧ (v.ownBlock = some k ∨ w.heap.size ≤ k) ∧
        Keeps (fun k => k = g ∨ v.ownBlock = some k) w w' := by
  obtain ⟨i0, hi, hz0, hz1, hz2⟩ := info_parts infoB
  have cb := cell_in hbx 0
  have c0 := cell_in hg 0
  have f0 := free_in hg 0
  simp at cb c0
  have hgl := block_lt hg
  have hbl := block_lt hbx
  have HG := Lib.hid hg
  have HX := Lib.hid hbx
  clear hg hbx
  go_enter Try.func22, Try.ntmps22
  go_region_law (refine step_append_at rfl (.tmp 7) (.tmp 9) 47 rfl B 5 i0 (.int .u8 0) 1 Try.underlying47 hi hz0 hz1 hz2 rfl v bs.length (byteCells bs) rfl (hown.alloc _) ⟨w.heap.size, 0, none⟩ 1 1 [.int .u8 b.toNat] rfl rfl (cell_new1 w _ _ _ rfl) (by simp [Value.oneCell']) (by unfold maxLen; omega) (by omega) (by simp; omega) (by decide) ?_; intro k cap w1 hown1 hgrow hk; have HG1 := Lib.hid (grown_heap hgrow (heap_old HG.out _) (own_ne hown HG.out (by decide))); have cx := cell_lit (grown_heap hgrow (heap_old HX.out _) (own_ne hown HX.out (by decide))) 0 (.pointer (some ⟨g, 0, none⟩)) rfl; have cg := cell_lit HG1.out 0 v rfl; have fg := free_in HG1.out 0)
  all_goals
   have hk' : v.ownBlock = some k ∨ w.heap.size ≤ k := by
     rcases hk with hk | hk
     · exact .inl hk
     · right; simp at hk; omega
   have hne : (Value.slice (some ⟨k, 0, none⟩) (bs.length + 1) cap).ownBlock ≠ some g := own_ne hown1 HG1.out (by decide)
   go_end0
   refine ⟨rfl, k, cap, ?_, ?_, hk', ?_⟩
   · exact block_set HG1.out 0 _
   · have := ownsRow_setCell_other hown1 (a := ⟨g, 0, none⟩) hne (.slice (some ⟨k, 0, none⟩) (bs.length + 1) cap)
     rw [List.length_append, byteCells, List.map_append]
     exact this
   · exact (((Keeps.refl _ w).alloc _).drew.grown hgrow (fun j hj => .inr (.inr hj))).setCell (p := ⟨g, 0, none⟩) (.inr (.inl rfl)) _
end Go.Proofs.Ytopiiickeojpmaa

/- Contracts of layer 1's writer: handOn and Put. -/
namespace Go.Proofs.Ytopiiickeojpmaa
open Go.ChangeShapes Go.WideShapes Go.ChangeAt Go.RowKit
set_option linter.unusedVariables false
set_option maxRecDepth 100000
open Bits

/-- A writer's block and its row, with the bits r, n behind whole bytes bs. -/
def Raw (w : World) (g B : Nat) (v : Value) (bs : List UInt8) (r n : Nat) : Prop :=
  w.heap[g]? = some (.cells #[v, .int .u64 (r : Int), .int .i64 (n : Int)] 49 (0, 0)) ∧ w.ownsRow B 5 1 v bs.length (byteCells bs) ∧ B ≤ w.heap.size ∧ bs.length ≤ 1000000000000
def HandRel (w : World) (g bx B : Nat) (v : Value) (l : List Bool) (k : Nat) (wr : World) : Prop :=
  ∃ v1 bs r n, Raw wr g B v1 bs r n ∧ n / 8 = k ∧ n ≤ 63 ∧ r < 2 ^ n ∧ spread bs ++ bitsOf r n = l ∧ (∀ j, v1.ownBlock = some j → v.ownBlock = some j ∨ w.heap.size ≤ j) ∧ Keeps (fun k => k = g ∨ v.ownBlock = some k) w wr ∧
    wr.heap[bx]? = some (.cells #[.pointer (some ⟨g, 0, none⟩)] 24 (0, 0)) ∧ bs.length + k ≤ 1000000000000
def HandPost (w : World) (g B : Nat) (v : Value) (l : List Bool) (e : Ending) (w' : World) : Prop :=
  e = .returned (.tuple #[]) ∧ ∃ v1 bs r n, Raw w' g B v1 bs r n ∧ n < 8 ∧ r < 2 ^ n ∧ spread bs ++ bitsOf r n = l ∧ (∀ j, v1.ownBlock = some j → v.ownBlock = some j ∨ w.heap.size ≤ j) ∧ Keeps (fun k => k = g ∨ v.ownBlock = some k) w w'
theorem spread_step (bs : List UInt8) (r n : Nat) (l : List Bool) (h : spread bs ++ bitsOf r (n + 8) = l) : spread (bs ++ [UInt8.ofNat (r % 256)]) ++ bitsOf (r / 256) n = l := by
  rw [spread_append, List.append_assoc, ← h]
  congr 1
  rw [Nat.add_comm, bitsOf_add]
  simp only [spread, List.append_nil]
  congr 1
  rw [← bitsOf_mod r 8]
  congr 1
  simp
theorem low_byte (r : Nat) : (((UInt8.ofNat (r % 256)).toNat : Nat) : Int) = (r : Int) % 256 := by
  simp
theorem hand_step {w wr w1 : World} {g bx B : Nat} {v v1 : Value} {bs : List UInt8} {r n k j cap : Nat} {l : List Bool} {r' n' : Int} (h8 : 8 ≤ n) (hn : n ≤ 63) (hr : r < 2 ^ n) (hsp : spread bs ++ bitsOf r n = l) (hB : B ≤ wr.heap.size) (hk : n / 8 = k) (hbk : bs.length + k ≤ 1000000000000)
    (hv : ∀ j, v1.ownBlock = some j → v.ownBlock = some j ∨ w.heap.size ≤ j) (hkp : Keeps (fun k => k = g ∨ v.ownBlock = some k) w wr) (hown : wr.ownsRow B 5 1 v1 bs.length (byteCells bs))
    (hbx : wr.heap[bx]? = some (.cells #[.pointer (some ⟨g, 0, none⟩)] 24 (0, 0))) (hg : wr.heap[g]? = some (.cells #[v1, .int .u64 (r : Int), .int .i64 (n : Int)] 49 (0, 0)))
    (hg1 : w1.heap[g]? = some (.cells #[.slice (some ⟨j, 0, none⟩) (bs.length + 1) cap, .int .u64 (r : Int), .int .i64 (n : Int)] 49 (0, 0)))
    (hown1 : w1.ownsRow B 5 1 (.slice (some ⟨j, 0, none⟩) (bs.length + 1) cap) (bs ++ [UInt8.ofNat (r % 256)]).length (byteCells (bs ++ [UInt8.ofNat (r % 256)]))) (hj : v1.ownBlock = some j ∨ wr.heap.size ≤ j)
    (hk1 : Keeps (fun k => k = g ∨ v1.ownBlock = some k) wr w1) (er : r' = ((r / 256 : Nat) : Int)) (en : n' = ((n - 8 : Nat) : Int)) :
    HandRel w g bx B v l (k - 1) ((w1.setCell ⟨g, 1, none⟩ (.int .u64 r')).setCell ⟨g, 2, none⟩ (.int .i64 n')) := by
  subst er en
  have hs := hkp.size
  have hs1 := hk1.size
  refine ⟨.slice (some ⟨j, 0, none⟩) (bs.length + 1) cap, bs ++ [UInt8.ofNat (r % 256)], r / 256, n - 8, ⟨block_set (block_set hg1 1 _) 2 _, ?_, by simp; omega, by simp; omega⟩, by omega, by omega, ?_, spread_step bs r (n - 8) l (by rw [Nat.sub_add_cancel h8]; exact hsp), ?_, ?_, ?_, by simp; omega⟩
  · have hne : (Value.slice (some ⟨j, 0, none⟩) (bs.length + 1) cap).ownBlock ≠ some g := own_ne hown1 hg1 (by decide)
    exact ownsRow_setCell_other (ownsRow_setCell_other hown1 (a := ⟨g, 1, none⟩) hne _) (a := ⟨g, 2, none⟩) hne _
  · have e : 2 ^ n = 256 * 2 ^ (n - 8) := by rw [show (256 : Nat) = 2 ^ 8 from rfl, ← Nat.pow_add, show 8 + (n - 8) = n from by omega]
    rw [e] at hr
    exact Nat.div_lt_of_lt_mul hr
  · intro i hi
    simp [Value.ownBlock] at hi
    subst hi
    rcases hj with hj | hj
    · exact hv _ hj
    · right; omega
  · have k2 := hkp.trans' hk1 (fun i hi h => by
      rcases h with h | h
      · exact .inl h
      · rcases hv i h with h | h
        · exact .inr h
        · omega)
    exact (k2.setCell (p := ⟨g, 1, none⟩) (.inr (.inl rfl)) _).setCell (p := ⟨g, 2, none⟩) (.inr (.inl rfl)) _
  · have hne : bx ≠ g := by
      rintro rfl
      rw [hbx] at hg
      simp at hg
    have h1 := hk1.heap hbx (by
      rintro (h | h)
      · exact hne h
      · exact own_ne hown hbx (by decide) h)
    rw [Below.heap_setCell _ _ _ _ hne, Below.heap_setCell _ _ _ _ hne]
    exact h1
set_option maxHeartbeats 1600000 in
theorem wHandOn (w : World) (g bx B : Nat) (v : Value) (bs : List UInt8) (r n : Nat) (h : Raw w g B v bs r n) (hn : n ≤ 63) (hr : r < 2 ^ n) (hl : bs.length + n / 8 ≤ 1000000000000)
    (hbx : w.heap[bx]? = some (.cells #[.pointer (some ⟨g, 0, none⟩)] 24 (0, 0))) :
    Calls Try.prog 21 #[.pointer (some ⟨g, 0, none⟩), .func (.func 22) #[] #[.pointer (some ⟨bx, 0, none⟩)]] w (HandPost w g B v (spread bs ++ bitsOf r n)) := by
  have h0 : HandRel w g bx B v (spread bs ++ bitsOf r n) (n / 8) w := ⟨v, bs, r, n, h, rfl, hn, hr, rfl, fun j hj => .inl hj, Keeps.refl _ _, hbx, hl⟩
  have H0 := Lib.hid h0
  obtain ⟨l, hl⟩ : ∃ l, spread bs ++ bitsOf r n = l := ⟨_, rfl⟩
  rw [hl] at H0 ⊢
  clear h0 h hl hr hbx
  go_enter Try.func21, Try.ntmps21
  go_wp2
  go_loopg [] (n / 8) (fun k wr => HandRel w g bx B v l k wr)
  case atStart => exact H0.out
  case round =>
    obtain ⟨v1, bs1, r1, n1, ⟨hg, hown, hB, hbl⟩, hk, hn1, hr1, hsp, hv, hkp, hbx, hbk⟩ := hrel
    have c0 := cell_in hg 0
    have c1 := cell_in hg 1
    have c2 := cell_in hg 2
    have f1 := free_in hg 1
    have f2 := free_in hg 2
    simp at c0 c1 c2
    by_cases h8 : 8 ≤ n1
    · have HT := Lib.hid (wTake wr g bx B v1 (.int .u64 r1) (.int .i64 n1) bs1 (UInt8.ofNat (r1 % 256)) hbx hg hown hB hbl)
      rw [low_byte] at HT
      have HG := Lib.hid hg; have HO := Lib.hid hown; have HR := Lib.hid hr1; have HS := Lib.hid hsp; have HX := Lib.hid hbx; have HK := Lib.hid hk; have HV := Lib.hid hv
      clear hg hown hr1 hsp hbx hk hv
      go_wp2_with fail
      refine HT.out.mono ?_; rintro e w1 ⟨rfl, j, cap, hg1, hown1, hj, hk1⟩
      have d0 := cell_in hg1 0
      have d1 := cell_in hg1 1
      have d2 := cell_in hg1 2
      have e1 := free_in hg1 1
      have e2 := free_in hg1 2
      simp at d0 d1 d2
      have HG1 := Lib.hid hg1
      clear hg1
      go_wp2_with fail
      have hpos : 0 < gk := by rw [← HK.out]; omega
      go_roundg (gk - 1)
      case rel => exact hand_step h8 hn1 HR.out HS.out hB HK.out hbk HV.out hkp HO.out HX.out HG.out HG1.out hown1 hj hk1 (by omega) (by omega)
      case measure => omega
    · go_wp2_with fail
      go_end0
      exact ⟨rfl, v1, bs1, r1, n1, ⟨hg, hown, hB, hbl⟩, by omega, hr1, hsp, hv, hkp⟩
end Go.Proofs.Ytopiiickeojpmaa
