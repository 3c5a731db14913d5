import Derived.Test.YtipcdkemokkdfaaGreatK25
import Derived.Deep.LoopGhost
import Derived.Test.YtipcdkemokkdfaaGreatK08
import Derived.Laws.BytesArg
/- Contracts of layer 1's writer: handOn and Put. -/
namespace Go.Proofs.YtipcdkemokkdfaaGreat
open Go.ChangeShapes Go.WideShapes Go.ChangeAt Go.RowKit
set_option linter.unusedVariables false
set_option maxRecDepth 100000
open Bits

/-- A writer's block and its row, with the bits r, n behind whole bytes bs. -/
def Raw (w : World) (g B : Nat) (v : Value) (bs : List UInt8) (r n : Nat) : Prop :=
  w.heap[g]? = some (.cells #[v, .int .u64 (r : Int), .int .i64 (n : Int)] 77 (0, 0)) ∧ w.ownsRow B 5 1 v bs.length (byteCells bs) ∧ B ≤ w.heap.size ∧ bs.length ≤ 1000000000000
def HandRel (w : World) (g bx B : Nat) (v : Value) (l : List Bool) (k : Nat) (wr : World) : Prop :=
  ∃ v1 bs r n, Raw wr g B v1 bs r n ∧ n / 8 = k ∧ n ≤ 63 ∧ r < 2 ^ n ∧ spread bs ++ bitsOf r n = l ∧ (∀ j, v1.ownBlock = some j → v.ownBlock = some j ∨ w.heap.size ≤ j) ∧ Keeps (fun k => k = g ∨ v.ownBlock = some k) w wr ∧
    wr.heap[bx]? = some (.cells #[.pointer (some ⟨g, 0, none⟩)] 51 (0, 0)) ∧ bs.length + k ≤ 1000000000000
def HandPost (w : World) (g B : Nat) (v : Value) (l : List Bool) (e : Ending) (w' : World) : Prop :=
  e = .returned (.tuple #[]) ∧ ∃ v1 bs r n, Raw w' g B v1 bs r n ∧ n < 8 ∧ r < 2 ^ n ∧ spread bs ++ bitsOf r n = l ∧ (∀ j, v1.ownBlock = some j → v.ownBlock = some j ∨ w.heap.size ≤ j) ∧ Keeps (fun k => k = g ∨ v.ownBlock = some k) w w'
theorem spread_step (bs : List UInt8) (r n : Nat) (l : List Bool) (h : spread bs ++ bitsOf r (n + 8) = l) : spread (bs ++ [UInt8.ofNat (r % 256)]) ++ bitsOf (r / 256) n = l := by
  rw [spread_append, List.append_assoc, ← h]
  congr 1
  rw [Nat.add_comm, bitsOf_add]
  simp only [spread, List.append_nil]
  congr 1
  rw [← bitsOf_mod r 8]
  congr 1
  simp
theorem low_byte (r : Nat) : (((UInt8.ofNat (r % 256)).toNat : Nat) : Int) = (r : Int) % 256 := by
  simp
theorem hand_step {w wr w1 : World} {g bx B : Nat} {v v1 : Value} {bs : List UInt8} {r n k j cap : Nat} {l : List Bool} {r' n' : Int} (h8 : 8 ≤ n) (hn : n ≤ 63) (hr : r < 2 ^ n) (hsp : spread bs ++ bitsOf r n = l) (hB : B ≤ wr.heap.size) (hk : n / 8 = k) (hbk : bs.length + k ≤ 1000000000000)
    (hv : ∀ j, v1.ownBlock = some j → v.ownBlock = some j ∨ w.heap.size ≤ j) (hkp : Keeps (fun k => k = g ∨ v.ownBlock = some k) w wr) (hown : wr.ownsRow B 5 1 v1 bs.length (byteCells bs))
    (hbx : wr.heap[bx]? = some (.cells #[.pointer (some ⟨g, 0, none⟩)] 51 (0, 0))) (hg : wr.heap[g]? = some (.cells #[v1, .int .u64 (r : Int), .int .i64 (n : Int)] 77 (0, 0)))
    (hg1 : w1.heap[g]? = some (.cells #[.slice (some ⟨j, 0, none⟩) (bs.length + 1) cap, .int .u64 (r : Int), .int .i64 (n : Int)] 77 (0, 0)))
    (hown1 : w1.ownsRow B 5 1 (.slice (some ⟨j, 0, none⟩) (bs.length + 1) cap) (bs ++ [UInt8.ofNat (r % 256)]).length (byteCells (bs ++ [UInt8.ofNat (r % 256)]))) (hj : v1.ownBlock = some j ∨ wr.heap.size ≤ j)
    (hk1 : Keeps (fun k => k = g ∨ v1.ownBlock = some k) wr w1) (er : r' = ((r / 256 : Nat) : Int)) (en : n' = ((n - 8 : Nat) : Int)) :
    HandRel w g bx B v l (k - 1) ((w1.setCell ⟨g, 1, none⟩ (.int .u64 r')).setCell ⟨g, 2, none⟩ (.int .i64 n')) := by
  subst er en
  have hs := hkp.size
  have hs1 := hk1.size
  refine ⟨.slice (some ⟨j, 0, none⟩) (bs.length + 1) cap, bs ++ [UInt8.ofNat (r % 256)], r / 256, n - 8, ⟨block_set (block_set hg1 1 _) 2 _, ?_, by simp; omega, by simp; omega⟩, by omega, by omega, ?_, spread_step bs r (n - 8) l (by rw [Nat.sub_add_cancel h8]; exact hsp), ?_, ?_, ?_, by simp; omega⟩
  · have hne : (Value.slice (some ⟨j, 0, none⟩) (bs.length + 1) cap).ownBlock ≠ some g := own_ne hown1 hg1 (by decide)
    exact ownsRow_setCell_other (ownsRow_setCell_other hown1 (a := ⟨g, 1, none⟩) hne _) (a := ⟨g, 2, none⟩) hne _
  · have e : 2 ^ n = 256 * 2 ^ (n - 8) := by rw [show (256 : Nat) = 2 ^ 8 from rfl, ← Nat.pow_add, show 8 + (n - 8) = n from by omega]
    rw [e] at hr
    exact Nat.div_lt_of_lt_mul hr
  · intro i hi
    simp [Value.ownBlock] at hi
    subst hi
    rcases hj with hj | hj
    · exact hv _ hj
    · right; omega
  · have k2 := hkp.trans' hk1 (fun i hi h => by
      rcases h with h | h
      · exact .inl h
      · rcases hv i h with h | h
        · exact .inr h
        · omega)
    exact (k2.setCell (p := ⟨g, 1, none⟩) (.inr (.inl rfl)) _).setCell (p := ⟨g, 2, none⟩) (.inr (.inl rfl)) _
  · have hne : bx ≠ g := by
      rintro rfl
      rw [hbx] at hg
      simp at hg
    have h1 := hk1.heap hbx (by
      rintro (h | h)
      · exact hne h
      · exact own_ne hown hbx (by decide) h)
    rw [Below.heap_setCell _ _ _ _ hne, Below.heap_setCell _ _ _ _ hne]
    exact h1
set_option maxHeartbeats 1600000 in
theorem wHandOn (w : World) (g bx B : Nat) (v : Value) (bs : List UInt8) (r n : Nat) (h : Raw w g B v bs r n) (hn : n ≤ 63) (hr : r < 2 ^ n) (hl : bs.length + n / 8 ≤ 1000000000000)
    (hbx : w.heap[bx]? = some (.cells #[.pointer (some ⟨g, 0, none⟩)] 51 (0, 0))) :
    Calls Tryz.prog 45 #[.pointer (some ⟨g, 0, none⟩), .func (.func 46) #[] #[.pointer (some ⟨bx, 0, none⟩)]] w (HandPost w g B v (spread bs ++ bitsOf r n)) := by
  have h0 : HandRel w g bx B v (spread bs ++ bitsOf r n) (n / 8) w := ⟨v, bs, r, n, h, rfl, hn, hr, rfl, fun j hj => .inl hj, Keeps.refl _ _, hbx, hl⟩
  have H0 := Lib.hid h0
  obtain ⟨l, hl⟩ : ∃ l, spread bs ++ bitsOf r n = l := ⟨_, rfl⟩
  rw [hl] at H0 ⊢
  clear h0 h hl hr hbx
  go_enter Tryz.func45, Tryz.ntmps45
  go_wp2
  go_loopg [] (n / 8) (fun k wr => HandRel w g bx B v l k wr)
  case atStart => exact H0.out
  case round =>
    obtain ⟨v1, bs1, r1, n1, ⟨hg, hown, hB, hbl⟩, hk, hn1, hr1, hsp, hv, hkp, hbx, hbk⟩ := hrel
    have c0 := cell_in hg 0
    have c1 := cell_in hg 1
    have c2 := cell_in hg 2
    have f1 := free_in hg 1
    have f2 := free_in hg 2
    simp at c0 c1 c2
    by_cases h8 : 8 ≤ n1
    · have HT := Lib.hid (wTake wr g bx B v1 (.int .u64 r1) (.int .i64 n1) bs1 (UInt8.ofNat (r1 % 256)) hbx hg hown hB hbl)
      rw [low_byte] at HT
      have HG := Lib.hid hg; have HO := Lib.hid hown; have HR := Lib.hid hr1; have HS := Lib.hid hsp; have HX := Lib.hid hbx; have HK := Lib.hid hk; have HV := Lib.hid hv
      clear hg hown hr1 hsp hbx hk hv
      go_wp2_with fail
      refine HT.out.mono ?_; rintro e w1 ⟨rfl, j, cap, hg1, hown1, hj, hk1⟩
      have d0 := cell_in hg1 0
      have d1 := cell_in hg1 1
      have d2 := cell_in hg1 2
      have e1 := free_in hg1 1
      have e2 := free_in hg1 2
      simp at d0 d1 d2
      have HG1 := Lib.hid hg1
      clear hg1
      go_wp2_with fail
      have hpos : 0 < gk := by rw [← HK.out]; omega
      go_roundg (gk - 1)
      case rel => exact hand_step h8 hn1 HR.out HS.out hB HK.out hbk HV.out hkp HO.out HX.out HG.out HG1.out hown1 hj hk1 (by omega) (by omega)
      case measure => omega
    · go_wp2_with fail
      go_end0
      exact ⟨rfl, v1, bs1, r1, n1, ⟨hg, hown, hB, hbl⟩, by omega, hr1, hsp, hv, hkp⟩
end Go.Proofs.YtipcdkemokkdfaaGreat

/- Contracts of layer 1's writer: Put, Align, Len, Bytes. -/
namespace Go.Proofs.YtipcdkemokkdfaaGreat
open Go.ChangeShapes Go.WideShapes Go.ChangeAt Go.RowKit
set_option linter.unusedVariables false
set_option maxRecDepth 100000
open Bits

def IsWriter (w : World) (g B : Nat) (l : List Bool) : Prop := ∃ v bs r n, Raw w g B v bs r n ∧ n < 8 ∧ r < 2 ^ n ∧ spread bs ++ bitsOf r n = l
/-- The blocks that a writer has. -/
def foot (w : World) (g k : Nat) : Prop := k = g ∨ ∃ v, w.cell? ⟨g, 0, none⟩ = some v ∧ v.ownBlock = some k
def PutPost (w : World) (g B : Nat) (l : List Bool) (e : Ending) (w' : World) : Prop :=
  e = .returned (.int .i64 0) ∧ IsWriter w' g B l ∧ Keeps (foot w g) w w' ∧ ∀ k, foot w' g k → foot w g k ∨ w.heap.size ≤ k
theorem heap_alloc_drew (X : World) (o : Obj) (n : Nat) (h : n = X.heap.size) : (X.alloc o).drew.heap[n]? = some o := by subst h; exact heap_alloc_new X o
theorem put_lt (r x m n : Nat) (hr : r < 2 ^ m) (hx : x < 2 ^ n) : r + x * 2 ^ m < 2 ^ (m + n) := by
  have h1 : (x + 1) * 2 ^ m ≤ 2 ^ n * 2 ^ m := Nat.mul_le_mul_right _ hx
  rw [Nat.add_mul] at h1
  rw [Nat.add_comm m n, Nat.pow_add]
  omega
theorem put_or (r x m n : Nat) (hr : r < 2 ^ m) (hm : m < 8) (hx : x < 2 ^ n) (hn : n ≤ 56) : bits .or .u64 (r : Int) (IntKind.u64.wrap ((x : Int) * 2 ^ m)) = ((r + x * 2 ^ m : Nat) : Int) := by
  have h1 := put_lt r x m n hr hx
  have h2 : 2 ^ (m + n) ≤ 2 ^ 64 := Nat.pow_le_pow_right (by decide) (by omega)
  have e1 : (x : Int) * 2 ^ m = ((x * 2 ^ m : Nat) : Int) := by simp
  rw [e1, wrap_u64_nat _ (by omega), or_u64 _ _ (by omega) (by omega)]
  congr 1
  rw [Nat.or_comm, Nat.mul_comm, ← Nat.two_pow_add_eq_or_of_lt hr]; omega
/-- The writer's block behind both stores, and the rest as it was. -/
theorem put_mid {w : World} {g B : Nat} {v : Value} {bs : List UInt8} {r n : Nat} {r' n' : Nat} (h : Raw w g B v bs r n) :
    Raw (((w.setCell ⟨g, 1, none⟩ (.int .u64 (r' : Int))).setCell ⟨g, 2, none⟩ (.int .i64 (n' : Int))).alloc (.cells #[.pointer (some ⟨g, 0, none⟩)] 51)).drew g B v bs r' n' := by
  obtain ⟨hg, hown, hB, hbl⟩ := h
  have hne := own_ne hown hg (by decide)
  refine ⟨heap_old (block_set (block_set hg 1 _) 2 _) _, ?_, by simp; omega, hbl⟩
  exact (ownsRow_setCell_other (ownsRow_setCell_other hown (a := ⟨g, 1, none⟩) hne _) (a := ⟨g, 2, none⟩) hne _).alloc _
set_option maxHeartbeats 1600000 in
theorem wPut (w : World) (g B : Nat) (l : List Bool) (x n : Nat) (h : IsWriter w g B l) (hn : n ≤ 56) (hx : x < 2 ^ n) (hl : l.length + n ≤ 1000000000000) :
    Calls Tryz.prog 27 #[.pointer (some ⟨g, 0, none⟩), .int .u64 x, .int .i64 n] w (PutPost w g B (l ++ bitsOf x n)) := by
  obtain ⟨v, bs, r, m, ⟨hg, hown, hB, hbl⟩, hm, hr, hsp⟩ := h
  have c0 := cell_in hg 0
  have c1 := cell_in hg 1
  have c2 := cell_in hg 2
  have f1 := free_in hg 1
  have f2 := free_in hg 2
  simp at c0 c1 c2
  have hgl := block_lt hg
  have e3 : (((x : Int) / 2 ^ n) != 0) = false := by
    have : (x : Int) / 2 ^ n = ((x / 2 ^ n : Nat) : Int) := by simp
    rw [this, Nat.div_eq_of_lt hx]; rfl
  have HW : Hid (Raw w g B v bs r m) := ⟨hg, hown, hB, hbl⟩
  have HR := Lib.hid hr; have HS := Lib.hid hsp; have HX := Lib.hid hx; have HL := Lib.hid hl
  clear hg hown hr hsp hx hl
  go_enter Tryz.func27, Tryz.ntmps27
  go_wp2_with fail
  go_region
  all_goals go_wp2_with fail
  rw [put_or r x m n HR.out hm HX.out hn, show (m : Int) + (n : Int) = ((m + n : Nat) : Int) from by omega]
  have hR := put_mid (r' := r + x * 2 ^ m) (n' := m + n) HW.out
  refine (wHandOn _ g w.heap.size B v bs (r + x * 2 ^ m) (m + n) hR (by omega) (put_lt r x m n HR.out HX.out) (by rw [← HS.out, List.length_append, spread_length, bitsOf_length] at HL; have := HL.out; omega) ?_).mono ?_
  · exact heap_alloc_drew _ _ _ (by simp)
  rintro e w1 ⟨rfl, v1, bs1, r1, n1, hR1, hn1, hr1, hs1, hv1, hk1⟩
  have H1 := Lib.hid hR1
  have HS1 := Lib.hid hs1; have HR1 := Lib.hid hr1
  clear hR1 hs1 hr1 hR
  go_wp2_with fail
  go_ret
  refine ⟨rfl, ⟨v1, bs1, r1, n1, H1.out, hn1, HR1.out, ?_⟩, ?_, ?_⟩
  · rw [HS1.out, bitsOf_join r x m n HR.out, ← List.append_assoc, HS.out]
  · have k0 : Keeps (fun k => k = g) w (((w.setCell ⟨g, 1, none⟩ (.int .u64 ((r + x * 2 ^ m : Nat) : Int))).setCell ⟨g, 2, none⟩ (.int .i64 ((m + n : Nat) : Int))).alloc (.cells #[.pointer (some ⟨g, 0, none⟩)] 51)).drew :=
      ((((Keeps.refl (fun k => k = g) w).setCell (p := ⟨g, 1, none⟩) (.inr rfl) _).setCell (p := ⟨g, 2, none⟩) (.inr rfl) _).alloc _).drew
    refine (k0.mono (fun k _ h => show foot w g k from .inl h)).trans' hk1 (fun j _ h => ?_)
    rcases h with h | h
    · exact .inl h
    · exact .inr ⟨v, c0, h⟩
  · intro k hk
    rcases hk with hk | ⟨v', hv', hb⟩
    · exact .inl (.inl hk)
    · rw [cell_in H1.out.1 0] at hv'
      simp at hv'
      subst hv'
      rcases hv1 k hb with h | h
      · exact .inl (.inr ⟨v, c0, h⟩)
      · right; simp at h; omega
end Go.Proofs.YtipcdkemokkdfaaGreat

/- Contracts of layer 1's writer: New, Align, Len, Bytes; awake. -/
namespace Go.Proofs.YtipcdkemokkdfaaGreat
open Go.ChangeShapes Go.WideShapes Go.ChangeAt Go.RowKit
set_option linter.unusedVariables false
set_option maxRecDepth 100000
open Bits

theorem wNew (w : World) : Calls Tryz.prog 25 #[] w fun e w' => e = .returned (.pointer (some ⟨w.heap.size, 0, none⟩)) ∧ IsWriter w' w.heap.size w.heap.size [] ∧ Below w.heap.size w w' ∧ w'.heap.size = w.heap.size + 1 ∧ ∀ k, foot w' w.heap.size k → w.heap.size ≤ k := by
  go_enter Tryz.func25, Tryz.ntmps25
  go_wp2
  go_ret
  refine ⟨rfl, ⟨.slice none 0 0, [], 0, 0, ⟨heap_alloc_new w _, World.ownsRow_nil _ _ _ _, by simp, by simp⟩, by decide, by decide, rfl⟩, by go_grown, by simp, ?_⟩
  intro k hk
  rcases hk with hk | ⟨v, hv, hb⟩
  · omega
  · rw [cell_in (heap_alloc_new w _) 0] at hv
    simp at hv
    subst hv
    simp [Value.ownBlock] at hb
theorem conv_one (X : World) (k r : Nat) (hr : r < 256) (hX : X.cell? ⟨k, 0, none⟩ = some (.int .u8 (r : Int))) : (convert 43 9 (.slice (some ⟨k, 0, none⟩) 1 1)).run Tryz.prog X = .ok (.string ⟨#[UInt8.ofNat r]⟩) X := by
  have h := run_convert_bytes_back (P := Tryz.prog) X 43 9 5 ⟨k, 0, none⟩ 1 [UInt8.ofNat r] Tryz.underlying43 Tryz.underlying5 Tryz.underlying9 (fun j hj => by
    have hj0 : j = 0 := by simpa using hj
    subst hj0
    have e : (⟨k, 0, none⟩ : Addr).add 0 = ⟨k, 0, none⟩ := by simp [Addr.add]
    rw [e, hX]
    simp
    omega)
  simpa using h
theorem pack_whole (bs : List UInt8) (r n : Nat) (hn : n = 0) : pack (spread bs ++ bitsOf r n) = bs := by
  subst hn; rw [pack_spread]; simp [bitsOf, pack_nil]
theorem pack_rest (bs : List UInt8) (r n : Nat) (h0 : 0 < n) (h8 : n < 8) (hr : r < 2 ^ n) : pack (spread bs ++ bitsOf r n) = bs ++ [UInt8.ofNat r] := by
  rw [pack_spread, pack_few _ (by intro h; have := congrArg List.length h; rw [bitsOf_length] at this; simp at this; omega) (by rw [bitsOf_length]; omega), wordOf_bitsOf, Nat.mod_eq_of_lt hr]
theorem wBytes (w : World) (g B : Nat) (l : List Bool) (h : IsWriter w g B l) : Calls Tryz.prog 17 #[.pointer (some ⟨g, 0, none⟩)] w fun e w' => e = .returned (.string ⟨(pack l).toArray⟩) ∧ Below w.heap.size w w' := by
  obtain ⟨v, bs, r, n, ⟨hg, hown, hB, hbl⟩, hm, hr, hsp⟩ := h
  have c0 := cell_in hg 0
  have c1 := cell_in hg 1
  have c2 := cell_in hg 2
  simp at c0 c1 c2
  have hr7 : r < 128 := Nat.lt_of_lt_of_le hr (show 2 ^ n ≤ 2 ^ 7 from Nat.pow_le_pow_right (by decide) (by omega))
  have hgl := block_lt hg
  have hw := hown.2
  rcases hw with ⟨rfl, h0⟩ | ⟨k, cap, cur, rfl, hbk, hk, hnc, hcm, hcs, htake⟩
  · have hcv : ∀ w, (convert 43 9 (.slice none 0 0)).run Tryz.prog w = .ok (.string ByteArray.empty) w := fun w => run_convert_bytes_nil (w := w) 43 5 Tryz.underlying43 Tryz.underlying5 0 0 9 Tryz.underlying9
    have hc2 := fun X => conv_one X w.heap.size r (by omega)
    obtain rfl : bs = [] := List.eq_nil_of_length_eq_zero h0
    have HR := Lib.hid hr
    clear hown hg h0 hr hbl
    by_cases hn0 : n = 0
    · have HP := Lib.hid (pack_whole [] r n hn0)
      rw [hsp] at HP
      subst hn0
      clear hsp
      go_enter Tryz.func17, Tryz.ntmps17
      go_wp2
      go_ret
      rw [HP.out]
      exact ⟨rfl, Below.refl _ _⟩
    · have hn1 : ((n : Int) == 0) = false := by rw [beq_eq_false_iff_ne]; omega
      go_enter Tryz.func17, Tryz.ntmps17
      go_wp2
      have HP := Lib.hid (pack_rest [] r n (by omega) hm HR.out)
      rw [hsp] at HP
      clear hsp
      go_region
      all_goals go_wp2
      all_goals go_ret
      all_goals rw [HP.out]
      all_goals exact ⟨rfl, by go_grown⟩
  · have hby : ∀ X : World, X.heap[k]? = some (.cells cur 5 (0, 0)) → (convert 43 9 (.slice (some ⟨k, 0, none⟩) bs.length cap)).run Tryz.prog X = .ok (.string ⟨bs.toArray⟩) X := fun X hX =>
      run_convert_bytes_back (P := Tryz.prog) X 43 9 5 ⟨k, 0, none⟩ cap bs Tryz.underlying43 Tryz.underlying5 Tryz.underlying9 (fun j hj => by
        refine cells_of (cs := byteCells bs) (off := 0) (fun i hi => ?_) j _ (by simp [byteCells, hj])
        have hi' : i < bs.length := by simpa [byteCells] using hi
        rw [cell_in hX, Nat.zero_add, ← htake, List.getElem?_take, if_pos (by omega)]
        simp)
    have hadd : ∀ X : World, (Op.stringOp .add ⟨bs.toArray⟩ ⟨#[UInt8.ofNat r]⟩).run Tryz.prog X = .ok (.string ⟨(bs ++ [UInt8.ofNat r]).toArray⟩) X := fun X => by
      have h := run_string_add_sum (P := Tryz.prog) X ⟨bs.toArray⟩ ⟨[UInt8.ofNat r].toArray⟩ (by simp [ByteArray.size]; omega)
      rw [ByteArray.mk_append_mk] at h
      exact h
    have q0 := hby w hk
    have q1 := hby w.drew hk
    have q2 := hby (w.alloc (.cells #[.int .u8 (r : Int)] 5)).drew (heap_old hk _)
    have hc2 := fun X => conv_one X w.heap.size r (by omega)
    have HR := Lib.hid hr
    clear hown hg hr hbl hby htake hcs hk
    by_cases hn0 : n = 0
    · have HP := Lib.hid (pack_whole bs r n hn0)
      rw [hsp] at HP
      subst hn0
      clear hsp
      go_enter Tryz.func17, Tryz.ntmps17
      go_wp2
      go_ret
      rw [HP.out]
      exact ⟨rfl, Below.refl _ _⟩
    · have hn1 : ((n : Int) == 0) = false := by rw [beq_eq_false_iff_ne]; omega
      have HP := Lib.hid (pack_rest bs r n (by omega) hm HR.out)
      rw [hsp] at HP
      clear hsp
      go_enter Tryz.func17, Tryz.ntmps17
      go_wp2
      go_region
      all_goals go_wp2
      all_goals go_ret
      all_goals rw [HP.out]
      go_goals
      all_goals exact ⟨by first | rfl | (simp; done), by go_grown⟩
end Go.Proofs.YtipcdkemokkdfaaGreat

/- Layer 1's awake, and writers that are none. -/
namespace Go.Proofs.YtipcdkemokkdfaaGreat
open Go.ChangeShapes Go.WideShapes Go.ChangeAt Go.RowKit
set_option linter.unusedVariables false
set_option maxRecDepth 100000
open Bits

theorem foot_lt {w : World} {g B : Nat} {l : List Bool} (h : IsWriter w g B l) : ∀ k, foot w g k → k < w.heap.size := by
  obtain ⟨v, bs, r, n, ⟨hg, hown, hB, hbl⟩, hm, hr, hsp⟩ := h
  intro k hk
  rcases hk with rfl | ⟨v', hv, hb⟩
  · exact block_lt hg
  · rw [cell_in hg 0] at hv
    simp at hv
    subst hv
    exact (hown.lt k hb).2
theorem IsWriter.keep {w w' : World} {g B : Nat} {l : List Bool} {S : Nat → Prop} (h : IsWriter w g B l) (hk : Keeps S w w') (hd : ∀ k, foot w g k → ¬ S k) : IsWriter w' g B l ∧ ∀ k, foot w' g k ↔ foot w g k := by
  have hlt := foot_lt h
  obtain ⟨v, bs, r, n, ⟨hg, hown, hB, hbl⟩, hm, hr, hsp⟩ := h
  have hg' := hk.heap hg (hd g (.inl rfl))
  have c : w.cell? ⟨g, 0, none⟩ = some v := cell_lit hg 0 v rfl
  have c' : w'.cell? ⟨g, 0, none⟩ = some v := cell_lit hg' 0 v rfl
  refine ⟨⟨v, bs, r, n, ⟨hg', hk.ownsRow hown (fun k hb => hd k (.inr ⟨v, c, hb⟩)), Nat.le_trans hB hk.size, hbl⟩, hm, hr, hsp⟩, fun k => ?_⟩
  unfold foot; rw [c, c']
theorem IsWriter.drewN {w : World} {g B : Nat} {l : List Bool} (h : IsWriter w g B l) (k : Nat) : IsWriter (w.drewN k) g B l := h
theorem wAlign (w : World) (g B : Nat) (l : List Bool) (h : IsWriter w g B l) (hl : l.length ≤ 900000000000) : Calls Tryz.prog 16 #[.pointer (some ⟨g, 0, none⟩)] w fun e w' =>
    e = .returned (.int .i64 (lack l.length)) ∧ IsWriter w' g B (l ++ bitsOf 0 (lack l.length)) ∧ Keeps (foot w g) w w' ∧ ∀ k, foot w' g k → foot w g k ∨ w.heap.size ≤ k := by
  have hlk : lack l.length < 8 := by unfold lack; omega
  have Q := Lib.hid (wPut w g B l 0 (lack l.length) h (by omega) (Nat.pow_pos (by decide)) (by omega))
  obtain ⟨v, bs, r, n, ⟨hg, hown, hB, hbl⟩, hm, hr, hsp⟩ := h
  have hc := cell_in hg 2
  simp at hc
  have HE : Hid (-(n : Int) % 8 = ((lack l.length : Nat) : Int)) := by
    show _ = _
    have hlen : l.length = 8 * bs.length + n := by rw [← hsp, List.length_append, spread_length, bitsOf_length]
    unfold lack; rw [hlen]; omega
  clear hg hown hB hbl hr hsp
  go_enter Tryz.func16, Tryz.ntmps16
  go_wp2_with fail
  rw [HE.out]
  refine Q.out.mono ?_; rintro e w1 ⟨rfl, hr, hk, hz⟩
  go_wp2_with fail
  go_ret
  exact ⟨ret_i HE.out, hr, hk, hz⟩
end Go.Proofs.YtipcdkemokkdfaaGreat

/- Layer 13: the head of a table. -/
namespace Go.Proofs.YtipcdkemokkdfaaGreat
open Go.ChangeShapes Go.WideShapes Go.ChangeAt Go.RowKit
set_option linter.unusedVariables false
set_option linter.unusedSimpArgs false
set_option maxRecDepth 100000
open Bits hiding packF pack_length
open RunsMath KraftMath CanonMath
/-- A writer, and that nothing else has turned since a world. -/
def PenW (w0 w : World) (g B : Nat) (bits : List Bool) : Prop := IsWriter w g B bits ∧ Keeps (foot w0 g) w0 w ∧ ∀ k, foot w g k → foot w0 g k ∨ w0.heap.size ≤ k
theorem PenW.start {w : World} {g B : Nat} {bits : List Bool} (h : IsWriter w g B bits) : PenW w w g B bits := ⟨h, Keeps.refl _ _, fun k hk => .inl hk⟩
theorem PenW.chain {w0 w1 w2 : World} {g B : Nat} {b1 b2 : List Bool} (h : PenW w0 w1 g B b1) (k : PenW w1 w2 g B b2) : PenW w0 w2 g B b2 :=
  ⟨k.1, h.2.1.trans' k.2.1 (fun j hj hf => by rcases h.2.2 j hf with e | e; (· exact e); (· omega)), fun j hj => by
    rcases k.2.2 j hj with e | e
    · exact h.2.2 j e
    · right; have := h.2.1.size; omega⟩
theorem PenW.below {w0 w w' : World} {g B : Nat} {bits : List Bool} (h : PenW w0 w g B bits) (hb : Below w.heap.size w w') : PenW w0 w' g B bits := by
  obtain ⟨h1, h2⟩ := IsWriter.keep (S := fun _ => False) h.1 (Keeps.of_below hb) (fun _ _ h => h)
  exact h.chain ⟨h1, Keeps.of_below hb, fun k hk => .inl ((h2 k).1 hk)⟩
theorem PenW.cell {w0 w : World} {g B : Nat} {bits : List Bool} (h : PenW w0 w g B bits) {p : Addr} (hp : p.block < w0.heap.size) (hf : ¬ foot w0 g p.block) : w.cell? p = w0.cell? p := h.2.1.cell hp hf
theorem PenW.foot_iff {w w' : World} {g B : Nat} {bits : List Bool} (h : IsWriter w g B bits) (hb : Below w.heap.size w w') : ∀ k, foot w' g k ↔ foot w g k := (IsWriter.keep (S := fun _ => False) h (Keeps.of_below hb) (fun _ _ h => h)).2
theorem PenW.ints {w0 w : World} {g B : Nat} {bits : List Bool} {a : Option Addr} {l : List Int} (h : PenW w0 w g B bits) (hi : IsInts w0 a l) (hf : ∀ x, a = some x → ¬ foot w0 g x.block) : IsInts w a l := by
  refine ⟨hi.1, ?_⟩
  rcases hi.2 with e | ⟨x, rfl, hc⟩
  · exact .inl e
  · refine .inr ⟨x, rfl, fun i hi => ?_⟩
    have h1 := hc i hi
    exact (h.cell (cell_block h1) (by rw [add_block]; exact hf x rfl)).trans h1
theorem PenW.runs {w0 w : World} {g B : Nat} {bits : List Bool} {a : Option Addr} {l : List Run} (h : PenW w0 w g B bits) (hi : IsRuns w0 a l) (hf : ∀ x, a = some x → ¬ foot w0 g x.block) : IsRuns w a l := by
  refine ⟨hi.1, ?_⟩
  rcases hi.2 with e | ⟨x, rfl, hc⟩
  · exact .inl e
  · refine .inr ⟨x, rfl, fun i hi => ?_⟩
    obtain ⟨h1, h2⟩ := hc i hi
    exact ⟨(h.cell (cell_block h1) (by rw [add_block]; exact hf x rfl)).trans h1, (h.cell (cell_block h2) (by show ¬ foot w0 g (x.add (i * 2)).block; rw [add_block]; exact hf x rfl)).trans h2⟩
theorem szInt (w : World) : (sizeOf 3).run Tryz.prog w = .ok 1 w := by kernel_rfl
theorem slA (K g : Nat) (hK : K ≤ 19) (w : World) : (Instr.sliceAt 136 (.pointer (some ⟨g, 0, none⟩)) none (some (.int .i64 (K : Int))) none).run Tryz.prog w = .ok (.slice (some ⟨g, 0, none⟩) K 19) w := by
  have eA : Tryz.prog.arrayLen 136 = 19 := by kernel_rfl
  have eE : Tryz.prog.elem 136 = 3 := by kernel_rfl
  have ht : Tryz.prog.underlying 136 = some (.array (Tryz.prog.arrayLen 136) (Tryz.prog.elem 136)) := by kernel_rfl
  rw [run_sliceAt_array_h (P := Tryz.prog) w 136 ⟨g, 0, none⟩ ht .i64 (K : Int) (by omega) (by rw [eA]; omega), eE, szInt, eA]
  have e3 : ((K : Int)).toNat = K := by omega
  simp only [Result.andThen, slicedAt, e3]
  simp [Addr.add]
set_option maxHeartbeats 6400000 in
theorem cPutHead (w0 : World) (g B : Nat) (bits : List Bool) (h : IsWriter w0 g B bits) (hbl : bits.length ≤ 1000000) (a : Option Addr) (c : Nat) (o : List Int) (hl : o.length = 19) (ho : IsInts w0 a o) (hb7 : ∀ i, 0 ≤ o.getD i 0 ∧ o.getD i 0 ≤ 7) (hf : ∀ x, a = some x → ¬ foot w0 g x.block) :
    Calls Tryz.prog 43 #[.pointer (some ⟨g, 0, none⟩), .slice a 19 c] w0 fun e w' => e = .returned (.tuple #[]) ∧ PenW w0 w' g B (bits ++ headB o) := by
  obtain ⟨Z, hZs, hz, hi⟩ := arr19
  have HSZ : Hid ((Tryz.prog.info? 136).map (·.size) = some (arrI placesI).size) := by show _ = _; rw [hi, placesA_size]
  have HZS : Hid (Z.size = (arrI placesI).size) := by show _ = _; rw [hZs, placesA_size]
  have HONE := Lib.hid (arrI_one placesI)
  have HPC := Lib.hid (fun W gs (h : PlAt W gs) i hi => h.cell i hi)
  have HPK := Lib.hid (fun (W : World) => show PlAt (W.alloc (.cells (arrI placesI) 136)) W.heap.size from heap_alloc_new W _)
  have CO := Lib.hid (fun W => cOrder13 W)
  obtain ⟨T, hTT⟩ : ∃ T, arrI placesI = T := ⟨_, rfl⟩
  rw [hTT] at HSZ HZS HONE HPK CO
  have HW0 := Lib.hid h
  have HO := Lib.hid ho
  have HF := Lib.hid hf
  have HB7 := Lib.hid hb7
  have HL := Lib.hid hl
  have hgl : g < w0.heap.size := by have := foot_lt h g (.inl rfl); exact this
  obtain ⟨xa, rfl, -, -⟩ := ho.at 0 (by omega)
  clear hi hZs hTT h ho hf hb7 hl
  go_enter Tryz.func43, Tryz.ntmps43
  go_wp2_with fail
  refine (CO.out _).mono ?_; rintro e w1 ⟨rfl, hb1⟩
  have HP1 := Lib.hid ((PenW.start HW0.out).below hb1)
  have HFI := Lib.hid (PenW.foot_iff HW0.out hb1)
  have hsz1 := hb1.size
  have HO1 := Lib.hid (HO.out.kept hb1)
  clear hb1 CO
  go_wp2_with (first
    | (refine wpList_store_row rfl 136 (.tmp 4) (.tmp 8) rfl w1.heap.size T rfl rfl 136 Z (heap_alloc_new w1 _) HSZ.out HZS.out HONE.out ?_; rw [setRow_last])
    | fail)
  have hAL : Below w1.heap.size w1 (w1.alloc (.cells T 136)) := (Below.refl _ _).alloc (Nat.le_refl _) _
  have HP2 := Lib.hid (HP1.out.below hAL)
  have HPL := Lib.hid (HPK.out w1)
  have hfi2 := PenW.foot_iff HP1.out.1 hAL
  have hfg : ¬ foot (w1.alloc (.cells T 136)) g w1.heap.size := fun e => by
    have := foot_lt HP1.out.1 _ ((hfi2 _).1 e)
    omega
  have HFO := Lib.hid (show ∀ x, some xa = some x → ¬ foot (w1.alloc (.cells T 136)) g x.block from fun x hx e => HF.out x hx ((HFI.out _).1 ((hfi2 _).1 e)))
  have HO2 := Lib.hid (HO1.out.alloc (.cells T 136))
  obtain ⟨gs, hgs⟩ : ∃ gs, w1.heap.size = gs := ⟨_, rfl⟩
  obtain ⟨w2, hw2⟩ : ∃ w2, w1.alloc (.cells T 136) = w2 := ⟨_, rfl⟩
  rw [hw2] at HP2 HPL hfg HFO HO2 ⊢
  rw [hgs] at HPL hfg ⊢
  have HFG := Lib.hid hfg
  have HST := Lib.hid (PenW.start HP2.out.1)
  have hgl2 : gs < w2.heap.size := block_lt HPL.out
  clear hAL hfi2 hfg hgs hw2 HP1 HFI HO1 HO HF HW0 HPK HSZ HZS HONE hsz1
  go_wp2_with fail
  go_loopw [5] (fun mv wr => ∃ m : Nat, mv = .int .i64 m ∧ 4 ≤ m ∧ m ≤ 19 ∧ Hid (headN o m = headN o 19) ∧ wr = w2) (fun mv _ => (intOf mv).toNat)
  case atStart => exact ⟨19, rfl, by omega, by omega, Lib.hid rfl, rfl⟩
  case round =>
    obtain ⟨m, rfl, hm4, hm19, hN, rfl⟩ := hrel
    obtain ⟨k, rfl⟩ : ∃ k, m = k + 1 := ⟨m - 1, by omega⟩
    by_cases h4 : 4 < k + 1
    · have hp19 := places_lt k (by omega)
      have cp := HPC.out _ _ HPL.out k (by omega)
      obtain ⟨xa', he, -, cxa⟩ := HO2.out.at (placesN.getD k 0) (by rw [HL.out]; exact hp19)
      injection he with he
      subst he
      have co := cxa (placesN.getD k 0) (by rw [HL.out]; exact hp19)
      have hst : headN o (k + 1) = if 4 < k + 1 ∧ o.getD (placesN.getD k 0) 0 = 0 then headN o k else k + 1 := rfl
      obtain ⟨p, hp⟩ : ∃ p, placesN.getD k 0 = p := ⟨_, rfl⟩
      rw [hp] at hp19 cp co hst
      obtain ⟨V, hV⟩ : ∃ V, o.getD p 0 = V := ⟨_, rfl⟩
      rw [hV] at co hst
      have h4i : (4 : Int) < (k : Int) + 1 := by omega
      have hw1 : IntKind.i64.wrap ((k : Int) + 1 - 1) = (k : Int) := by rw [IntKind.wrap_i64]; omega
      have hk1 : (k : Int) + 1 - 1 = (k : Int) := by omega
      have hki : (k : Int) < 19 := by omega
      have hpi : (p : Int) < 19 := by omega
      have hk0 : (0 : Int) ≤ (k : Int) := by omega
      have hp0 : (0 : Int) ≤ (p : Int) := by omega
      clear cxa hp hV
      by_cases hz0 : V = 0
      · subst hz0
        rw [if_pos ⟨h4, rfl⟩] at hst
        have HN2 := Lib.hid (hst.symm.trans hN.out)
        clear hst
        go_wp2_with fail
        exact ⟨⟨k, rfl, by omega, by omega, HN2, by first | rfl | trivial⟩, by simp [intOf]⟩
      · rw [if_neg (fun e => hz0 e.2)] at hst
        have hzb : (V == 0) = false := by rw [beq_eq_false_iff_ne]; exact hz0
        have HNN := Lib.hid (hN.out.symm.trans hst)
        clear hst hz0
        go_wp2_with fail
        rw [show ((k : Int) + 1 - 4) = ((k + 1 - 4 : Nat) : Int) by omega]
        refine (wPut wr g B bits (k + 1 - 4) 4 HST.out.1 (by decide) (by omega) (by omega)).mono ?_; rintro e w3 ⟨rfl, hp3⟩
        obtain ⟨wo, rfl⟩ : ∃ wo : World, wo = wr := ⟨_, rfl⟩
        have HP3 := Lib.hid (show PenW wo w3 g B (bits ++ headTo o (k + 1) 0) by
          have e : headTo o (k + 1) 0 = bitsOf (k + 1 - 4) 4 := by unfold headTo; simp
          rw [e]; exact hp3)
        have hk19 : (k : Int) + 1 ≤ 19 := by omega
        have hsl := fun W => slA (k + 1) gs (by omega) W
        rw [show (((k + 1 : Nat)) : Int) = (k : Int) + 1 by omega] at hsl
        clear hp3
        go_wp2_with fail
        go_loopw [31] (fun iv wr => ∃ j : Nat, iv = .int .i64 j ∧ j ≤ k + 1 ∧ Hid (PenW wo wr g B (bits ++ headTo o (k + 1) j))) (fun iv _ => (k + 1) - (intOf iv).toNat)
        case atStart => exact ⟨0, rfl, Nat.zero_le _, HP3⟩
        case round =>
          clear HP3
          obtain ⟨j, rfl, hj, hp⟩ := hrel
          by_cases hjk : j < k + 1
          · have hp19 := places_lt j (by omega)
            have cp := (hp.out.cell (p := ⟨gs, j, none⟩) hgl2 HFG.out).trans (HPC.out _ _ HPL.out j (by omega))
            obtain ⟨xa', he, -, cxa⟩ := (hp.out.ints HO2.out HFO.out).at (placesN.getD j 0) (by rw [HL.out]; exact hp19)
            injection he with he
            subst he
            have co := cxa (placesN.getD j 0) (by rw [HL.out]; exact hp19)
            have hlb := headTo_len o (k + 1) j
            have hnx := headTo_next o (k + 1) j
            have hv7 := HB7.out (placesN.getD j 0)
            have hvl : o.getD (placesN.getD j 0) 0 = ((len o (placesN.getD j 0) : Nat) : Int) := by unfold len; omega
            rw [hvl] at co
            obtain ⟨X, hX⟩ : ∃ X, len o (placesN.getD j 0) = X := ⟨_, rfl⟩
            have hX7 : X ≤ 7 := by rw [← hX]; unfold len; omega
            have hlbj : lenB o j = bitsOf X 3 := by unfold lenB; rw [hX]
            rw [hlbj] at hnx
            rw [hX] at co
            obtain ⟨p, hpp⟩ : ∃ p, placesN.getD j 0 = p := ⟨_, rfl⟩
            rw [hpp] at hp19 cp co
            have HNX := Lib.hid hnx
            have HLB := Lib.hid hlb
            have hji : (j : Int) < (k : Int) + 1 := by omega
            have hpi : (p : Int) < 19 := by omega
            have hj0 : (0 : Int) ≤ (j : Int) := by omega
            have hp0 : (0 : Int) ≤ (p : Int) := by omega
            have hu : IntKind.u64.wrap (X : Int) = (X : Int) := IntWalk.u64_in _ (by omega)
            clear cxa hnx hlb hv7 hvl hX hlbj hpp
            go_wp2_with fail
            refine (wPut wr g B (bits ++ headTo o (k + 1) j) X 3 hp.out.1 (by decide) (by omega) (by rw [List.length_append, HLB.out]; omega)).mono ?_; rintro e w5 ⟨rfl, hp5⟩
            have HP5 := Lib.hid (show PenW wo w5 g B (bits ++ headTo o (k + 1) (j + 1)) by
              rw [HNX.out, ← List.append_assoc]; exact hp.out.chain hp5)
            clear hp5
            go_wp2_with fail
            go_roundw
            case rel => exact ⟨j + 1, by go_num, by omega, HP5⟩
            case measure => simp [intOf]; omega
          · obtain rfl : j = k + 1 := by omega
            have hji : ¬ (k : Int) + 1 < (k : Int) + 1 := by omega
            have HE := Lib.hid (show headTo o (k + 1) (k + 1) = headB o by unfold headB; rw [HNN.out])
            go_wp2_with fail
            go_end0
            exact ⟨rfl, by rw [← HE.out]; exact HP2.out.chain hp.out⟩
    · have h4i : ¬ (4 : Int) < (k : Int) + 1 := by omega
      have HNN := Lib.hid (show headN o 19 = k + 1 from by
        have hk : k = 3 := by omega
        subst hk
        have := hN.out
        rw [← this]; unfold headN; rw [if_neg (fun e => h4 e.1)])
      go_wp2_with fail
      rw [show ((k : Int) + 1 - 4) = ((k + 1 - 4 : Nat) : Int) by omega]
      refine (wPut wr g B bits (k + 1 - 4) 4 HST.out.1 (by decide) (by omega) (by omega)).mono ?_; rintro e w3 ⟨rfl, hp3⟩
      obtain ⟨wo, rfl⟩ : ∃ wo : World, wo = wr := ⟨_, rfl⟩
      have HP3 := Lib.hid (show PenW wo w3 g B (bits ++ headTo o (k + 1) 0) by
        have e : headTo o (k + 1) 0 = bitsOf (k + 1 - 4) 4 := by unfold headTo; simp
        rw [e]; exact hp3)
      have hk19 : (k : Int) + 1 ≤ 19 := by omega
      have hsl := fun W => slA (k + 1) gs (by omega) W
      rw [show (((k + 1 : Nat)) : Int) = (k : Int) + 1 by omega] at hsl
      clear hp3
      go_wp2_with fail
      go_loopw [31] (fun iv wr => ∃ j : Nat, iv = .int .i64 j ∧ j ≤ k + 1 ∧ Hid (PenW wo wr g B (bits ++ headTo o (k + 1) j))) (fun iv _ => (k + 1) - (intOf iv).toNat)
      case atStart => exact ⟨0, rfl, Nat.zero_le _, HP3⟩
      case round =>
        clear HP3
        obtain ⟨j, rfl, hj, hp⟩ := hrel
        by_cases hjk : j < k + 1
        · have hp19 := places_lt j (by omega)
          have cp := (hp.out.cell (p := ⟨gs, j, none⟩) hgl2 HFG.out).trans (HPC.out _ _ HPL.out j (by omega))
          obtain ⟨xa', he, -, cxa⟩ := (hp.out.ints HO2.out HFO.out).at (placesN.getD j 0) (by rw [HL.out]; exact hp19)
          injection he with he
          subst he
          have co := cxa (placesN.getD j 0) (by rw [HL.out]; exact hp19)
          have hlb := headTo_len o (k + 1) j
          have hnx := headTo_next o (k + 1) j
          have hv7 := HB7.out (placesN.getD j 0)
          have hvl : o.getD (placesN.getD j 0) 0 = ((len o (placesN.getD j 0) : Nat) : Int) := by unfold len; omega
          rw [hvl] at co
          obtain ⟨X, hX⟩ : ∃ X, len o (placesN.getD j 0) = X := ⟨_, rfl⟩
          have hX7 : X ≤ 7 := by rw [← hX]; unfold len; omega
          have hlbj : lenB o j = bitsOf X 3 := by unfold lenB; rw [hX]
          rw [hlbj] at hnx
          rw [hX] at co
          obtain ⟨p, hpp⟩ : ∃ p, placesN.getD j 0 = p := ⟨_, rfl⟩
          rw [hpp] at hp19 cp co
          have HNX := Lib.hid hnx
          have HLB := Lib.hid hlb
          have hji : (j : Int) < (k : Int) + 1 := by omega
          have hpi : (p : Int) < 19 := by omega
          have hj0 : (0 : Int) ≤ (j : Int) := by omega
          have hp0 : (0 : Int) ≤ (p : Int) := by omega
          have hu : IntKind.u64.wrap (X : Int) = (X : Int) := IntWalk.u64_in _ (by omega)
          clear cxa hnx hlb hv7 hvl hX hlbj hpp
          go_wp2_with fail
          refine (wPut wr g B (bits ++ headTo o (k + 1) j) X 3 hp.out.1 (by decide) (by omega) (by rw [List.length_append, HLB.out]; omega)).mono ?_; rintro e w5 ⟨rfl, hp5⟩
          have HP5 := Lib.hid (show PenW wo w5 g B (bits ++ headTo o (k + 1) (j + 1)) by
            rw [HNX.out, ← List.append_assoc]; exact hp.out.chain hp5)
          clear hp5
          go_wp2_with fail
          go_roundw
          case rel => exact ⟨j + 1, by go_num, by omega, HP5⟩
          case measure => simp [intOf]; omega
        · obtain rfl : j = k + 1 := by omega
          have hji : ¬ (k : Int) + 1 < (k : Int) + 1 := by omega
          have HE := Lib.hid (show headTo o (k + 1) (k + 1) = headB o by unfold headB; rw [HNN.out])
          go_wp2_with fail
          go_end0
          exact ⟨rfl, by rw [← HE.out]; exact HP2.out.chain hp.out⟩
end Go.Proofs.YtipcdkemokkdfaaGreat
