import Derived.Test.YtmhjmoeeahepaaaGreatPP18
import Derived.Deep.LoopGhost
import Derived.Test.YtmhjmoeeahepaaaGreatPP17
import Derived.Test.YtmhjmoeeahepaaaGreatPP01
import Derived.IntWalk
import Derived.WalkLawsBesides
import Derived.Laws.BytesArg
/- Contracts of layer 1's writer: handOn and Put. -/
namespace Go.Proofs.YtmhjmoeeahepaaaGreat
open Go.ChangeShapes Go.WideShapes Go.ChangeAt Go.RowKit
set_option linter.unusedVariables false
set_option maxRecDepth 100000
open Bits

/-- A writer's block and its row, with the bits r, n behind whole bytes bs. -/
def Raw (w : World) (g B : Nat) (v : Value) (bs : List UInt8) (r n : Nat) : Prop :=
  w.heap[g]? = some (.cells #[v, .int .u64 (r : Int), .int .i64 (n : Int)] 71 (0, 0)) ∧ w.ownsRow B 5 1 v bs.length (byteCells bs) ∧ B ≤ w.heap.size ∧ bs.length ≤ 1000000000000
def HandRel (w : World) (g bx B : Nat) (v : Value) (l : List Bool) (k : Nat) (wr : World) : Prop :=
  ∃ v1 bs r n, Raw wr g B v1 bs r n ∧ n / 8 = k ∧ n ≤ 63 ∧ r < 2 ^ n ∧ spread bs ++ bitsOf r n = l ∧ (∀ j, v1.ownBlock = some j → v.ownBlock = some j ∨ w.heap.size ≤ j) ∧ Keeps (fun k => k = g ∨ v.ownBlock = some k) w wr ∧
    wr.heap[bx]? = some (.cells #[.pointer (some ⟨g, 0, none⟩)] 43 (0, 0)) ∧ bs.length + k ≤ 1000000000000
def HandPost (w : World) (g B : Nat) (v : Value) (l : List Bool) (e : Ending) (w' : World) : Prop :=
  e = .returned (.tuple #[]) ∧ ∃ v1 bs r n, Raw w' g B v1 bs r n ∧ n < 8 ∧ r < 2 ^ n ∧ spread bs ++ bitsOf r n = l ∧ (∀ j, v1.ownBlock = some j → v.ownBlock = some j ∨ w.heap.size ≤ j) ∧ Keeps (fun k => k = g ∨ v.ownBlock = some k) w w'
theorem spread_step (bs : List UInt8) (r n : Nat) (l : List Bool) (h : spread bs ++ bitsOf r (n + 8) = l) : spread (bs ++ [UInt8.ofNat (r % 256)]) ++ bitsOf (r / 256) n = l := by
  rw [spread_append, List.append_assoc, ← h]
  congr 1
  rw [Nat.add_comm, bitsOf_add]
  simp only [spread, List.append_nil]
  congr 1
  rw [← bitsOf_mod r 8]
  congr 1
  simp
theorem low_byte (r : Nat) : (((UInt8.ofNat (r % 256)).toNat : Nat) : Int) = (r : Int) % 256 := by
  simp
theorem hand_step {w wr w1 : World} {g bx B : Nat} {v v1 : Value} {bs : List UInt8} {r n k j cap : Nat} {l : List Bool} {r' n' : Int} (h8 : 8 ≤ n) (hn : n ≤ 63) (hr : r < 2 ^ n) (hsp : spread bs ++ bitsOf r n = l) (hB : B ≤ wr.heap.size) (hk : n / 8 = k) (hbk : bs.length + k ≤ 1000000000000)
    (hv : ∀ j, v1.ownBlock = some j → v.ownBlock = some j ∨ w.heap.size ≤ j) (hkp : Keeps (fun k => k = g ∨ v.ownBlock = some k) w wr) (hown : wr.ownsRow B 5 1 v1 bs.length (byteCells bs))
    (hbx : wr.heap[bx]? = some (.cells #[.pointer (some ⟨g, 0, none⟩)] 43 (0, 0))) (hg : wr.heap[g]? = some (.cells #[v1, .int .u64 (r : Int), .int .i64 (n : Int)] 71 (0, 0)))
    (hg1 : w1.heap[g]? = some (.cells #[.slice (some ⟨j, 0, none⟩) (bs.length + 1) cap, .int .u64 (r : Int), .int .i64 (n : Int)] 71 (0, 0)))
    (hown1 : w1.ownsRow B 5 1 (.slice (some ⟨j, 0, none⟩) (bs.length + 1) cap) (bs ++ [UInt8.ofNat (r % 256)]).length (byteCells (bs ++ [UInt8.ofNat (r % 256)]))) (hj : v1.ownBlock = some j ∨ wr.heap.size ≤ j)
    (hk1 : Keeps (fun k => k = g ∨ v1.ownBlock = some k) wr w1) (er : r' = ((r / 256 : Nat) : Int)) (en : n' = ((n - 8 : Nat) : Int)) :
    HandRel w g bx B v l (k - 1) ((w1.setCell ⟨g, 1, none⟩ (.int .u64 r')).setCell ⟨g, 2, none⟩ (.int .i64 n')) := by
  subst er en
  have hs := hkp.size
  have hs1 := hk1.size
  refine ⟨.slice (some ⟨j, 0, none⟩) (bs.length + 1) cap, bs ++ [UInt8.ofNat (r % 256)], r / 256, n - 8, ⟨block_set (block_set hg1 1 _) 2 _, ?_, by simp; omega, by simp; omega⟩, by omega, by omega, ?_, spread_step bs r (n - 8) l (by rw [Nat.sub_add_cancel h8]; exact hsp), ?_, ?_, ?_, by simp; omega⟩
  · have hne : (Value.slice (some ⟨j, 0, none⟩) (bs.length + 1) cap).ownBlock ≠ some g := own_ne hown1 hg1 (by decide)
    exact ownsRow_setCell_other (ownsRow_setCell_other hown1 (a := ⟨g, 1, none⟩) hne _) (a := ⟨g, 2, none⟩) hne _
  · have e : 2 ^ n = 256 * 2 ^ (n - 8) := by rw [show (256 : Nat) = 2 ^ 8 from rfl, ← Nat.pow_add, show 8 + (n - 8) = n from by omega]
    rw [e] at hr
    exact Nat.div_lt_of_lt_mul hr
  · intro i hi
    simp [Value.ownBlock] at hi
    subst hi
    rcases hj with hj | hj
    · exact hv _ hj
    · right; omega
  · have k2 := hkp.trans' hk1 (fun i hi h => by
      rcases h with h | h
      · exact .inl h
      · rcases hv i h with h | h
        · exact .inr h
        · omega)
    exact (k2.setCell (p := ⟨g, 1, none⟩) (.inr (.inl rfl)) _).setCell (p := ⟨g, 2, none⟩) (.inr (.inl rfl)) _
  · have hne : bx ≠ g := by
      rintro rfl
      rw [hbx] at hg
      simp at hg
    have h1 := hk1.heap hbx (by
      rintro (h | h)
      · exact hne h
      · exact own_ne hown hbx (by decide) h)
    rw [Below.heap_setCell _ _ _ _ hne, Below.heap_setCell _ _ _ _ hne]
    exact h1
set_option maxHeartbeats 1600000 in
theorem wHandOn (w : World) (g bx B : Nat) (v : Value) (bs : List UInt8) (r n : Nat) (h : Raw w g B v bs r n) (hn : n ≤ 63) (hr : r < 2 ^ n) (hl : bs.length + n / 8 ≤ 1000000000000)
    (hbx : w.heap[bx]? = some (.cells #[.pointer (some ⟨g, 0, none⟩)] 43 (0, 0))) :
    Calls Tryz.prog 63 #[.pointer (some ⟨g, 0, none⟩), .func (.func 64) #[] #[.pointer (some ⟨bx, 0, none⟩)]] w (HandPost w g B v (spread bs ++ bitsOf r n)) := by
  have h0 : HandRel w g bx B v (spread bs ++ bitsOf r n) (n / 8) w := ⟨v, bs, r, n, h, rfl, hn, hr, rfl, fun j hj => .inl hj, Keeps.refl _ _, hbx, hl⟩
  have H0 := Lib.hid h0
  obtain ⟨l, hl⟩ : ∃ l, spread bs ++ bitsOf r n = l := ⟨_, rfl⟩
  rw [hl] at H0 ⊢
  clear h0 h hl hr hbx
  go_enter Tryz.func63, Tryz.ntmps63
  go_wp2
  go_loopg [] (n / 8) (fun k wr => HandRel w g bx B v l k wr)
  case atStart => exact H0.out
  case round =>
    obtain ⟨v1, bs1, r1, n1, ⟨hg, hown, hB, hbl⟩, hk, hn1, hr1, hsp, hv, hkp, hbx, hbk⟩ := hrel
    have c0 := cell_in hg 0
    have c1 := cell_in hg 1
    have c2 := cell_in hg 2
    have f1 := free_in hg 1
    have f2 := free_in hg 2
    simp at c0 c1 c2
    by_cases h8 : 8 ≤ n1
    · have HT := Lib.hid (wTake wr g bx B v1 (.int .u64 r1) (.int .i64 n1) bs1 (UInt8.ofNat (r1 % 256)) hbx hg hown hB hbl)
      rw [low_byte] at HT
      have HG := Lib.hid hg; have HO := Lib.hid hown; have HR := Lib.hid hr1; have HS := Lib.hid hsp; have HX := Lib.hid hbx; have HK := Lib.hid hk; have HV := Lib.hid hv
      clear hg hown hr1 hsp hbx hk hv
      go_wp2_with fail
      refine HT.out.mono ?_; rintro e w1 ⟨rfl, j, cap, hg1, hown1, hj, hk1⟩
      have d0 := cell_in hg1 0
      have d1 := cell_in hg1 1
      have d2 := cell_in hg1 2
      have e1 := free_in hg1 1
      have e2 := free_in hg1 2
      simp at d0 d1 d2
      have HG1 := Lib.hid hg1
      clear hg1
      go_wp2_with fail
      have hpos : 0 < gk := by rw [← HK.out]; omega
      go_roundg (gk - 1)
      case rel => exact hand_step h8 hn1 HR.out HS.out hB HK.out hbk HV.out hkp HO.out HX.out HG.out HG1.out hown1 hj hk1 (by omega) (by omega)
      case measure => omega
    · go_wp2_with fail
      go_end0
      exact ⟨rfl, v1, bs1, r1, n1, ⟨hg, hown, hB, hbl⟩, by omega, hr1, hsp, hv, hkp⟩
end Go.Proofs.YtmhjmoeeahepaaaGreat

/- Words on bits of unsigned numbers of 64. -/
namespace Go.Proofs.YtmhjmoeeahepaaaGreat
open Go.ChangeShapes Go.WideShapes Go.ChangeAt Go.RowKit
set_option linter.unusedVariables false
set_option maxRecDepth 100000
open Bits
theorem wrap_u64_nat (n : Nat) (h : n < 2 ^ 64) : IntKind.u64.wrap (n : Int) = (n : Int) := IntWalk.u64_in _ (by omega)
theorem or_u64 (x y : Nat) (hx : x < 2 ^ 64) (hy : y < 2 ^ 64) : bits .or .u64 (x : Int) (y : Int) = ((x ||| y : Nat) : Int) :=
  (bits_nat .u64 64 (by decide) (fun n h1 h2 => IntWalk.u64_in n (by omega)) x y hx hy).2
theorem and_u64 (x y : Nat) (hx : x < 2 ^ 64) (hy : y < 2 ^ 64) : bits .and .u64 (x : Int) (y : Int) = ((x &&& y : Nat) : Int) :=
  (bits_nat .u64 64 (by decide) (fun n h1 h2 => IntWalk.u64_in n (by omega)) x y hx hy).1
def lack (a : Nat) : Nat := (8 - a % 8) % 8
theorem below_keeps {w w1 w2 : World} {g : Nat} (hb : Below w.heap.size w w1) (hk : Keeps (fun k => k = g) w1 w2) (hg : w.heap.size ≤ g) : Below w.heap.size w w2 :=
  hb.trans (hk.below (fun k hk' => ⟨Nat.lt_of_lt_of_le hk' hb.size, fun e => by omega⟩))
end Go.Proofs.YtmhjmoeeahepaaaGreat

/- Contracts of layer 1's writer: Put, Align, Len, Bytes. -/
namespace Go.Proofs.YtmhjmoeeahepaaaGreat
open Go.ChangeShapes Go.WideShapes Go.ChangeAt Go.RowKit
set_option linter.unusedVariables false
set_option maxRecDepth 100000
open Bits

def IsWriter (w : World) (g B : Nat) (l : List Bool) : Prop := ∃ v bs r n, Raw w g B v bs r n ∧ n < 8 ∧ r < 2 ^ n ∧ spread bs ++ bitsOf r n = l
/-- The blocks that a writer has. -/
def foot (w : World) (g k : Nat) : Prop := k = g ∨ ∃ v, w.cell? ⟨g, 0, none⟩ = some v ∧ v.ownBlock = some k
theorem wPutNone (x n : Int) (w : World) : Calls Tryz.prog 35 #[.pointer none, .int .u64 x, .int .i64 n] w fun e w' => e = .returned (.int .i64 1) ∧ Below w.heap.size w w' := by
  go_enter Tryz.func35, Tryz.ntmps35
  go_wp2
  go_ret
  exact ⟨rfl, by go_grown⟩
theorem wPutOut (p : Addr) (x : Nat) (n : Int) (h : n < 0 ∨ 56 < n ∨ (0 ≤ n ∧ 2 ^ n.toNat ≤ x)) (hx : x < 2 ^ 64) (w : World) : Calls Tryz.prog 35 #[.pointer (some p), .int .u64 x, .int .i64 n] w fun e w' => e = .returned (.int .i64 2) ∧ Below w.heap.size w w' := by
  by_cases h1 : n < 0
  · go_enter Tryz.func35, Tryz.ntmps35
    go_wp2
    go_ret
    exact ⟨rfl, by go_grown⟩
  · by_cases h2 : 56 < n
    · go_enter Tryz.func35, Tryz.ntmps35
      go_wp2
      go_ret
      exact ⟨rfl, by go_grown⟩
    · obtain ⟨m, rfl⟩ : ∃ m : Nat, n = m := ⟨n.toNat, by omega⟩
      have hq : 2 ^ m ≤ x := by
        rcases h with h | h | h
        · omega
        · omega
        · simpa using h.2
      have h3 : 1 ≤ x / 2 ^ m := (Nat.one_le_div_iff (Nat.pow_pos (by decide))).2 hq
      have e3 : (((x : Int) / 2 ^ m) == 0) = false := by
        rw [beq_eq_false_iff_ne]
        have : (x : Int) / 2 ^ m = ((x / 2 ^ m : Nat) : Int) := by simp
        rw [this]; omega
      have e4 : (((x : Int) / 2 ^ m) != 0) = true := by rw [bne, e3]; rfl
      clear h hq h3 hx
      go_enter Tryz.func35, Tryz.ntmps35
      go_wp2
      go_ret
      exact ⟨rfl, by go_grown⟩
def PutPost (w : World) (g B : Nat) (l : List Bool) (e : Ending) (w' : World) : Prop :=
  e = .returned (.int .i64 0) ∧ IsWriter w' g B l ∧ Keeps (foot w g) w w' ∧ ∀ k, foot w' g k → foot w g k ∨ w.heap.size ≤ k
theorem heap_alloc_drew (X : World) (o : Obj) (n : Nat) (h : n = X.heap.size) : (X.alloc o).drew.heap[n]? = some o := by subst h; exact heap_alloc_new X o
theorem put_lt (r x m n : Nat) (hr : r < 2 ^ m) (hx : x < 2 ^ n) : r + x * 2 ^ m < 2 ^ (m + n) := by
  have h1 : (x + 1) * 2 ^ m ≤ 2 ^ n * 2 ^ m := Nat.mul_le_mul_right _ hx
  rw [Nat.add_mul] at h1
  rw [Nat.add_comm m n, Nat.pow_add]
  omega
theorem put_or (r x m n : Nat) (hr : r < 2 ^ m) (hm : m < 8) (hx : x < 2 ^ n) (hn : n ≤ 56) : bits .or .u64 (r : Int) (IntKind.u64.wrap ((x : Int) * 2 ^ m)) = ((r + x * 2 ^ m : Nat) : Int) := by
  have h1 := put_lt r x m n hr hx
  have h2 : 2 ^ (m + n) ≤ 2 ^ 64 := Nat.pow_le_pow_right (by decide) (by omega)
  have e1 : (x : Int) * 2 ^ m = ((x * 2 ^ m : Nat) : Int) := by simp
  rw [e1, wrap_u64_nat _ (by omega), or_u64 _ _ (by omega) (by omega)]
  congr 1
  rw [Nat.or_comm, Nat.mul_comm, ← Nat.two_pow_add_eq_or_of_lt hr]; omega
/-- The writer's block behind both stores, and the rest as it was. -/
theorem put_mid {w : World} {g B : Nat} {v : Value} {bs : List UInt8} {r n : Nat} {r' n' : Nat} (h : Raw w g B v bs r n) :
    Raw (((w.setCell ⟨g, 1, none⟩ (.int .u64 (r' : Int))).setCell ⟨g, 2, none⟩ (.int .i64 (n' : Int))).alloc (.cells #[.pointer (some ⟨g, 0, none⟩)] 43)).drew g B v bs r' n' := by
  obtain ⟨hg, hown, hB, hbl⟩ := h
  have hne := own_ne hown hg (by decide)
  refine ⟨heap_old (block_set (block_set hg 1 _) 2 _) _, ?_, by simp; omega, hbl⟩
  exact (ownsRow_setCell_other (ownsRow_setCell_other hown (a := ⟨g, 1, none⟩) hne _) (a := ⟨g, 2, none⟩) hne _).alloc _
set_option maxHeartbeats 1600000 in
theorem wPut (w : World) (g B : Nat) (l : List Bool) (x n : Nat) (h : IsWriter w g B l) (hn : n ≤ 56) (hx : x < 2 ^ n) (hl : l.length + n ≤ 1000000000000) :
    Calls Tryz.prog 35 #[.pointer (some ⟨g, 0, none⟩), .int .u64 x, .int .i64 n] w (PutPost w g B (l ++ bitsOf x n)) := by
  obtain ⟨v, bs, r, m, ⟨hg, hown, hB, hbl⟩, hm, hr, hsp⟩ := h
  have c0 := cell_in hg 0
  have c1 := cell_in hg 1
  have c2 := cell_in hg 2
  have f1 := free_in hg 1
  have f2 := free_in hg 2
  simp at c0 c1 c2
  have hgl := block_lt hg
  have e3 : (((x : Int) / 2 ^ n) != 0) = false := by
    have : (x : Int) / 2 ^ n = ((x / 2 ^ n : Nat) : Int) := by simp
    rw [this, Nat.div_eq_of_lt hx]; rfl
  have HW : Hid (Raw w g B v bs r m) := ⟨hg, hown, hB, hbl⟩
  have HR := Lib.hid hr; have HS := Lib.hid hsp; have HX := Lib.hid hx; have HL := Lib.hid hl
  clear hg hown hr hsp hx hl
  go_enter Tryz.func35, Tryz.ntmps35
  go_wp2_with fail
  go_region
  all_goals go_wp2_with fail
  rw [put_or r x m n HR.out hm HX.out hn, show (m : Int) + (n : Int) = ((m + n : Nat) : Int) from by omega]
  have hR := put_mid (r' := r + x * 2 ^ m) (n' := m + n) HW.out
  refine (wHandOn _ g w.heap.size B v bs (r + x * 2 ^ m) (m + n) hR (by omega) (put_lt r x m n HR.out HX.out) (by rw [← HS.out, List.length_append, spread_length, bitsOf_length] at HL; have := HL.out; omega) ?_).mono ?_
  · exact heap_alloc_drew _ _ _ (by simp)
  rintro e w1 ⟨rfl, v1, bs1, r1, n1, hR1, hn1, hr1, hs1, hv1, hk1⟩
  have H1 := Lib.hid hR1
  have HS1 := Lib.hid hs1; have HR1 := Lib.hid hr1
  clear hR1 hs1 hr1 hR
  go_wp2_with fail
  go_ret
  refine ⟨rfl, ⟨v1, bs1, r1, n1, H1.out, hn1, HR1.out, ?_⟩, ?_, ?_⟩
  · rw [HS1.out, bitsOf_join r x m n HR.out, ← List.append_assoc, HS.out]
  · have k0 : Keeps (fun k => k = g) w (((w.setCell ⟨g, 1, none⟩ (.int .u64 ((r + x * 2 ^ m : Nat) : Int))).setCell ⟨g, 2, none⟩ (.int .i64 ((m + n : Nat) : Int))).alloc (.cells #[.pointer (some ⟨g, 0, none⟩)] 43)).drew :=
      ((((Keeps.refl (fun k => k = g) w).setCell (p := ⟨g, 1, none⟩) (.inr rfl) _).setCell (p := ⟨g, 2, none⟩) (.inr rfl) _).alloc _).drew
    refine (k0.mono (fun k _ h => show foot w g k from .inl h)).trans' hk1 (fun j _ h => ?_)
    rcases h with h | h
    · exact .inl h
    · exact .inr ⟨v, c0, h⟩
  · intro k hk
    rcases hk with hk | ⟨v', hv', hb⟩
    · exact .inl (.inl hk)
    · rw [cell_in H1.out.1 0] at hv'
      simp at hv'
      subst hv'
      rcases hv1 k hb with h | h
      · exact .inl (.inr ⟨v, c0, h⟩)
      · right; simp at h; omega
end Go.Proofs.YtmhjmoeeahepaaaGreat

/- Contracts of layer 1's writer: New, Align, Len, Bytes; awake. -/
namespace Go.Proofs.YtmhjmoeeahepaaaGreat
open Go.ChangeShapes Go.WideShapes Go.ChangeAt Go.RowKit
set_option linter.unusedVariables false
set_option maxRecDepth 100000
open Bits

theorem wNew (w : World) : Calls Tryz.prog 21 #[] w fun e w' => e = .returned (.pointer (some ⟨w.heap.size, 0, none⟩)) ∧ IsWriter w' w.heap.size w.heap.size [] ∧ Below w.heap.size w w' ∧ w'.heap.size = w.heap.size + 1 ∧ ∀ k, foot w' w.heap.size k → w.heap.size ≤ k := by
  go_enter Tryz.func21, Tryz.ntmps21
  go_wp2
  go_ret
  refine ⟨rfl, ⟨.slice none 0 0, [], 0, 0, ⟨heap_alloc_new w _, World.ownsRow_nil _ _ _ _, by simp, by simp⟩, by decide, by decide, rfl⟩, by go_grown, by simp, ?_⟩
  intro k hk
  rcases hk with hk | ⟨v, hv, hb⟩
  · omega
  · rw [cell_in (heap_alloc_new w _) 0] at hv
    simp at hv
    subst hv
    simp [Value.ownBlock] at hb
theorem conv_one (X : World) (k r : Nat) (hr : r < 256) (hX : X.cell? ⟨k, 0, none⟩ = some (.int .u8 (r : Int))) : (convert 40 9 (.slice (some ⟨k, 0, none⟩) 1 1)).run Tryz.prog X = .ok (.string ⟨#[UInt8.ofNat r]⟩) X := by
  have h := run_convert_bytes_back (P := Tryz.prog) X 40 9 5 ⟨k, 0, none⟩ 1 [UInt8.ofNat r] Tryz.underlying40 Tryz.underlying5 Tryz.underlying9 (fun j hj => by
    have hj0 : j = 0 := by simpa using hj
    subst hj0
    have e : (⟨k, 0, none⟩ : Addr).add 0 = ⟨k, 0, none⟩ := by simp [Addr.add]
    rw [e, hX]
    simp
    omega)
  simpa using h
theorem wLen (w : World) (g B : Nat) (l : List Bool) (h : IsWriter w g B l) : Calls Tryz.prog 20 #[.pointer (some ⟨g, 0, none⟩)] w fun e w' => e = .returned (.int .i64 l.length) ∧ ∃ k, w' = w.drewN k := by
  obtain ⟨v, bs, r, n, ⟨hg, hown, hB, hbl⟩, hm, hr, hsp⟩ := h
  have c0 := cell_in hg 0
  have c2 := cell_in hg 2
  simp at c0 c2
  have HE : Hid (8 * (bs.length : Int) + (n : Int) = (l.length : Int)) := by
    show _ = _
    rw [← hsp, List.length_append, spread_length, bitsOf_length]; omega
  have hw := hown.2
  clear hsp hr hg
  rcases hw with ⟨rfl, h0⟩ | ⟨k, cap, cur, rfl, hbk, hk, hnc, hcm, hcs, htake⟩
  · rw [h0] at HE
    clear hown h0 hbl
    go_enter Tryz.func20, Tryz.ntmps20
    go_wp2
    go_quiet (fail)
    go_wp2
    go_ret
    exact ⟨ret_i (by have := HE.out; simpa using this), _, rfl⟩
  · clear hown hk htake hcs
    go_enter Tryz.func20, Tryz.ntmps20
    go_wp2
    go_quiet (fail)
    go_wp2
    go_ret
    exact ⟨ret_i HE.out, _, rfl⟩
theorem wLenNone (w : World) : Calls Tryz.prog 20 #[.pointer none] w fun e w' => e = .returned (.int .i64 0) ∧ w' = w := by
  go_enter Tryz.func20, Tryz.ntmps20
  go_wp2
  go_ret
  exact ⟨rfl, rfl⟩
theorem wAlignNone (w : World) : Calls Tryz.prog 16 #[.pointer none] w fun e w' => e = .returned (.int .i64 0) ∧ w' = w := by
  go_enter Tryz.func16, Tryz.ntmps16
  go_wp2
  go_ret
  exact ⟨rfl, rfl⟩
theorem wBytesNone (w : World) : Calls Tryz.prog 17 #[.pointer none] w fun e w' => e = .returned (.string ⟨#[]⟩) ∧ w' = w := by
  go_enter Tryz.func17, Tryz.ntmps17
  go_wp2
  go_ret
  exact ⟨rfl, rfl⟩
theorem pack_whole (bs : List UInt8) (r n : Nat) (hn : n = 0) : pack (spread bs ++ bitsOf r n) = bs := by
  subst hn; rw [pack_spread]; simp [bitsOf, pack_nil]
theorem pack_rest (bs : List UInt8) (r n : Nat) (h0 : 0 < n) (h8 : n < 8) (hr : r < 2 ^ n) : pack (spread bs ++ bitsOf r n) = bs ++ [UInt8.ofNat r] := by
  rw [pack_spread, pack_few _ (by intro h; have := congrArg List.length h; rw [bitsOf_length] at this; simp at this; omega) (by rw [bitsOf_length]; omega), wordOf_bitsOf, Nat.mod_eq_of_lt hr]
theorem wBytes (w : World) (g B : Nat) (l : List Bool) (h : IsWriter w g B l) : Calls Tryz.prog 17 #[.pointer (some ⟨g, 0, none⟩)] w fun e w' => e = .returned (.string ⟨(pack l).toArray⟩) ∧ Below w.heap.size w w' := by
  obtain ⟨v, bs, r, n, ⟨hg, hown, hB, hbl⟩, hm, hr, hsp⟩ := h
  have c0 := cell_in hg 0
  have c1 := cell_in hg 1
  have c2 := cell_in hg 2
  simp at c0 c1 c2
  have hr7 : r < 128 := Nat.lt_of_lt_of_le hr (show 2 ^ n ≤ 2 ^ 7 from Nat.pow_le_pow_right (by decide) (by omega))
  have hgl := block_lt hg
  have hw := hown.2
  rcases hw with ⟨rfl, h0⟩ | ⟨k, cap, cur, rfl, hbk, hk, hnc, hcm, hcs, htake⟩
  · have hcv : ∀ w, (convert 40 9 (.slice none 0 0)).run Tryz.prog w = .ok (.string ByteArray.empty) w := fun w => run_convert_bytes_nil (w := w) 40 5 Tryz.underlying40 Tryz.underlying5 0 0 9 Tryz.underlying9
    have hc2 := fun X => conv_one X w.heap.size r (by omega)
    obtain rfl : bs = [] := List.eq_nil_of_length_eq_zero h0
    have HR := Lib.hid hr
    clear hown hg h0 hr hbl
    by_cases hn0 : n = 0
    · have HP := Lib.hid (pack_whole [] r n hn0)
      rw [hsp] at HP
      subst hn0
      clear hsp
      go_enter Tryz.func17, Tryz.ntmps17
      go_wp2
      go_ret
      rw [HP.out]
      exact ⟨rfl, Below.refl _ _⟩
    · have hn1 : ((n : Int) == 0) = false := by rw [beq_eq_false_iff_ne]; omega
      go_enter Tryz.func17, Tryz.ntmps17
      go_wp2
      have HP := Lib.hid (pack_rest [] r n (by omega) hm HR.out)
      rw [hsp] at HP
      clear hsp
      go_region
      all_goals go_wp2
      all_goals go_ret
      all_goals rw [HP.out]
      all_goals exact ⟨rfl, by go_grown⟩
  · have hby : ∀ X : World, X.heap[k]? = some (.cells cur 5 (0, 0)) → (convert 40 9 (.slice (some ⟨k, 0, none⟩) bs.length cap)).run Tryz.prog X = .ok (.string ⟨bs.toArray⟩) X := fun X hX =>
      run_convert_bytes_back (P := Tryz.prog) X 40 9 5 ⟨k, 0, none⟩ cap bs Tryz.underlying40 Tryz.underlying5 Tryz.underlying9 (fun j hj => by
        refine cells_of (cs := byteCells bs) (off := 0) (fun i hi => ?_) j _ (by simp [byteCells, hj])
        have hi' : i < bs.length := by simpa [byteCells] using hi
        rw [cell_in hX, Nat.zero_add, ← htake, List.getElem?_take, if_pos (by omega)]
        simp)
    have hadd : ∀ X : World, (Op.stringOp .add ⟨bs.toArray⟩ ⟨#[UInt8.ofNat r]⟩).run Tryz.prog X = .ok (.string ⟨(bs ++ [UInt8.ofNat r]).toArray⟩) X := fun X => by
      have h := run_string_add_sum (P := Tryz.prog) X ⟨bs.toArray⟩ ⟨[UInt8.ofNat r].toArray⟩ (by simp [ByteArray.size]; omega)
      rw [ByteArray.mk_append_mk] at h
      exact h
    have q0 := hby w hk
    have q1 := hby w.drew hk
    have q2 := hby (w.alloc (.cells #[.int .u8 (r : Int)] 5)).drew (heap_old hk _)
    have hc2 := fun X => conv_one X w.heap.size r (by omega)
    have HR := Lib.hid hr
    clear hown hg hr hbl hby htake hcs hk
    by_cases hn0 : n = 0
    · have HP := Lib.hid (pack_whole bs r n hn0)
      rw [hsp] at HP
      subst hn0
      clear hsp
      go_enter Tryz.func17, Tryz.ntmps17
      go_wp2
      go_ret
      rw [HP.out]
      exact ⟨rfl, Below.refl _ _⟩
    · have hn1 : ((n : Int) == 0) = false := by rw [beq_eq_false_iff_ne]; omega
      have HP := Lib.hid (pack_rest bs r n (by omega) hm HR.out)
      rw [hsp] at HP
      clear hsp
      go_enter Tryz.func17, Tryz.ntmps17
      go_wp2
      go_region
      all_goals go_wp2
      all_goals go_ret
      all_goals rw [HP.out]
      go_goals
      all_goals exact ⟨by first | rfl | (simp; done), by go_grown⟩
end Go.Proofs.YtmhjmoeeahepaaaGreat
