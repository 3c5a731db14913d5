/- Contracts of layer 1's writer: handOn and Put. -/
import Derived.Test.YtplopddlpoffoaaBw
import Derived.Deep.LoopGhost
namespace Go.Proofs.Ytplopddlpoffoaa
open Go.ChangeShapes Go.WideShapes Go.ChangeAt Go.RowKit
set_option linter.unusedVariables false
set_option maxRecDepth 100000
open Bits

/-- A writer's block and its row, with the bits r, n behind whole bytes bs. -/
def Raw (w : World) (g B : Nat) (v : Value) (bs : List UInt8) (r n : Nat) : Prop :=
  w.heap[g]? = some (.cells #[v, .int .u64 (r : Int), .int .i64 (n : Int)] 108 (0, 0)) ∧ w.ownsRow B 5 1 v bs.length (byteCells bs) ∧ B ≤ w.heap.size ∧ bs.length ≤ 1000000000000
def HandRel (w : World) (g bx B : Nat) (v : Value) (l : List Bool) (k : Nat) (wr : World) : Prop :=
  ∃ v1 bs r n, Raw wr g B v1 bs r n ∧ n / 8 = k ∧ n ≤ 63 ∧ r < 2 ^ n ∧ spread bs ++ bitsOf r n = l ∧ (∀ j, v1.ownBlock = some j → v.ownBlock = some j ∨ w.heap.size ≤ j) ∧ Keeps (fun k => k = g ∨ v.ownBlock = some k) w wr ∧
    wr.heap[bx]? = some (.cells #[.pointer (some ⟨g, 0, none⟩)] 78 (0, 0)) ∧ bs.length + k ≤ 1000000000000
def HandPost (w : World) (g B : Nat) (v : Value) (l : List Bool) (e : Ending) (w' : World) : Prop :=
  e = .returned (.tuple #[]) ∧ ∃ v1 bs r n, Raw w' g B v1 bs r n ∧ n < 8 ∧ r < 2 ^ n ∧ spread bs ++ bitsOf r n = l ∧ (∀ j, v1.ownBlock = some j → v.ownBlock = some j ∨ w.heap.size ≤ j) ∧ Keeps (fun k => k = g ∨ v.ownBlock = some k) w w'
theorem spread_step (bs : List UInt8) (r n : Nat) (l : List Bool) (h : spread bs ++ bitsOf r (n + 8) = l) : spread (bs ++ [UInt8.ofNat (r % 256)]) ++ bitsOf (r / 256) n = l := by
  rw [spread_append, List.append_assoc, ← h]
  congr 1
  rw [Nat.add_comm, bitsOf_add]
  simp only [spread, List.append_nil]
  congr 1
  rw [← bitsOf_mod r 8]
  congr 1
  simp
theorem low_byte (r : Nat) : (((UInt8.ofNat (r % 256)).toNat : Nat) : Int) = (r : Int) % 256 := by
  simp
theorem hand_step {w wr w1 : World} {g bx B : Nat} {v v1 : Value} {bs : List UInt8} {r n k j cap : Nat} {l : List Bool} {r' n' : Int} (h8 : 8 ≤ n) (hn : n ≤ 63) (hr : r < 2 ^ n) (hsp : spread bs ++ bitsOf r n = l) (hB : B ≤ wr.heap.size) (hk : n / 8 = k) (hbk : bs.length + k ≤ 1000000000000)
    (hv : ∀ j, v1.ownBlock = some j → v.ownBlock = some j ∨ w.heap.size ≤ j) (hkp : Keeps (fun k => k = g ∨ v.ownBlock = some k) w wr) (hown : wr.ownsRow B 5 1 v1 bs.length (byteCells bs))
    (hbx : wr.heap[bx]? = some (.cells #[.pointer (some ⟨g, 0, none⟩)] 78 (0, 0))) (hg : wr.heap[g]? = some (.cells #[v1, .int .u64 (r : Int), .int .i64 (n : Int)] 108 (0, 0)))
    (hg1 : w1.heap[g]? = some (.cells #[.slice (some ⟨j, 0, none⟩) (bs.length + 1) cap, .int .u64 (r : Int), .int .i64 (n : Int)] 108 (0, 0)))
    (hown1 : w1.ownsRow B 5 1 (.slice (some ⟨j, 0, none⟩) (bs.length + 1) cap) (bs ++ [UInt8.ofNat (r % 256)]).length (byteCells (bs ++ [UInt8.ofNat (r % 256)]))) (hj : v1.ownBlock = some j ∨ wr.heap.size ≤ j)
    (hk1 : Keeps (fun k => k = g ∨ v1.ownBlock = some k) wr w1) (er : r' = ((r / 256 : Nat) : Int)) (en : n' = ((n - 8 : Nat) : Int)) :
    HandRel w g bx B v l (k - 1) ((w1.setCell ⟨g, 1, none⟩ (.int .u64 r')).setCell ⟨g, 2, none⟩ (.int .i64 n')) := by
  subst er en
  have hs := hkp.size
  have hs1 := hk1.size
  refine ⟨.slice (some ⟨j, 0, none⟩) (bs.length + 1) cap, bs ++ [UInt8.ofNat (r % 256)], r / 256, n - 8, ⟨block_set (block_set hg1 1 _) 2 _, ?_, by simp; omega, by simp; omega⟩, by omega, by omega, ?_, spread_step bs r (n - 8) l (by rw [Nat.sub_add_cancel h8]; exact hsp), ?_, ?_, ?_, by simp; omega⟩
  · have hne : (Value.slice (some ⟨j, 0, none⟩) (bs.length + 1) cap).ownBlock ≠ some g := own_ne hown1 hg1 (by decide)
    exact ownsRow_setCell_other (ownsRow_setCell_other hown1 (a := ⟨g, 1, none⟩) hne _) (a := ⟨g, 2, none⟩) hne _
  · have e : 2 ^ n = 256 * 2 ^ (n - 8) := by rw [show (256 : Nat) = 2 ^ 8 from rfl, ← Nat.pow_add, show 8 + (n - 8) = n from by omega]
    rw [e] at hr
    exact Nat.div_lt_of_lt_mul hr
  · intro i hi
    simp [Value.ownBlock] at hi
    subst hi
    rcases hj with hj | hj
    · exact hv _ hj
    · right; omega
  · have k2 := hkp.trans' hk1 (fun i hi h => by
      rcases h with h | h
      · exact .inl h
      · rcases hv i h with h | h
        · exact .inr h
        · omega)
    exact (k2.setCell (p := ⟨g, 1, none⟩) (.inr (.inl rfl)) _).setCell (p := ⟨g, 2, none⟩) (.inr (.inl rfl)) _
  · have hne : bx ≠ g := by
      rintro rfl
      rw [hbx] at hg
      simp at hg
    have h1 := hk1.heap hbx (by
      rintro (h | h)
      · exact hne h
      · exact own_ne hown hbx (by decide) h)
    rw [Below.heap_setCell _ _ _ _ hne, Below.heap_setCell _ _ _ _ hne]
    exact h1
set_option maxHeartbeats 1600000 in
theorem wHandOn (w : World) (g bx B : Nat) (v : Value) (bs : List UInt8) (r n : Nat) (h : Raw w g B v bs r n) (hn : n ≤ 63) (hr : r < 2 ^ n) (hl : bs.length + n / 8 ≤ 1000000000000)
    (hbx : w.heap[bx]? = some (.cells #[.pointer (some ⟨g, 0, none⟩)] 78 (0, 0))) :
    Calls Try.prog 57 #[.pointer (some ⟨g, 0, none⟩), .func (.func 58) #[] #[.pointer (some ⟨bx, 0, none⟩)]] w (HandPost w g B v (spread bs ++ bitsOf r n)) := by
  have h0 : HandRel w g bx B v (spread bs ++ bitsOf r n) (n / 8) w := ⟨v, bs, r, n, h, rfl, hn, hr, rfl, fun j hj => .inl hj, Keeps.refl _ _, hbx, hl⟩
  have H0 := Lib.hid h0
  obtain ⟨l, hl⟩ : ∃ l, spread bs ++ bitsOf r n = l := ⟨_, rfl⟩
  rw [hl] at H0 ⊢
  clear h0 h hl hr hbx
  go_enter Try.func57, Try.ntmps57
  go_wp2
  go_loopg [] (n / 8) (fun k wr => HandRel w g bx B v l k wr)
  case atStart => exact H0.out
  case round =>
    obtain ⟨v1, bs1, r1, n1, ⟨hg, hown, hB, hbl⟩, hk, hn1, hr1, hsp, hv, hkp, hbx, hbk⟩ := hrel
    have c0 := cell_in hg 0
    have c1 := cell_in hg 1
    have c2 := cell_in hg 2
    have f1 := free_in hg 1
    have f2 := free_in hg 2
    simp at c0 c1 c2
    by_cases h8 : 8 ≤ n1
    · have HT := Lib.hid (wTake wr g bx B v1 (.int .u64 r1) (.int .i64 n1) bs1 (UInt8.ofNat (r1 % 256)) hbx hg hown hB hbl)
      rw [low_byte] at HT
      have HG := Lib.hid hg; have HO := Lib.hid hown; have HR := Lib.hid hr1; have HS := Lib.hid hsp; have HX := Lib.hid hbx; have HK := Lib.hid hk; have HV := Lib.hid hv
      clear hg hown hr1 hsp hbx hk hv
      go_wp2_with fail
      refine HT.out.mono ?_; rintro e w1 ⟨rfl, j, cap, hg1, hown1, hj, hk1⟩
      have d0 := cell_in hg1 0
      have d1 := cell_in hg1 1
      have d2 := cell_in hg1 2
      have e1 := free_in hg1 1
      have e2 := free_in hg1 2
      simp at d0 d1 d2
      have HG1 := Lib.hid hg1
      clear hg1
      go_wp2_with fail
      have hpos : 0 < gk := by rw [← HK.out]; omega
      go_roundg (gk - 1)
      case rel => exact hand_step h8 hn1 HR.out HS.out hB HK.out hbk HV.out hkp HO.out HX.out HG.out HG1.out hown1 hj hk1 (by omega) (by omega)
      case measure => omega
    · go_wp2_with fail
      go_end0
      exact ⟨rfl, v1, bs1, r1, n1, ⟨hg, hown, hB, hbl⟩, by omega, hr1, hsp, hv, hkp⟩
end Go.Proofs.Ytplopddlpoffoaa
