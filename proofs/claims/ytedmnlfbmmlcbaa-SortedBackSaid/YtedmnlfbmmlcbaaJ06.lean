import Derived.Test.YtedmnlfbmmlcbaaJ05
import Derived.Deep.LoopGhost
/- Layer 45, the document's: New, part. -/
namespace Go.Proofs.Ytedmnlfbmmlcbaa
open Go.ChangeShapes Go.WideShapes Go.ChangeAt Go.RowKit Go.Deep
set_option linter.unusedVariables false
set_option maxRecDepth 100000
open Range

def IsR (w : World) (g : Nat) (d : Dec) : Prop := w.heap[g]? = some (.cells #[.int .u64 d.a, .int .u64 d.b, .int .u64 d.x, .string (sB d.s)] 89 (0, 0))
def AnyR (w : World) (g : Nat) : Prop := ∃ c0 c1 c2 c3, w.heap[g]? = some (.cells #[c0, c1, c2, c3] 89 (0, 0))
theorem IsR.cells {w : World} {g : Nat} {d : Dec} (h : IsR w g d) : g < w.heap.size ∧ w.cell? ⟨g, 0, none⟩ = some (.int .u64 d.a) ∧ w.cell? ⟨g, 1, none⟩ = some (.int .u64 d.b) ∧ w.cell? ⟨g, 2, none⟩ = some (.int .u64 d.x) ∧ w.cell? ⟨g, 3, none⟩ = some (.string (sB d.s)) ∧
    w.frozen? ⟨g, 0, none⟩ = false ∧ w.frozen? ⟨g, 1, none⟩ = false ∧ w.frozen? ⟨g, 2, none⟩ = false ∧ w.frozen? ⟨g, 3, none⟩ = false :=
  ⟨block_lt h, cell_lit h 0 _ rfl, cell_lit h 1 _ rfl, cell_lit h 2 _ rfl, cell_lit h 3 _ rfl, free_in h 0, free_in h 1, free_in h 2, free_in h 3⟩
theorem AnyR.free {w : World} {g : Nat} (h : AnyR w g) : g < w.heap.size ∧ (∃ c0 c1 c2 c3, w.cell? ⟨g, 0, none⟩ = some c0 ∧ w.cell? ⟨g, 1, none⟩ = some c1 ∧ w.cell? ⟨g, 2, none⟩ = some c2 ∧ w.cell? ⟨g, 3, none⟩ = some c3) ∧
    w.frozen? ⟨g, 0, none⟩ = false ∧ w.frozen? ⟨g, 1, none⟩ = false ∧ w.frozen? ⟨g, 2, none⟩ = false ∧ w.frozen? ⟨g, 3, none⟩ = false := by
  obtain ⟨c0, c1, c2, c3, h⟩ := h
  exact ⟨block_lt h, ⟨c0, c1, c2, c3, cell_lit h 0 _ rfl, cell_lit h 1 _ rfl, cell_lit h 2 _ rfl, cell_lit h 3 _ rfl⟩, free_in h 0, free_in h 1, free_in h 2, free_in h 3⟩
theorem IsR.any {w : World} {g : Nat} {d : Dec} (h : IsR w g d) : AnyR w g := ⟨_, _, _, _, h⟩
theorem IsR.kept {w w' : World} {g : Nat} {d : Dec} (h : IsR w g d) (hb : Below w.heap.size w w') : IsR w' g d := (hb.block g (block_lt h)).trans h
theorem AnyR.kept {w w' : World} {g : Nat} (h : AnyR w g) (hb : Below w.heap.size w w') : AnyR w' g := by
  obtain ⟨c0, c1, c2, c3, h⟩ := h
  exact ⟨c0, c1, c2, c3, (hb.block g (block_lt h)).trans h⟩
abbrev setR (w : World) (g : Nat) (d : Dec) : World := (((w.setCell ⟨g, 0, none⟩ (.int .u64 d.a)).setCell ⟨g, 1, none⟩ (.int .u64 d.b)).setCell ⟨g, 2, none⟩ (.int .u64 d.x)).setCell ⟨g, 3, none⟩ (.string (sB d.s))
theorem AnyR.set {w : World} {g : Nat} (h : AnyR w g) (d : Dec) : IsR (setR w g d) g d := by
  obtain ⟨c0, c1, c2, c3, h⟩ := h
  exact block_set (block_set (block_set (block_set h 0 _) 1 _) 2 _) 3 _
theorem AnyR.other {w : World} {g q : Nat} (h : AnyR w q) (hn : q ≠ g) (d : Dec) : AnyR (setR w g d) q := by
  obtain ⟨c0, c1, c2, c3, h⟩ := h
  refine ⟨c0, c1, c2, c3, ?_⟩
  unfold setR
  rw [Below.heap_setCell _ _ _ _ hn, Below.heap_setCell _ _ _ _ hn, Below.heap_setCell _ _ _ _ hn, Below.heap_setCell _ _ _ _ hn]; exact h
theorem IsR.other {w : World} {g q : Nat} {d' : Dec} (h : IsR w q d') (hn : q ≠ g) (d : Dec) : IsR (setR w g d) q d' := by
  unfold IsR setR
  rw [Below.heap_setCell _ _ _ _ hn, Below.heap_setCell _ _ _ _ hn, Below.heap_setCell _ _ _ _ hn, Below.heap_setCell _ _ _ _ hn]; exact h
theorem AnyR.set01 {w : World} {g q : Nat} (h : AnyR w q) (hn : q ≠ g) (u v : Value) : AnyR ((w.setCell ⟨g, 0, none⟩ u).setCell ⟨g, 1, none⟩ v) q := by
  obtain ⟨c0, c1, c2, c3, h⟩ := h
  refine ⟨c0, c1, c2, c3, ?_⟩
  rw [Below.heap_setCell _ _ _ _ hn, Below.heap_setCell _ _ _ _ hn]; exact h
theorem below_setR {B : Nat} {w w' : World} {g : Nat} (hb : Below B w w') (hg : B ≤ g) (d : Dec) : Below B w (setR w' g d) :=
  (((hb.setCell (p := ⟨g, 0, none⟩) hg _).setCell (p := ⟨g, 1, none⟩) hg _).setCell (p := ⟨g, 2, none⟩) hg _).setCell (p := ⟨g, 3, none⟩) hg _
theorem setR_size (w : World) (g : Nat) (d : Dec) : (setR w g d).heap.size = w.heap.size := by unfold setR; simp
/-- The sum in the middle, in the document's words. -/
theorem mid_u64 (a b p : Nat) (h : a ≤ b) (hb : b < 4294967296) (hp : p ≤ 2047) : (a : Int) + ((b : Int) - a) / 2048 * p = (mid a b p : Nat) := by
  have e1 : ((b : Int) - a) / 2048 = (((b - a) / 2048 : Nat) : Int) := by omega
  unfold mid
  rw [e1, ← Int.natCast_mul]
  omega
set_option maxHeartbeats 3200000 in
theorem dPart (d : Dec) (P : Nat) (BT : Bool) (hf : Apart d.a d.b) (hp : 1 ≤ P ∧ P ≤ 2047) (w : World) : Calls Try.prog 61 #[.agg #[.int .u64 d.a, .int .u64 d.b, .int .u64 d.x, .string (sB d.s)], .int .i64 P, .bool BT] w fun e w' =>
    e = .returned (.tuple #[rV ⟨(Range.part d.a d.b P BT).2.1, (Range.part d.a d.b P BT).2.2, d.x, d.s⟩, .string (sB (Range.part d.a d.b P BT).1)]) ∧ Below w.heap.size w w' := by
  obtain ⟨A, B, X, S⟩ := d
  simp only at hf ⊢
  have hpt : Range.part A B P BT = sttl 4 (if BT then mid A B P + 1 else A) (if BT then B else mid A B P) := by cases BT <;> rfl
  rw [hpt]
  have hm := mid_le A B P hf.1 (by omega)
  have hab := apart_lt hf
  have hb32 := hf.2.1
  have HMI := Lib.hid (mid_u64 A B P hf.1 hb32 hp.2)
  have hmid := hm.2.2.1 hab
  have hamid := hm.1
  have hpr := hm.2.2.2
  have hAB := hf.1
  have e1 : ((B : Int) - A) / 2048 = (((B - A) / 2048 : Nat) : Int) := by omega
  have hpr2 : (((B : Int) - A) / 2048) * P ≤ 4294967296 := by rw [e1, ← Int.natCast_mul]; omega
  have hpr3 : 0 ≤ (((B : Int) - A) / 2048) * P := by rw [e1, ← Int.natCast_mul]; omega
  clear hm hpt hf hpr e1
  obtain ⟨M, hM⟩ : ∃ M, mid A B P = M := ⟨_, rfl⟩
  rw [hM] at HMI hmid hamid ⊢
  clear hM
  have hcv : ∀ (Y : World) (z : Nat) (T : Nat), (convert 52 9 (.slice (some ⟨Y.heap.size, 0, none⟩) 1 1)).run Try.prog (Y.alloc (.cells #[.int .u8 ((UInt8.ofNat z).toNat : Int)] T)) = .ok (.string (sB [UInt8.ofNat z])) (Y.alloc (.cells #[.int .u8 ((UInt8.ofNat z).toNat : Int)] T)) := by
    intro Y z T
    exact run_convert_bytes_back (P := Try.prog) _ 52 9 5 ⟨Y.heap.size, 0, none⟩ 1 [UInt8.ofNat z] Try.underlying52 Try.underlying5 Try.underlying9 (fun j hj => by
      obtain rfl : j = 0 := by simpa using hj
      simp [Addr.add])
  have HCV := Lib.hid hcv
  clear hcv
  cases BT with
  | false =>
    simp only [Bool.false_eq_true, if_false]
    have hwd : Wide 4 A M := wide4 _ _ hamid (by omega)
    obtain ⟨⟨TL, TA, TB⟩, hT⟩ : ∃ r, sttl 4 A M = r := ⟨_, rfl⟩
    rw [hT]
    simp only
    have HT1 := Lib.hid (show (ByteArray.mk #[]).data.toList ++ (sttl 4 A M).1 = TL by rw [hT]; rfl)
    have HT2 := Lib.hid (show (sttl 4 A M).2 = (TA, TB) by rw [hT])
    have HWD := Lib.hid hwd
    clear hwd hT
    go_enter Try.func61, Try.ntmps61
    go_wp2_with fail
    rw [HMI.out]
    obtain ⟨W, hW⟩ : ∃ W, ((w.alloc (.cells #[.int .u64 A, .int .u64 M, .int .u64 X, .string (sB S)] 89)).alloc (.cells #[.int .u64 0, .int .u64 0, .int .u64 0, .string ⟨#[]⟩] 89)) = W := ⟨_, rfl⟩
    rw [hW]
    have HR := Lib.hid (show IsR W w.heap.size ⟨A, M, X, S⟩ by rw [← hW]; exact heap_two_first _ _ _)
    have HA := Lib.hid (show AnyR W (w.heap.size + 1) by rw [← hW]; exact ⟨_, _, _, _, heap_two_last _ _ _⟩)
    have HB := Lib.hid (show Below w.heap.size w W by rw [← hW]; exact ((Below.refl _ _).alloc (Nat.le_refl _) _).alloc (by simp) _)
    clear hW HMI
    go_loopg [9] 4 (fun f u wr => ∃ (a' b' : Nat) (O : ByteArray), u = .string O ∧ O.size + f ≤ 4 ∧ Hid (Wide f a' b') ∧ Hid (O.data.toList ++ (sttl f a' b').1 = TL) ∧ Hid ((sttl f a' b').2 = (TA, TB)) ∧ IsR wr w.heap.size ⟨a', b', X, S⟩ ∧ AnyR wr (w.heap.size + 1) ∧ Below w.heap.size w wr)
    case atStart => exact ⟨A, M, ⟨#[]⟩, rfl, by decide, HWD, HT1, HT2, HR.out, HA.out, HB.out⟩
    case round =>
      obtain ⟨a', b', O, rfl, hO, hwd, ht1, ht2, hr, ha, hb⟩ := hrel
      have hb32' : b' < 4294967296 := hwd.out.2.1
      have ha32 : a' < 4294967296 := by have := hwd.out.1; omega
      obtain ⟨lg, c0, c1, c2, c3, f0, f1, f2, f3⟩ := hr.cells
      simp only at c0 c1 c2 c3
      have HR1 := Lib.hid hr; have HA1 := Lib.hid ha; have HB1 := Lib.hid hb
      clear hr ha hb
      by_cases he : a' / 16777216 = b' / 16777216
      · have hc : ((a' : Int) / 16777216 == (b' : Int) / 16777216) = true := by rw [beq_iff_eq]; omega
        obtain ⟨f', rfl⟩ : ∃ f', gk = f' + 1 := by
          cases gk with
          | zero => exact absurd he (wide0 hwd.out)
          | succ f' => exact ⟨f', rfl⟩
        have hwd2 := Lib.hid (wide_next hwd.out he)
        have ht1' := ht1.out
        have ht2' := ht2.out
        rw [settle_yes he] at ht1' ht2'
        have HT1' := Lib.hid ht1'
        have HT2' := Lib.hid ht2'
        have hcv2 : ∀ (Y : World) (T : Nat), (convert 52 9 (.slice (some ⟨Y.heap.size, 0, none⟩) 1 1)).run Try.prog (Y.alloc (.cells #[.int .u8 ((a' : Int) / 16777216)] T)) = .ok (.string (sB [UInt8.ofNat (a' / 16777216)])) (Y.alloc (.cells #[.int .u8 ((a' : Int) / 16777216)] T)) := by
          intro Y T
          have := HCV.out Y (a' / 16777216) T
          rwa [show ((UInt8.ofNat (a' / 16777216)).toNat : Int) = (a' : Int) / 16777216 by simp; omega] at this
        have hO1 : O.size ≤ 3 := by omega
        have hO2 : (sB [UInt8.ofNat (a' / 16777216)]).size ≤ 1 := by rw [sB_size]; simp
        have HO3 := Lib.hid (show (O ++ sB [UInt8.ofNat (a' / 16777216)]).size + f' ≤ 4 by rw [ByteArray.size_append, sB_size]; simp; omega)
        have HT3 := Lib.hid (show (O ++ sB [UInt8.ofNat (a' / 16777216)]).data.toList ++ (sttl f' (a' % 16777216 * 256) (b' % 16777216 * 256 + 255)).1 = TL by rw [sB_app, List.append_assoc]; exact HT1'.out)
        have E1 := Lib.hid (show (a' : Int) % 16777216 * 256 = ((a' % 16777216 * 256 : Nat) : Int) by omega)
        have E2 := Lib.hid (show (b' : Int) % 16777216 * 256 + 255 = ((b' % 16777216 * 256 + 255 : Nat) : Int) by omega)
        clear ht1 ht2 ht1' ht2' he hwd
        go_wp2_with fail
        rw [E1.out, E2.out]
        go_roundg f'
        case rel => exact ⟨_, _, _, rfl, HO3.out, hwd2, HT3, HT2', heap_old (block_set (block_set HR1.out 0 _) 1 _) _, (HA1.out.set01 (g := w.heap.size) (by omega) _ _).kept ((Below.refl _ _).alloc (Nat.le_refl _) _), ((HB1.out.setCell (p := ⟨w.heap.size, 0, none⟩) (Nat.le_refl _) _).setCell (p := ⟨w.heap.size, 1, none⟩) (Nat.le_refl _) _).alloc (by have := HB1.out.size; simp; omega) _⟩
        case measure => omega
      · have hc : ((a' : Int) / 16777216 == (b' : Int) / 16777216) = false := by rw [beq_eq_false_iff_ne]; omega
        have ht1' := ht1.out
        have ht2' := ht2.out
        rw [settle_no he] at ht1' ht2'
        simp only [List.append_nil, Prod.mk.injEq] at ht1' ht2'
        obtain ⟨rfl, rfl⟩ := ht2'
        have HS := Lib.hid (show sB TL = O by rw [← ht1']; exact sB_of O)
        obtain ⟨lga, ⟨a0, a1, a2, a3, b0, b1, b2, b3⟩, h0, h1, h2, h3⟩ := HA1.out.free
        clear ht1 ht2 ht1' he hwd
        go_wp2_with fail
        obtain ⟨-, z0, z1, z2, z3, -⟩ := (HA1.out.set ⟨a', b', X, S⟩).cells
        have hbe := below_setR (g := w.heap.size + 1) HB1.out (by omega) ⟨a', b', X, S⟩
        change bodyPost _ _ _ _ _ (setR wr (w.heap.size + 1) ⟨a', b', X, S⟩)
        revert z0 z1 z2 z3 hbe
        generalize setR wr (w.heap.size + 1) ⟨a', b', X, S⟩ = Y
        intro z0 z1 z2 z3 hbe
        simp only at z0 z1 z2 z3
        exact bodyPost_ret (v := .tuple #[rV ⟨a', b', X, S⟩, .string O]) (by simp [results, Try.results61, go_sem, z0, z1, z2, z3]) rfl ⟨by rw [HS.out], hbe⟩
  | true =>
    simp only [if_true]
    have hwd : Wide 4 (M + 1) B := wide4 _ _ (by omega) hb32
    obtain ⟨⟨TL, TA, TB⟩, hT⟩ : ∃ r, sttl 4 (M + 1) B = r := ⟨_, rfl⟩
    rw [hT]
    simp only
    have HT1 := Lib.hid (show (ByteArray.mk #[]).data.toList ++ (sttl 4 (M + 1) B).1 = TL by rw [hT]; rfl)
    have HT2 := Lib.hid (show (sttl 4 (M + 1) B).2 = (TA, TB) by rw [hT])
    have HWD := Lib.hid hwd
    clear hwd hT
    have hq := HMI.out
    have hqb : (A : Int) + (↑B - ↑A) / 2048 * ↑P + 1 < 4294967296 := by rw [hq]; omega
    clear hq
    go_enter Try.func61, Try.ntmps61
    go_wp2_with fail
    rw [HMI.out]
    obtain ⟨W, hW⟩ : ∃ W, ((w.alloc (.cells #[.int .u64 ((M : Int) + 1), .int .u64 B, .int .u64 X, .string (sB S)] 89)).alloc (.cells #[.int .u64 0, .int .u64 0, .int .u64 0, .string ⟨#[]⟩] 89)) = W := ⟨_, rfl⟩
    rw [hW]
    have HR := Lib.hid (show IsR W w.heap.size ⟨M + 1, B, X, S⟩ by rw [← hW]; exact heap_two_first _ _ _)
    have HA := Lib.hid (show AnyR W (w.heap.size + 1) by rw [← hW]; exact ⟨_, _, _, _, heap_two_last _ _ _⟩)
    have HB := Lib.hid (show Below w.heap.size w W by rw [← hW]; exact ((Below.refl _ _).alloc (Nat.le_refl _) _).alloc (by simp) _)
    clear hW HMI hqb
    go_loopg [9] 4 (fun f u wr => ∃ (a' b' : Nat) (O : ByteArray), u = .string O ∧ O.size + f ≤ 4 ∧ Hid (Wide f a' b') ∧ Hid (O.data.toList ++ (sttl f a' b').1 = TL) ∧ Hid ((sttl f a' b').2 = (TA, TB)) ∧ IsR wr w.heap.size ⟨a', b', X, S⟩ ∧ AnyR wr (w.heap.size + 1) ∧ Below w.heap.size w wr)
    case atStart => exact ⟨(M + 1), B, ⟨#[]⟩, rfl, by decide, HWD, HT1, HT2, HR.out, HA.out, HB.out⟩
    case round =>
      obtain ⟨a', b', O, rfl, hO, hwd, ht1, ht2, hr, ha, hb⟩ := hrel
      have hb32' : b' < 4294967296 := hwd.out.2.1
      have ha32 : a' < 4294967296 := by have := hwd.out.1; omega
      obtain ⟨lg, c0, c1, c2, c3, f0, f1, f2, f3⟩ := hr.cells
      simp only at c0 c1 c2 c3
      have HR1 := Lib.hid hr; have HA1 := Lib.hid ha; have HB1 := Lib.hid hb
      clear hr ha hb
      by_cases he : a' / 16777216 = b' / 16777216
      · have hc : ((a' : Int) / 16777216 == (b' : Int) / 16777216) = true := by rw [beq_iff_eq]; omega
        obtain ⟨f', rfl⟩ : ∃ f', gk = f' + 1 := by
          cases gk with
          | zero => exact absurd he (wide0 hwd.out)
          | succ f' => exact ⟨f', rfl⟩
        have hwd2 := Lib.hid (wide_next hwd.out he)
        have ht1' := ht1.out
        have ht2' := ht2.out
        rw [settle_yes he] at ht1' ht2'
        have HT1' := Lib.hid ht1'
        have HT2' := Lib.hid ht2'
        have hcv2 : ∀ (Y : World) (T : Nat), (convert 52 9 (.slice (some ⟨Y.heap.size, 0, none⟩) 1 1)).run Try.prog (Y.alloc (.cells #[.int .u8 ((a' : Int) / 16777216)] T)) = .ok (.string (sB [UInt8.ofNat (a' / 16777216)])) (Y.alloc (.cells #[.int .u8 ((a' : Int) / 16777216)] T)) := by
          intro Y T
          have := HCV.out Y (a' / 16777216) T
          rwa [show ((UInt8.ofNat (a' / 16777216)).toNat : Int) = (a' : Int) / 16777216 by simp; omega] at this
        have hO1 : O.size ≤ 3 := by omega
        have hO2 : (sB [UInt8.ofNat (a' / 16777216)]).size ≤ 1 := by rw [sB_size]; simp
        have HO3 := Lib.hid (show (O ++ sB [UInt8.ofNat (a' / 16777216)]).size + f' ≤ 4 by rw [ByteArray.size_append, sB_size]; simp; omega)
        have HT3 := Lib.hid (show (O ++ sB [UInt8.ofNat (a' / 16777216)]).data.toList ++ (sttl f' (a' % 16777216 * 256) (b' % 16777216 * 256 + 255)).1 = TL by rw [sB_app, List.append_assoc]; exact HT1'.out)
        have E1 := Lib.hid (show (a' : Int) % 16777216 * 256 = ((a' % 16777216 * 256 : Nat) : Int) by omega)
        have E2 := Lib.hid (show (b' : Int) % 16777216 * 256 + 255 = ((b' % 16777216 * 256 + 255 : Nat) : Int) by omega)
        clear ht1 ht2 ht1' ht2' he hwd
        go_wp2_with fail
        rw [E1.out, E2.out]
        go_roundg f'
        case rel => exact ⟨_, _, _, rfl, HO3.out, hwd2, HT3, HT2', heap_old (block_set (block_set HR1.out 0 _) 1 _) _, (HA1.out.set01 (g := w.heap.size) (by omega) _ _).kept ((Below.refl _ _).alloc (Nat.le_refl _) _), ((HB1.out.setCell (p := ⟨w.heap.size, 0, none⟩) (Nat.le_refl _) _).setCell (p := ⟨w.heap.size, 1, none⟩) (Nat.le_refl _) _).alloc (by have := HB1.out.size; simp; omega) _⟩
        case measure => omega
      · have hc : ((a' : Int) / 16777216 == (b' : Int) / 16777216) = false := by rw [beq_eq_false_iff_ne]; omega
        have ht1' := ht1.out
        have ht2' := ht2.out
        rw [settle_no he] at ht1' ht2'
        simp only [List.append_nil, Prod.mk.injEq] at ht1' ht2'
        obtain ⟨rfl, rfl⟩ := ht2'
        have HS := Lib.hid (show sB TL = O by rw [← ht1']; exact sB_of O)
        obtain ⟨lga, ⟨a0, a1, a2, a3, b0, b1, b2, b3⟩, h0, h1, h2, h3⟩ := HA1.out.free
        clear ht1 ht2 ht1' he hwd
        go_wp2_with fail
        obtain ⟨-, z0, z1, z2, z3, -⟩ := (HA1.out.set ⟨a', b', X, S⟩).cells
        have hbe := below_setR (g := w.heap.size + 1) HB1.out (by omega) ⟨a', b', X, S⟩
        change bodyPost _ _ _ _ _ (setR wr (w.heap.size + 1) ⟨a', b', X, S⟩)
        revert z0 z1 z2 z3 hbe
        generalize setR wr (w.heap.size + 1) ⟨a', b', X, S⟩ = Y
        intro z0 z1 z2 z3 hbe
        simp only at z0 z1 z2 z3
        exact bodyPost_ret (v := .tuple #[rV ⟨a', b', X, S⟩, .string O]) (by simp [results, Try.results61, go_sem, z0, z1, z2, z3]) rfl ⟨by rw [HS.out], hbe⟩
end Go.Proofs.Ytedmnlfbmmlcbaa

/- Layer 45, the document's: Bit. -/
namespace Go.Proofs.Ytedmnlfbmmlcbaa
open Go.ChangeShapes Go.WideShapes Go.ChangeAt Go.RowKit Go.Deep
set_option linter.unusedVariables false
set_option maxRecDepth 100000
open Range

end Go.Proofs.Ytedmnlfbmmlcbaa
