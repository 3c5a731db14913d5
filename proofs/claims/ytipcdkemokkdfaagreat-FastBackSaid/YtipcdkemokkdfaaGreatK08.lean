import Derived.Test.YtipcdkemokkdfaaGreatK01
import Derived.Test.YtipcdkemokkdfaaGreatK02
import Derived.IntWalk
import Derived.WalkLawsBesides
import Derived.Test.YtipcdkemokkdfaaGreatK07
import Derived.Test.YtipcdkemokkdfaaGreatK03
/- Words on rows of bits: rows that a call owns, rows that are only read. -/
namespace Go.Proofs.YtipcdkemokkdfaaGreat
open Go.ChangeShapes Go.WideShapes Go.ChangeAt Go.RowKit
set_option linter.unusedVariables false
set_option maxRecDepth 100000
def IsBoo (w : World) (a : Option Addr) (l : List Bool) : Prop := l = [] ∨ ∃ x, a = some x ∧ ∀ i, i < l.length → w.cell? (x.add i) = some (.bool (l.getD i false))
def IsB (w : World) (v : Value) (l : List Bool) : Prop := ∃ a cap, v = .slice a l.length cap ∧ IsBoo w a l
theorem IsBoo.at {w : World} {a : Option Addr} {l : List Bool} (h : IsBoo w a l) (k : Nat) (hk : k < l.length) : ∃ x : Addr, a = some x ∧ x.block < w.heap.size ∧ w.cell? (x.add k) = some (.bool (l.getD k false)) := by
  rcases h with rfl | ⟨x, rfl, hc⟩
  · simp at hk
  · have := cell_block (hc 0 (by omega))
    exact ⟨x, rfl, by rwa [add_block] at this, hc k hk⟩
theorem IsBoo.kept {w w' : World} {a : Option Addr} {l : List Bool} (h : IsBoo w a l) (hb : Below w.heap.size w w') : IsBoo w' a l := by
  rcases h with rfl | ⟨x, rfl, hc⟩
  · exact .inl rfl
  · exact .inr ⟨x, rfl, fun i hi => by rw [hb.cell (cell_block (hc i hi))]; exact hc i hi⟩
theorem IsBoo.drewN {w : World} {a : Option Addr} {l : List Bool} (h : IsBoo w a l) (k : Nat) : IsBoo (w.drewN k) a l := h
theorem IsB.kept {w w' : World} {v : Value} {l : List Bool} (h : IsB w v l) (hb : Below w.heap.size w w') : IsB w' v l := by
  obtain ⟨a, c, e, h⟩ := h; exact ⟨a, c, e, h.kept hb⟩
theorem IsB.nil (w : World) : IsB w (.slice none 0 0) [] := ⟨none, 0, rfl, .inl rfl⟩
/-- What a call keeps that only writes to the row that it was given: all but that row's own block. -/
def Row1 (w : World) (v : Value) (w' : World) (v' : Value) : Prop := Keeps (fun k => v.ownBlock = some k) w w' ∧ ∀ k, v'.ownBlock = some k → v.ownBlock = some k ∨ w.heap.size ≤ k
theorem Row1.refl (w : World) (v : Value) : Row1 w v w v := ⟨Keeps.refl _ _, fun k h => .inl h⟩
theorem Row1.trans {w w1 w2 : World} {v v1 v2 : Value} (h : Row1 w v w1 v1) (h2 : Row1 w1 v1 w2 v2) : Row1 w v w2 v2 := by
  refine ⟨h.1.trans' h2.1 (fun j hj hs => ?_), fun k hk => ?_⟩
  · rcases h.2 j hs with e | e
    · exact e
    · omega
  · have hsz := h.1.size
    rcases h2.2 k hk with e | e
    · exact h.2 k e
    · exact .inr (by omega)
theorem Row1.below {B : Nat} {w w' : World} {v v' : Value} (h : Row1 w v w' v') (hB : B ≤ w.heap.size) (hv : ∀ k, v.ownBlock = some k → B ≤ k) : Below B w w' := h.1.below (fun k hk => ⟨by omega, fun e => by have := hv k e; omega⟩)
theorem Row1.drewN {w w1 : World} {v v1 : Value} (h : Row1 w v w1 v1) (n : Nat) : Row1 w v (w1.drewN n) v1 := ⟨h.1.drewN n, h.2⟩
end Go.Proofs.YtipcdkemokkdfaaGreat

/- Words on bits of unsigned numbers of 64. -/
namespace Go.Proofs.YtipcdkemokkdfaaGreat
open Go.ChangeShapes Go.WideShapes Go.ChangeAt Go.RowKit
set_option linter.unusedVariables false
set_option maxRecDepth 100000
open Bits
theorem wrap_u64_nat (n : Nat) (h : n < 2 ^ 64) : IntKind.u64.wrap (n : Int) = (n : Int) := IntWalk.u64_in _ (by omega)
theorem or_u64 (x y : Nat) (hx : x < 2 ^ 64) (hy : y < 2 ^ 64) : bits .or .u64 (x : Int) (y : Int) = ((x ||| y : Nat) : Int) :=
  (bits_nat .u64 64 (by decide) (fun n h1 h2 => IntWalk.u64_in n (by omega)) x y hx hy).2
theorem and_u64 (x y : Nat) (hx : x < 2 ^ 64) (hy : y < 2 ^ 64) : bits .and .u64 (x : Int) (y : Int) = ((x &&& y : Nat) : Int) :=
  (bits_nat .u64 64 (by decide) (fun n h1 h2 => IntWalk.u64_in n (by omega)) x y hx hy).1
def lack (a : Nat) : Nat := (8 - a % 8) % 8
end Go.Proofs.YtipcdkemokkdfaaGreat

/- Layer 1, the document's: Put, Align, Bytes. -/
namespace Go.Proofs.YtipcdkemokkdfaaGreat
open Go.ChangeShapes Go.WideShapes Go.ChangeAt Go.RowKit
set_option linter.unusedVariables false
set_option maxRecDepth 100000
open Bits
theorem info_u8 : (Tryz.prog.info? 5).map (fun i => (i.zero, i.size, i.bytes)) = some (some (.int .u8 0), 1, 1) := by kernel_rfl
end Go.Proofs.YtipcdkemokkdfaaGreat

/- Layer 18: rows of bytes that came in and that a call owns; check, more, Clone, Copy. -/
namespace Go.Proofs.YtipcdkemokkdfaaGreat
open Go.ChangeShapes Go.WideShapes Go.ChangeAt Go.RowKit
open Tok (OkTok chk chk_no chk_yes)
set_option linter.unusedVariables false
set_option linter.unusedSimpArgs false
set_option maxRecDepth 100000
def fY (x : UInt8) : List Value := [.int .u8 (x.toNat : Int)]
abbrev OwnY (B : Nat) (w : World) (v : Value) (l : List UInt8) : Prop := OwnS fY 5 1 B w v l
theorem cells8_fY (l : List UInt8) : l.flatMap fY = cells8 l := by
  induction l with
  | nil => rfl
  | cons b l ih => rw [List.flatMap_cons, ih]; rfl
theorem y_conv {B : Nat} {w : World} {v : Value} {l : List UInt8} (h : OwnY B w v l) : (convert 43 9 v).run Tryz.prog w = .ok (.string (sOf l)) w := by
  have h' : w.ownsRow B 5 1 v l.length (cells8 l) := by rw [← cells8_fY]; exact h
  exact conv_own8 Tryz.underlying43 Tryz.underlying5 Tryz.underlying9 h'
/-- A row of bytes, whoever owns it. -/
def IsY (w : World) (a : Option Addr) (l : List UInt8) : Prop := l = [] ∨ ∃ x, a = some x ∧ ∀ i, i < l.length → w.cell? (x.add i) = some (.int .u8 ((l.getD i 0).toNat : Int))
theorem IsY.at {w : World} {a : Option Addr} {l : List UInt8} (h : IsY w a l) (k : Nat) (hk : k < l.length) : ∃ x : Addr, a = some x ∧ x.block < w.heap.size ∧ ∀ i, i < l.length → w.cell? (x.add i) = some (.int .u8 ((l.getD i 0).toNat : Int)) := by
  rcases h with rfl | ⟨x, rfl, hc⟩
  · simp at hk
  · exact ⟨x, rfl, by rw [← add_block x k]; exact cell_block (hc k hk), hc⟩
theorem IsY.kept {w w' : World} {a : Option Addr} {l : List UInt8} (h : IsY w a l) (hb : Below w.heap.size w w') : IsY w' a l := by
  rcases h with rfl | ⟨x, rfl, hc⟩
  · exact .inl rfl
  · exact .inr ⟨x, rfl, fun i hi => by rw [hb.cell (cell_block (hc i hi))]; exact hc i hi⟩
theorem IsY.drewN {w : World} {a : Option Addr} {l : List UInt8} (h : IsY w a l) (k : Nat) : IsY (w.drewN k) a l := h
end Go.Proofs.YtipcdkemokkdfaaGreat

/- Layer 18, the document's: Copy, with any window; Size's bounds; tokens in a row; room. -/
namespace Go.Proofs.YtipcdkemokkdfaaGreat
open Go.ChangeShapes Go.WideShapes Go.ChangeAt Go.RowKit
open Tok (OkTok chk chk_no chk_yes)
set_option linter.unusedVariables false
set_option linter.unusedSimpArgs false
set_option maxRecDepth 100000
set_option maxHeartbeats 1600000 in
theorem dCopyG (s : ByteArray) (n d : Nat) (win : Int) (hw1 : 1 ≤ win) (hw2 : win ≤ 67108864) (hw3 : (d : Int) ≤ win) (hs : s.size ≤ 1000000) (hn : n ≤ 258) (hd : 1 ≤ d) (hd2 : d ≤ s.size) (w : World) :
    Calls Tryz.prog 14 #[.string s, .int .i64 n, .int .i64 d, .int .i64 win] w fun e w' => e = .returned (.tuple #[.string (sOf (copyL d n s.data.toList)), .int .i64 0]) ∧ Below w.heap.size w w' := by
  have hcv := run_bytes_of_string (P := Tryz.prog) w 9 43 5 s Tryz.underlying9 Tryz.underlying43 Tryz.underlying5
  have hM := ownM_conv w s (by omega)
  have hsl : s.data.toList.length = s.size := by simp
  have hB0 : Below w.heap.size w (w.drew.alloc (.cells (bytesRow s (grownCap w s.size 0 5)) 5 ((bytesRow s (grownCap w s.size 0 5)).size, (bytesRow s (grownCap w s.size 0 5)).size + 1))) := (Below.refl _ _).drew.alloc (Nat.le_refl _) _
  rw [hsl] at hM
  obtain ⟨W1, hW1⟩ : ∃ W1, (w.drew.alloc (.cells (bytesRow s (grownCap w s.size 0 5)) 5 ((bytesRow s (grownCap w s.size 0 5)).size, (bytesRow s (grownCap w s.size 0 5)).size + 1))) = W1 := ⟨_, rfl⟩
  rw [hW1] at hcv hM hB0
  obtain ⟨C, hC⟩ : ∃ C, grownCap w s.size 0 5 = C := ⟨_, rfl⟩
  rw [hC] at hcv hM
  obtain ⟨L, hLd⟩ : ∃ L, s.data.toList = L := ⟨_, rfl⟩
  rw [hLd] at hM hsl ⊢
  have HSL := Lib.hid hsl
  obtain ⟨i0, hi, hz0, hz1, hz2⟩ := info_get (show (Tryz.prog.info? 5).map (fun i => (i.zero, i.size, i.bytes)) = some (some (.int .u8 0), 1, 1) by kernel_rfl)
  have HM := Lib.hid hM
  have HB0 := Lib.hid hB0
  clear hW1 hC hLd hsl hM hB0
  have q1 : decide ((d : Int) < 1) = false := decide_eq_false (by omega)
  have q2 : decide (win < (d : Int)) = false := decide_eq_false (by omega)
  have q6 : decide (win < 1) = false := decide_eq_false (by omega)
  have q7 : decide (67108864 < win) = false := decide_eq_false (by omega)
  have q3 : decide ((n : Int) < 0) = false := decide_eq_false (by omega)
  have q4 : decide ((258 : Int) < n) = false := decide_eq_false (by omega)
  have q5 : decide (s.size < d) = false := decide_eq_false (by omega)
  go_enter Tryz.func14, Tryz.ntmps14
  go_wp2_with fail
  go_loopw [10, 11] (fun u i wr => ∃ k : Nat, k ≤ n ∧ i = .int .i64 k ∧ OwnM w.heap.size wr u (copyL d k L) ∧ Below w.heap.size w wr) (fun _ i _ => n - (intOf i).toNat)
  case atStart => exact ⟨0, Nat.zero_le _, rfl, HM.out, HB0.out⟩
  case round =>
    clear hcv q1 q2 q3 q4 q5 q6 q7
    obtain ⟨k, hk, rfl, hM, hb⟩ := hrel
    have hbs := hb.size
    have HLn := Lib.hid (copyL_len d k L)
    have HSN := Lib.hid (copyL_snoc d k L)
    by_cases hlt : k < n
    · obtain ⟨g, cap, hv, hBg, hgl, hcap, hcm⟩ := hM.form
      subst hv
      have hl := HLn.out
      rw [HSL.out] at hl
      have hcell := OwnM.cell hM ((copyL d k L).length - d) (by omega)
      obtain ⟨R, hR⟩ : ∃ R, copyL d k L = R := ⟨_, rfl⟩
      rw [hR] at hM hcell hcap hl HSN ⊢
      clear hR HLn
      obtain ⟨Z, hZ⟩ : ∃ Z, R.getD (R.length - d) 0 = Z := ⟨_, rfl⟩
      rw [hZ] at hcell HSN
      clear hZ
      have hRd : d ≤ R.length := by omega
      have hRb : R.length ≤ 1000000000 := by omega
      have HRb := Lib.hid hRb
      have HBs := Lib.hid hbs
      have HM1 := Lib.hid hM
      have HBB := Lib.hid hb
      clear hM hb hl
      go_wp2_with (at_builtin; refine app_marked rfl _ _ _ rfl i0 Tryz.underlying43 hi hz0 hz1 hz2 _ _ _ R Z rfl HM1.out _ 1 rfl rfl HRb.out HBs.out ?_; intro v2 w2 hM2 hb2)
      rw [← HSN.out] at hM2
      have HM2 := Lib.hid hM2
      have HB2 := Lib.hid (HBB.out.trans hb2)
      clear hM2 hb2 HM1 HBB
      go_wp2_with fail
      go_roundw
      case rel => exact ⟨k + 1, by omega, by go_num, HM2.out, HB2.out⟩
      case measure => simp [intOf]; omega
    · obtain rfl : k = n := by omega
      have hcw := conv_marked (P := Tryz.prog) (src := 43) (dst := 9) (e := 5) Tryz.underlying43 Tryz.underlying5 Tryz.underlying9 hM
      have HBB := Lib.hid hb
      clear hM hb HLn HSN
      go_wp2_with fail
      go_ret2
      exact ⟨rfl, HBB.out⟩
theorem dCopyNo (s : ByteArray) (n d win : Int) (w : World) (E : Int) (hE : errC s.size n d win = E) (hE0 : E ≠ 0) :
    Calls Tryz.prog 14 #[.string s, .int .i64 n, .int .i64 d, .int .i64 win] w fun e w' => e = .returned (.tuple #[.string (sOf []), .int .i64 E]) ∧ w' = w := by
  unfold errC at hE
  by_cases c1 : n < 0
  · rw [if_pos (by omega)] at hE
    subst hE
    go_enter Tryz.func14, Tryz.ntmps14
    go_wp2
    all_goals (go_ret2; exact ⟨rfl, rfl⟩)
  have q1 : decide (n < 0) = false := decide_eq_false c1
  by_cases c2 : 258 < n
  · rw [if_pos (by omega)] at hE
    subst hE
    go_enter Tryz.func14, Tryz.ntmps14
    go_wp2
    all_goals (go_ret2; exact ⟨rfl, rfl⟩)
  have q2 : decide (258 < n) = false := decide_eq_false c2
  by_cases c3 : win < 1
  · rw [if_pos (by omega)] at hE
    subst hE
    go_enter Tryz.func14, Tryz.ntmps14
    go_wp2
    all_goals (go_ret2; exact ⟨rfl, rfl⟩)
  have q3 : decide (win < 1) = false := decide_eq_false c3
  by_cases c4 : 67108864 < win
  · rw [if_pos (by omega)] at hE
    subst hE
    go_enter Tryz.func14, Tryz.ntmps14
    go_wp2
    all_goals (go_ret2; exact ⟨rfl, rfl⟩)
  have q4 : decide (67108864 < win) = false := decide_eq_false c4
  rw [if_neg (by omega)] at hE
  by_cases c5 : d < 1
  · rw [if_pos (.inl c5)] at hE
    subst hE
    go_enter Tryz.func14, Tryz.ntmps14
    go_wp2
    all_goals (go_ret2; exact ⟨rfl, rfl⟩)
  have q5 : decide (d < 1) = false := decide_eq_false c5
  by_cases c6 : win < d
  · rw [if_pos (.inr (.inl c6))] at hE
    subst hE
    go_enter Tryz.func14, Tryz.ntmps14
    go_wp2
    all_goals (go_ret2; exact ⟨rfl, rfl⟩)
  have q6 : decide (win < d) = false := decide_eq_false c6
  by_cases c7 : (s.size : Int) < d
  · rw [if_pos (.inr (.inr c7))] at hE
    subst hE
    go_enter Tryz.func14, Tryz.ntmps14
    go_wp2
    all_goals (go_ret2; exact ⟨rfl, rfl⟩)
  rw [if_neg (by omega)] at hE
  exact absurd hE.symm hE0
theorem sOf_sz (l : List UInt8) : (sOf l).size = l.length := by unfold sOf; simp [ByteArray.size]
theorem sOf_li (l : List UInt8) : (sOf l).data.toList = l := by unfold sOf; simp
def copyR (H : List UInt8) (n d win : Int) : List UInt8 := if errC H.length n d win = 0 then copyL d.toNat n.toNat H else []
theorem dCopyV (H : List UInt8) (n d win : Int) (hH : H.length ≤ 1000000) (R : List UInt8) (E : Int) (hE : errC H.length n d win = E) (hR : copyR H n d win = R) (w : World) :
    Calls Tryz.prog 14 #[.string (sOf H), .int .i64 n, .int .i64 d, .int .i64 win] w fun e w' => e = .returned (.tuple #[.string (sOf R), .int .i64 E]) ∧ Below w.heap.size w w' := by
  unfold copyR at hR
  by_cases h0 : E = 0
  · rw [h0] at hE
    rw [if_pos hE] at hR
    have hb := errC_zero hE
    obtain ⟨N, rfl⟩ : ∃ m : Nat, n = m := ⟨n.toNat, by omega⟩
    obtain ⟨D, rfl⟩ : ∃ m : Nat, d = m := ⟨d.toNat, by omega⟩
    rw [Int.toNat_natCast, Int.toNat_natCast] at hR
    have := dCopyG (sOf H) N D win (by omega) (by omega) (by omega) (by rw [sOf_sz]; omega) (by omega) (by omega) (by rw [sOf_sz]; omega) w
    rw [sOf_li, hR] at this
    rw [h0]
    exact this
  · rw [if_neg (by rw [hE]; exact h0)] at hR
    subst hR
    exact (dCopyNo (sOf H) n d win w E (by rw [sOf_sz]; exact hE) h0).mono fun e w' h => ⟨h.1, by rw [h.2]; exact Below.refl _ _⟩
end Go.Proofs.YtipcdkemokkdfaaGreat
