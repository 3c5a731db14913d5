import Derived.Test.YtipcdkemokkdfaaGreatK08
import Derived.Laws.AppendOwnNone
import Derived.Test.YtipcdkemokkdfaaGreatK07
import Derived.Deep.WholeRow
/- Layer 18: tokens in a row; room. -/
namespace Go.Proofs.YtipcdkemokkdfaaGreat
open Go.ChangeShapes Go.WideShapes Go.ChangeAt Go.RowKit
open Tok (OkTok chk chk_no chk_yes)
set_option linter.unusedVariables false
set_option linter.unusedSimpArgs false
set_option maxRecDepth 100000
theorem IsTk.take {w : World} {a : Option Addr} {l : List Tk} (h : IsTk w a l) (n : Nat) : IsTk w a (l.take n) := by
  rcases h with rfl | ⟨x, rfl, hc⟩
  · exact .inl (by simp)
  · refine .inr ⟨x, rfl, fun i t ht => hc i t ?_⟩
    rw [List.getElem?_take] at ht
    split at ht
    · exact ht
    · cases ht
theorem add_add5 (x : Addr) (n i : Nat) : (x.add (n * 5)).add (i * 5) = x.add ((n + i) * 5) := by
  rw [Nat.add_mul]
  unfold Addr.add
  by_cases hn : n * 5 = 0
  · rw [hn]; simp
  · by_cases hi : i * 5 = 0
    · rw [hi]; simp
    · simp [hn, hi]; omega
theorem IsTk.drop {w : World} {x : Addr} {l : List Tk} (h : IsTk w (some x) l) (n : Nat) : IsTk w (some (x.add (n * 5))) (l.drop n) := by
  rcases h with rfl | ⟨x', e, hc⟩
  · exact .inl (by simp)
  · injection e with e
    subst e
    refine .inr ⟨_, rfl, fun i t ht => ?_⟩
    rw [List.getElem?_drop] at ht
    have := hc (n + i) t ht
    unfold tkAt
    rw [add_add5]
    exact this
end Go.Proofs.YtipcdkemokkdfaaGreat

/- Layer 18: Apply. -/
namespace Go.Proofs.YtipcdkemokkdfaaGreat
open Go.ChangeShapes Go.WideShapes Go.ChangeAt Go.RowKit
open Tok (OkTok chk chk_no chk_yes)
set_option linter.unusedVariables false
set_option linter.unusedSimpArgs false
set_option maxRecDepth 100000
theorem mk_cap1 (ST E : TypeId) (z : Value) (bytes : Nat) (hST : Tryz.prog.underlying ST = some (.slice E)) (hE : (Tryz.prog.info? E).map (fun i => (i.zero, i.size, i.bytes)) = some (some z, 1, bytes)) (hby : bytes ≤ 8) (L : Nat) (hL : L ≤ 1000000) :
    ∃ ROW : Array Value, ROW.size = L ∧ ∀ w : World, (Instr.makeSlice ST (.int .i64 0) (.int .i64 (L : Int))).run Tryz.prog w = .ok (.slice (some ⟨w.heap.size, 0, none⟩) 0 L) (w.alloc (.cells ROW E)) := by
  obtain ⟨i, hi, hz, hs, hb⟩ := info_get hE
  refine ⟨madeCells z.cells L, size_madeCells _ _, fun w => ?_⟩
  have := run_make (w := w) (P := Tryz.prog) ST E i z hST hi hz .i64 .i64 0 (L : Int) (by decide) (by omega) (by
    rw [hb]
    have : (bytes : Int) * (L : Int) ≤ 8 * (L : Int) := Int.mul_le_mul_of_nonneg_right (by omega) (by omega)
    omega) (by omega)
  rw [hs, Int.toNat_natCast, Nat.mul_one] at this
  exact this
theorem own_cap1 {w : World} {g cap B : Nat} {E : TypeId} {ROW : Array Value} (h : w.heap[g]? = some (.cells ROW E (0, 0))) (hB : B ≤ g) (hs : ROW.size = cap) (hc : cap ≤ 1000000000) : w.ownsRow B E 1 (.slice (some ⟨g, 0, none⟩) 0 cap) 0 [] := by
  refine ⟨rfl, .inr ⟨g, cap, ROW, rfl, hB, h, Nat.zero_le _, by unfold maxLen; omega, by omega, by simp⟩⟩
theorem set4 {w : World} {g : Nat} {x0 x1 x2 x3 : Value} {t : TypeId} (h : w.heap[g]? = some (.cells #[x0, x1, x2, x3] t (0, 0))) (y0 y1 y2 y3 : Value) : ((((w.setCell ⟨g, 0, none⟩ y0).setCell ⟨g, 1, none⟩ y1).setCell ⟨g, 2, none⟩ y2).setCell ⟨g, 3, none⟩ y3).heap[g]? = some (.cells #[y0, y1, y2, y3] t (0, 0)) := by
  have := block_set (block_set (block_set (block_set h 0 y0) 1 y1) 2 y2) 3 y3
  simpa using this
theorem set4_other {w : World} {g k : Nat} {o : Obj} (h : w.heap[k]? = some o) (hk : k ≠ g) (y0 y1 y2 y3 : Value) : ((((w.setCell ⟨g, 0, none⟩ y0).setCell ⟨g, 1, none⟩ y1).setCell ⟨g, 2, none⟩ y2).setCell ⟨g, 3, none⟩ y3).heap[k]? = some o := by
  rw [Below.heap_setCell _ _ _ _ hk, Below.heap_setCell _ _ _ _ hk, Below.heap_setCell _ _ _ _ hk, Below.heap_setCell _ _ _ _ hk]; exact h
theorem set4_below {B : Nat} {a w : World} {g : Nat} (h : Below B a w) (hB : B ≤ g) (y0 y1 y2 y3 : Value) : Below B a ((((w.setCell ⟨g, 0, none⟩ y0).setCell ⟨g, 1, none⟩ y1).setCell ⟨g, 2, none⟩ y2).setCell ⟨g, 3, none⟩ y3) :=
  (((h.setCell (p := ⟨g, 0, none⟩) hB y0).setCell (p := ⟨g, 1, none⟩) hB y1).setCell (p := ⟨g, 2, none⟩) hB y2).setCell (p := ⟨g, 3, none⟩) hB y3
theorem stepS_use {win : Int} {t : Tk} {q q2 : Q4} {h : List UInt8} {D E : Int} (hU : useV q t = (q2, D, E)) (hE : E ≠ 0) : stepS win t q h = ([], z4, E) := by
  unfold stepS; rw [hU]; rw [if_neg hE]
theorem stepS_lit {win : Int} {t : Tk} {q q2 : Q4} {h : List UInt8} {D : Int} (hU : useV q t = (q2, D, 0)) (hk : t.k = 0) : stepS win t q h = (h ++ [byteOf t.b], q2, 0) := by
  unfold stepS; rw [hU]; rw [if_pos rfl, if_pos hk]
theorem stepS_cp {win : Int} {t : Tk} {q q2 : Q4} {h : List UInt8} {D : Int} (hU : useV q t = (q2, D, 0)) (hk : t.k ≠ 0) (hE : errC h.length t.l D win = 0) : stepS win t q h = (copyL D.toNat t.l.toNat h, q2, 0) := by
  unfold stepS; rw [hU]; rw [if_pos rfl, if_neg hk, if_pos hE]
theorem stepS_no {win : Int} {t : Tk} {q q2 : Q4} {h : List UInt8} {D E : Int} (hU : useV q t = (q2, D, 0)) (hk : t.k ≠ 0) (hE : errC h.length t.l D win = E) (h0 : E ≠ 0) : stepS win t q h = ([], z4, E) := by
  unfold stepS; rw [hU]; rw [if_pos rfl, if_neg hk, if_neg (by show ¬ errC h.length t.l D win = 0; rw [hE]; exact h0)]
  show ([], z4, errC h.length t.l D win) = _
  rw [hE]
theorem byte_wrap (b : Int) : IntKind.u8.wrap b = (((byteOf b).toNat : Nat) : Int) := by
  unfold byteOf
  have h1 : 0 ≤ b % 256 := Int.emod_nonneg _ (by decide)
  have h2 : b % 256 < 256 := Int.emod_lt_of_pos _ (by decide)
  rw [UInt8.toNat_ofNat']
  have e : IntKind.u8.wrap b = b % 256 := by simp [IntKind.wrap, IntKind.bits, IntKind.signed]; try omega
  rw [e]
  simp
  omega
end Go.Proofs.YtipcdkemokkdfaaGreat

/- Layer 30: actOf, do. -/
namespace Go.Proofs.YtipcdkemokkdfaaGreat
open Go.ChangeShapes Go.WideShapes Go.ChangeAt Go.RowKit
open Tok (OkTok chk chk_no chk_yes)
set_option linter.unusedVariables false
set_option linter.unusedSimpArgs false
set_option maxRecDepth 100000
def layV (b : UInt8) : Value := .iface 85 (.agg #[.int .u8 (b.toNat : Int)])
def againV (n d : Int) : Value := .iface 87 (.agg #[.int .i64 n, .int .i64 d])
def actV (t : Tk) (D : Int) : Value := if t.k = 0 then layV (byteOf t.b) else againV t.l D
set_option maxHeartbeats 1600000 in
theorem fActOf (t : Tk) (D : Int) (w : World) : Calls Tryz.prog 21 #[tkV t, .int .i64 D] w fun e w' => e = .returned (actV t D) ∧ Below w.heap.size w w' := by
  obtain ⟨k, b, l, d, r⟩ := t
  unfold actV
  show Calls Tryz.prog 21 #[.agg #[.int .i64 k, .int .i64 b, .int .i64 l, .int .i64 d, .int .i64 r], .int .i64 D] w _
  by_cases hk : k = 0
  · subst hk
    rw [if_pos rfl]
    have hw := byte_wrap b
    obtain ⟨B, hB⟩ : ∃ B, byteOf b = B := ⟨_, rfl⟩
    rw [hB] at hw ⊢
    clear hB
    go_enter Tryz.func21, Tryz.ntmps21
    go_wp2_with fail
    go_ret
    exact ⟨rfl, (Below.refl _ _).alloc (Nat.le_refl _) _⟩
  · rw [if_neg hk]
    have hk0 : (k == 0) = false := by rw [beq_eq_false_iff_ne]; exact hk
    go_enter Tryz.func21, Tryz.ntmps21
    go_wp2_with fail
    go_ret
    exact ⟨rfl, (Below.refl _ _).alloc (Nat.le_refl _) _⟩
theorem fa_hit (b : UInt8) (w : World) : (Instr.typeAssert (layV b) 62 85 true).run Tryz.prog w = .ok (.tuple #[.agg #[.int .u8 (b.toNat : Int)], .bool true]) w := by
  unfold layV
  simp [Instr.typeAssert, run_underlying Tryz.underlying85]
theorem fz_lay (w : World) : (zeroValue 85).run Tryz.prog w = .ok (.agg #[.int .u8 0]) w := (zero_of_info (P := Tryz.prog) (t := 85) (v := .agg #[.int .u8 0]) (n := 1) (by kernel_rfl)).1 w
theorem fa_miss (n d : Int) (w : World) : (Instr.typeAssert (againV n d) 62 85 true).run Tryz.prog w = .ok (.tuple #[.agg #[.int .u8 0], .bool false]) w := by
  unfold againV
  simp [Instr.typeAssert, run_underlying Tryz.underlying85, fz_lay]
theorem fa_again (n d : Int) (w : World) : (Instr.typeAssert (againV n d) 62 87 true).run Tryz.prog w = .ok (.tuple #[.agg #[.int .i64 n, .int .i64 d], .bool true]) w := by
  unfold againV
  simp [Instr.typeAssert, run_underlying Tryz.underlying87]
theorem StepH.behind {w w1 w' : World} {g B size : Nat} {v : Value} {H : List UInt8} (hb : Below w.heap.size w w1) (h : StepH w1 g B size v H w') : StepH w g B size v H w' :=
  StepH.then (fun k h => .inl h) (Keeps.of_below hb) h
theorem WinH.low {w w' : World} {g B size : Nat} {v : Value} {H : List UInt8} (h : WinH w g B size v H) (hb : Below w.heap.size w w') : WinH w' g B size v H :=
  h.keep (S := fun _ => False) (Keeps.of_below hb) (fun _ _ e => e)
theorem conv1 (Y : World) (g : Nat) (c : UInt8) (T : TypeId) (hg : Y.heap.size = g) : (convert 43 9 (.slice (some ⟨g, 0, none⟩) 1 1)).run Tryz.prog (Y.alloc (.cells #[.int .u8 (c.toNat : Int)] T)) = .ok (.string (sOf [c])) (Y.alloc (.cells #[.int .u8 (c.toNat : Int)] T)) := by
  subst hg
  refine run_convert_bytes_back (P := Tryz.prog) _ 43 9 5 ⟨Y.heap.size, 0, none⟩ 1 [c] Tryz.underlying43 Tryz.underlying5 Tryz.underlying9 (fun j hj => ?_)
  have e : j = 0 := by simpa using hj
  subst e
  exact cell_in (heap_alloc_new Y (.cells #[.int .u8 (c.toNat : Int)] T)) 0
set_option maxHeartbeats 1600000 in
theorem fDoLay (b : UInt8) (w : World) (g B size : Nat) (v : Value) (H : List UInt8) (h : WinH w g B size v H) :
    Calls Tryz.prog 20 #[layV b, .pointer (some ⟨g, 0, none⟩)] w fun e w' => e = .returned (.tuple #[.string (sOf [b]), .int .i64 0]) ∧ StepH w g B size v (lastN size (H ++ [b])) w' := by
  have t0 := fun W => fa_hit b W
  obtain ⟨V, hV⟩ : ∃ V, layV b = V := ⟨_, rfl⟩
  rw [hV] at t0 ⊢
  have HH := Lib.hid h
  have HC := Lib.hid (fun Y gx T hg => conv1 Y gx b T hg)
  have hcv := HC.out (w.alloc (.cells #[.int .u8 (b.toNat : Int)] 85)) (w.heap.size + 1) 5 (by simp)
  have HB := Lib.hid (((Below.refl w.heap.size w).alloc (Nat.le_refl _) (.cells #[.int .u8 (b.toNat : Int)] 85)).alloc (by simp) (.cells #[.int .u8 (b.toNat : Int)] 5))
  clear hV h
  go_enter Tryz.func20, Tryz.ntmps20
  go_wp2_with fail
  refine (hPut _ g B size v H (sOf [b]) (HH.out.low HB.out) (by show (1 : Nat) ≤ _; decide)).mono ?_; rintro e w2 ⟨rfl, hs⟩
  have HS := Lib.hid (hs.behind HB.out)
  clear hs hcv
  go_wp2_with fail
  go_ret2
  exact ⟨rfl, HS.out⟩
set_option maxHeartbeats 1600000 in
theorem fDoAgain (n d : Int) (w : World) (g B size : Nat) (v : Value) (H : List UInt8) (h : WinH w g B size v H) (T : List UInt8) (E : Int) (hT : copyS H n d = (T, E)) :
    Calls Tryz.prog 20 #[againV n d, .pointer (some ⟨g, 0, none⟩)] w fun e w' => e = .returned (.tuple #[.string (sOf T), .int .i64 E]) ∧ StepH w g B size v (lastN size (H ++ T)) w' := by
  have t0 := fun W => fa_miss n d W
  have t1 := fun W => fa_again n d W
  obtain ⟨V, hV⟩ : ∃ V, againV n d = V := ⟨_, rfl⟩
  rw [hV] at t0 t1 ⊢
  have HH := Lib.hid h
  have HT := Lib.hid hT
  have HB := Lib.hid ((Below.refl w.heap.size w).alloc (Nat.le_refl _) (.cells #[.int .i64 n, .int .i64 d] 87))
  clear hV h hT
  go_enter Tryz.func20, Tryz.ntmps20
  go_wp2_with fail
  refine (hCopy _ g B size v H n d (HH.out.low HB.out) T E HT.out).mono ?_; rintro e w2 ⟨rfl, hs⟩
  have HS := Lib.hid (hs.behind HB.out)
  clear hs
  go_wp2_with fail
  go_ret2
  exact ⟨rfl, HS.out⟩
theorem fDo (t : Tk) (D : Int) (w : World) (g B size : Nat) (v : Value) (H : List UInt8) (h : WinH w g B size v H) (T : List UInt8) (E : Int) (hT : actS t D H = (T, E)) :
    Calls Tryz.prog 20 #[actV t D, .pointer (some ⟨g, 0, none⟩)] w fun e w' => e = .returned (.tuple #[.string (sOf T), .int .i64 E]) ∧ StepH w g B size v (lastN size (H ++ T)) w' := by
  unfold actS at hT
  unfold actV
  by_cases hk : t.k = 0
  · rw [if_pos hk] at hT ⊢
    injection hT with e1 e2
    subst e1 e2
    exact fDoLay (byteOf t.b) w g B size v H h
  · rw [if_neg hk] at hT ⊢
    exact fDoAgain t.l D w g B size v H h T E hT
end Go.Proofs.YtipcdkemokkdfaaGreat
