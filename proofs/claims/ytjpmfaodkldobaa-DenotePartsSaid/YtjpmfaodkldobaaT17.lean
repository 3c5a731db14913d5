/- Layer 18: the law DenoteParts. -/
import Derived.Test.YtjpmfaodkldobaaT16
import Derived.Deep.CutRange
namespace Go.Proofs.Ytjpmfaodkldobaa
open Go.ChangeShapes Go.WideShapes Go.ChangeAt Go.RowKit
set_option linter.unusedVariables false
set_option linter.unusedSimpArgs false
set_option maxRecDepth 100000
def rowC (H : List UInt8) (W : World) : Nat := grownCap W H.length 0 5
def rowW (H : List UInt8) (W : World) : World := W.drew.alloc (.cells (bytesRow (sOf H) (rowC H W)) 5 ((bytesRow (sOf H) (rowC H W)).size, (bytesRow (sOf H) (rowC H W)).size + 1))
theorem row_conv (H : List UInt8) (W : World) : (convert 9 34 (.string (sOf H))).run Try.prog W = .ok (.slice (some ⟨W.heap.size, 0, none⟩) H.length (rowC H W)) (rowW H W) := by
  have hcv := run_bytes_of_string (P := Try.prog) W 9 34 5 (sOf H) Try.underlying9 Try.underlying34 Try.underlying5
  rw [sOf_sz] at hcv
  exact hcv
theorem row_own (H : List UInt8) (hH : H.length ≤ 1000000) (W : World) : OwnM W.heap.size (rowW H W) (.slice (some ⟨W.heap.size, 0, none⟩) H.length (rowC H W)) H := by
  have hM := ownM_conv W (sOf H) (by rw [sOf_sz]; omega)
  rw [sOf_li, sOf_sz] at hM
  exact hM
theorem row_isY (H : List UInt8) (hH : H.length ≤ 1000000) (W : World) : IsY (rowW H W) (some ⟨W.heap.size, 0, none⟩) H := by
  obtain ⟨a, c, ev, hY⟩ := m_isY (row_own H hH W)
  injection ev with e1 e2 e3
  subst e1
  exact hY
theorem row_below (H : List UInt8) (W : World) : Below W.heap.size W (rowW H W) := (Below.refl _ _).drew.alloc (Nat.le_refl _) _
structure PT (wo : World) (H : List UInt8) (q : Q4) (b : Option Addr) (cb : Nat) (l : List Tk) (win : Int) (g0 : Nat) (W : World) : Prop where
  e0 : W.heap[g0]? = some (.cells #[.string (sOf H), .int .i64 q.a, .int .i64 q.b, .int .i64 q.c, .int .i64 q.d, .slice b l.length cb, .int .i64 win] 44 (0, 0))
  tk : IsTk W b l
  bl : Below wo.heap.size wo W
section
variable {wo : World} {H : List UInt8} {q : Q4} {b : Option Addr} {cb : Nat} {l : List Tk} {win : Int} {g0 : Nat} {W W' : World}
theorem PT.kept (h : PT wo H q b cb l win g0 W) (hb : Below W.heap.size W W') : PT wo H q b cb l win g0 W' := ⟨(hb.block _ (block_lt h.e0)).trans h.e0, h.tk.kept hb, h.bl.trans (hb.mono h.bl.size)⟩
theorem PT.alloc (h : PT wo H q b cb l win g0 W) (o : Obj) : PT wo H q b cb l win g0 (W.alloc o) := h.kept ((Below.refl _ _).alloc (Nat.le_refl _) o)
abbrev S7 (H : List UInt8) (q : Q4) (b : Option Addr) (cb : Nat) (l : List Tk) (win : Int) (g0 : Nat) (W : World) : Prop :=
  W.cell? ⟨g0, 0, none⟩ = some (.string (sOf H)) ∧ W.cell? ⟨g0, 1, none⟩ = some (.int .i64 q.a) ∧ W.cell? ⟨g0, 2, none⟩ = some (.int .i64 q.b) ∧ W.cell? ⟨g0, 3, none⟩ = some (.int .i64 q.c) ∧ W.cell? ⟨g0, 4, none⟩ = some (.int .i64 q.d) ∧ W.cell? ⟨g0, 5, none⟩ = some (.slice b l.length cb) ∧ W.cell? ⟨g0, 6, none⟩ = some (.int .i64 win)
theorem PT.s7 (h : PT wo H q b cb l win g0 W) : S7 H q b cb l win g0 W := ⟨cell_lit h.e0 0 _ rfl, cell_lit h.e0 1 _ rfl, cell_lit h.e0 2 _ rfl, cell_lit h.e0 3 _ rfl, cell_lit h.e0 4 _ rfl, cell_lit h.e0 5 _ rfl, cell_lit h.e0 6 _ rfl⟩
end
abbrev S6 (g0 g10 cb : Nat) (x : Addr) (l : List Tk) (win : Int) (Q1 : Q4) (W : World) : Prop := W.cell? ⟨g10, 0, none⟩ = some (.int .i64 Q1.a) ∧ W.cell? ⟨g10, 1, none⟩ = some (.int .i64 Q1.b) ∧ W.cell? ⟨g10, 2, none⟩ = some (.int .i64 Q1.c) ∧ W.cell? ⟨g10, 3, none⟩ = some (.int .i64 Q1.d) ∧ W.cell? ⟨g0, 5, none⟩ = some (.slice (some x) l.length cb) ∧ W.cell? ⟨g0, 6, none⟩ = some (.int .i64 win)
theorem keep6 {g0 g10 cb : Nat} {x : Addr} {l : List Tk} {win : Int} {Q1 : Q4} {w wx : World} (hb : Below w.heap.size w wx) (h : S6 g0 g10 cb x l win Q1 w) : S6 g0 g10 cb x l win Q1 wx := by
  obtain ⟨c0, c1, c2, c3, h0, h1⟩ := h
  exact ⟨keepB hb c0, keepB hb c1, keepB hb c2, keepB hb c3, keepB hb h0, keepB hb h1⟩
theorem y_none {B : Nat} {w : World} {n c : Nat} {l : List UInt8} (h : OwnY B w (.slice none n c) l) : c = 0 ∧ l = [] := by
  rcases h.2 with ⟨e, h0⟩ | ⟨g, cap, cur, e, -⟩
  · injection e with e1 e2 e3; exact ⟨e3, List.eq_nil_of_length_eq_zero h0⟩
  · injection e with e; cases e
theorem y_isY2 {B : Nat} {w : World} {a : Option Addr} {n c : Nat} {l : List UInt8} (h : OwnY B w (.slice a n c) l) : IsY w a l := by
  obtain ⟨a', c', e, h2⟩ := y_isY h
  injection e with e1 e2 e3
  subst e1; exact h2
def PXB (wo : World) (B1 B14 : Nat) (v6 v14 : Value) (R : List UInt8) (g7 g15 : Nat) (W : World) : Prop := OwnY B1 W v6 R ∧ OwnY B14 W v14 R ∧ g7 < W.heap.size ∧ g15 < W.heap.size ∧ Below wo.heap.size wo W
abbrev S8 (wo : World) (B1 B14 : Nat) (v6 v14 : Value) (R : List UInt8) (Q : Q4) (g7 g15 : Nat) (W : World) : Prop := W.cell? ⟨g7, 0, none⟩ = some (.int .i64 Q.a) ∧ W.cell? ⟨g7, 1, none⟩ = some (.int .i64 Q.b) ∧ W.cell? ⟨g7, 2, none⟩ = some (.int .i64 Q.c) ∧ W.cell? ⟨g7, 3, none⟩ = some (.int .i64 Q.d) ∧ W.cell? ⟨g15, 0, none⟩ = some (.int .i64 Q.a) ∧ W.cell? ⟨g15, 1, none⟩ = some (.int .i64 Q.b) ∧ W.cell? ⟨g15, 2, none⟩ = some (.int .i64 Q.c) ∧ W.cell? ⟨g15, 3, none⟩ = some (.int .i64 Q.d) ∧ (convert 34 9 v6).run Try.prog W = .ok (.string (sOf R)) W ∧ (convert 34 9 v14).run Try.prog W = .ok (.string (sOf R)) W ∧ PXB wo B1 B14 v6 v14 R g7 g15 W
theorem keep8 {wo : World} {B1 B14 : Nat} {v6 v14 : Value} {R : List UInt8} {Q : Q4} {g7 g15 : Nat} {w1 w2 : World} (h : S8 wo B1 B14 v6 v14 R Q g7 g15 w1) (hb : Below w1.heap.size w1 w2) : S8 wo B1 B14 v6 v14 R Q g7 g15 w2 := by
  obtain ⟨c0, c1, c2, c3, d0, d1, d2, d3, -, -, h1, h2, l7, l15, hB⟩ := h
  exact ⟨keepB hb c0, keepB hb c1, keepB hb c2, keepB hb c3, keepB hb d0, keepB hb d1, keepB hb d2, keepB hb d3, y_conv (h1.kept hb), y_conv (h2.kept hb), h1.kept hb, h2.kept hb, Nat.lt_of_lt_of_le l7 hb.size, Nat.lt_of_lt_of_le l15 hb.size, hB.trans (hb.mono hB.size)⟩
set_option maxHeartbeats 3200000 in
theorem parts_walk (H : List UInt8) (q : Q4) (x : Addr) (cb : Nat) (l : List Tk) (win : Int) (A : Nat) (w : World) (hA : A ≤ 255) (h2 : IsTk w (some x) l) (hcb : l.length ≤ cb) (hcm : cb ≤ 9223372036854775807) (hH : H.length ≤ 500) (hl : l.length ≤ 60) :
    Calls Try.prog 6 #[.agg #[.string (sOf H), .int .i64 q.a, .int .i64 q.b, .int .i64 q.c, .int .i64 q.d, .slice (some x) l.length cb, .int .i64 win], .int .u8 A] w fun e w' => e = .returned (.bool true) ∧ Below w.heap.size w w' := by
  obtain ⟨⟨R, Q, E⟩, hR⟩ : ∃ r, appS win l q H = r := ⟨_, rfl⟩
  obtain ⟨K, hK⟩ : ∃ K, A % (l.length + 1) = K := ⟨_, rfl⟩
  have hKl : K ≤ l.length := by rw [← hK]; exact Nat.le_of_lt_succ (Nat.mod_lt _ (by omega))
  obtain ⟨⟨R1, Q1, E1⟩, hR1⟩ : ∃ r, appS win (l.take K) q H = r := ⟨_, rfl⟩
  have hKi2 : (A : Int) % ((l.length : Int) + 1) = (K : Int) := by
    rw [← hK]
    have e : ((A % (l.length + 1) : Nat) : Int) = (A : Int) % ((l.length + 1 : Nat) : Int) := by simp
    rw [e, Int.natCast_add]; rfl
  have hKi : (A : Int).tmod ((l.length : Int) + 1) = (K : Int) := by rw [Int.tmod_eq_emod_of_nonneg (by omega)]; exact hKi2
  have HP0 := Lib.hid (show PT w H q (some x) cb l win w.heap.size (w.alloc (.cells #[.string (sOf H), .int .i64 q.a, .int .i64 q.b, .int .i64 q.c, .int .i64 q.d, .slice (some x) l.length cb, .int .i64 win] 44)) from
    ⟨heap_alloc_new w _, h2.kept ((Below.refl _ _).alloc (Nat.le_refl _) _), (Below.refl _ _).alloc (Nat.le_refl _) _⟩)
  have CA := Lib.hid (fun W a c (h1 : IsY W a H) (hc : a = none → c = 0 ∧ H = []) (h : IsTk W (some x) l) => show Calls Try.prog 23 #[.slice a H.length c, .agg #[.int .i64 q.a, .int .i64 q.b, .int .i64 q.c, .int .i64 q.d], .slice (some x) l.length cb, .int .i64 win] W fun e w' => ∃ v, e = .returned (.tuple #[v, .agg #[.int .i64 Q.a, .int .i64 Q.b, .int .i64 Q.c, .int .i64 Q.d], .int .i64 E]) ∧ OwnY W.heap.size w' v R ∧ Below W.heap.size W w' from pApply a (some x) c cb H q l win W h1 hc h (by omega) (by omega) R Q E hR)
  have hlt : (l.take K).length = K := by rw [List.length_take]; omega
  have CB := Lib.hid (fun W a c x' c' (h1 : IsY W a H) (hc : a = none → c = 0 ∧ H = []) (h : IsTk W (some x') (l.take K)) => show Calls Try.prog 23 #[.slice a H.length c, .agg #[.int .i64 q.a, .int .i64 q.b, .int .i64 q.c, .int .i64 q.d], .slice (some x') K c', .int .i64 win] W fun e w' => ∃ v, e = .returned (.tuple #[v, .agg #[.int .i64 Q1.a, .int .i64 Q1.b, .int .i64 Q1.c, .int .i64 Q1.d], .int .i64 E1]) ∧ OwnY W.heap.size w' v R1 ∧ Below W.heap.size W w' from by
    have := pApply a (some x') c c' H q (l.take K) win W h1 hc h (by omega) (by rw [hlt]; omega) R1 Q1 E1 hR1
    rw [hlt] at this
    exact this)
  have hN : (sOf H).size = H.length := sOf_sz H
  have hz1 : decide ((500 : Int) < H.length) = false := decide_eq_false (by omega)
  have hz2 : decide ((60 : Int) < l.length) = false := decide_eq_false (by omega)
  have hcv := row_conv H
  have HLT := Lib.hid hlt
  have HR := Lib.hid hR
  have HR1 := Lib.hid hR1
  have HA := Lib.hid hA
  have HHl := Lib.hid hH
  clear hR hR1 h2 hK hlt hH
  have HP1 := Lib.hid (HP0.out.kept (row_below H _))
  have HY1 := Lib.hid (row_isY H (by have := HHl.out; omega) (w.alloc (.cells #[.string (sOf H), .int .i64 q.a, .int .i64 q.b, .int .i64 q.c, .int .i64 q.d, .slice (some x) l.length cb, .int .i64 win] 44)))
  obtain ⟨a0, a1, a2, a3, a4, a5, a6⟩ := HP1.out.s7
  have hs0 : (w.alloc (.cells #[.string (sOf H), .int .i64 q.a, .int .i64 q.b, .int .i64 q.c, .int .i64 q.d, .slice (some x) l.length cb, .int .i64 win] 44)).heap.size = w.heap.size + 1 := by simp
  rw [hs0] at HY1
  clear hs0
  go_enter Try.func6, Try.ntmps6
  go_wp2_with fail
  obtain ⟨W1, hW1⟩ : ∃ W1, rowW H (w.alloc (.cells #[.string (sOf H), .int .i64 q.a, .int .i64 q.b, .int .i64 q.c, .int .i64 q.d, .slice (some x) l.length cb, .int .i64 win] 44)) = W1 := ⟨_, rfl⟩
  rw [hW1] at HP1 HY1 a0 a1 a2 a3 a4 a5 a6 ⊢
  clear hW1 HP0
  refine (CA.out _ _ _ HY1.out (by intro h; cases h) HP1.out.tk).mono ?_; rintro e w2 ⟨v6, rfl, ho6, hb2⟩
  obtain ⟨va6, vc6, rfl⟩ := ho6.slice
  have HP2 := Lib.hid ((HP1.out.kept hb2).alloc (.cells #[.int .i64 Q.a, .int .i64 Q.b, .int .i64 Q.c, .int .i64 Q.d] 41))
  have HO6 := Lib.hid (ho6.alloc (.cells #[.int .i64 Q.a, .int .i64 Q.b, .int .i64 Q.c, .int .i64 Q.d] 41))
  have HE7 := Lib.hid (heap_alloc_new w2 (.cells #[.int .i64 Q.a, .int .i64 Q.b, .int .i64 Q.c, .int .i64 Q.d] 41))
  have hg02 : w.heap.size < w2.heap.size := Nat.lt_of_lt_of_le (block_lt HP1.out.e0) hb2.size
  clear ho6 hb2 HP1 HY1 CA a0 a1 a2 a3 a4 a5 a6
  obtain ⟨g0, hg0⟩ : ∃ g0, w.heap.size = g0 := ⟨_, rfl⟩
  obtain ⟨B1, hB1⟩ : ∃ B1, W1.heap.size = B1 := ⟨_, rfl⟩
  go_wp2_with fail
  rw [hg0] at HP2 hg02
  try simp only [hg0]
  rw [hB1] at HO6
  have HG0 := Lib.hid hg0
  clear hg0 hB1
  obtain ⟨g7, hg7⟩ : ∃ g7, w2.heap.size = g7 := ⟨_, rfl⟩
  rw [hg7] at HE7 hg02 ⊢
  generalize w2.alloc (.cells #[.int .i64 Q.a, .int .i64 Q.b, .int .i64 Q.c, .int .i64 Q.d] 41) = y2 at *
  have hP2 := HP2.out.s7
  have hb20 : Below y2.heap.size y2 y2.drew := (Below.refl _ _).drew
  have hbA : Below y2.heap.size y2 (rowW H y2.drew) := hb20.trans ((row_below H y2.drew).mono (Nat.le_refl _))
  have hbAz : Below y2.heap.size y2 ((rowW H y2.drew).alloc (.cells #[.int .i64 0, .int .i64 0, .int .i64 0, .int .i64 0] 41)) := hbA.alloc hbA.size _
  have hbZ : Below y2.heap.size y2 (y2.alloc (.cells #[.int .i64 0, .int .i64 0, .int .i64 0, .int .i64 0] 41)).drew := ((Below.refl _ _).alloc (Nat.le_refl _) _).drew
  have hbZA : Below y2.heap.size y2 (rowW H (y2.alloc (.cells #[.int .i64 0, .int .i64 0, .int .i64 0, .int .i64 0] 41)).drew) := hbZ.trans ((row_below H _).mono hbZ.size)
  have hHH : H.length ≤ 1000000 := by have := HHl.out; omega
  have HYA := Lib.hid (show IsY (rowW H y2.drew) (some ⟨y2.heap.size, 0, none⟩) H from row_isY H hHH y2.drew)
  have HYAz := Lib.hid (show IsY ((rowW H y2.drew).alloc (.cells #[.int .i64 0, .int .i64 0, .int .i64 0, .int .i64 0] 41)) (some ⟨y2.heap.size, 0, none⟩) H from HYA.out.kept ((Below.refl _ _).alloc (Nat.le_refl _) _))
  have hsz1 : (y2.alloc (.cells #[.int .i64 0, .int .i64 0, .int .i64 0, .int .i64 0] 41)).drew.heap.size = y2.heap.size + 1 := by show (y2.alloc _).heap.size = _; simp
  have HYZA := Lib.hid (show IsY (rowW H (y2.alloc (.cells #[.int .i64 0, .int .i64 0, .int .i64 0, .int .i64 0] 41)).drew) (some ⟨y2.heap.size + 1, 0, none⟩) H from by rw [← hsz1]; exact row_isY H hHH _)
  have TKA := Lib.hid ((HP2.out.tk.kept hbA).take K)
  have TKAz := Lib.hid ((HP2.out.tk.kept hbAz).take K)
  have TKZA := Lib.hid ((HP2.out.tk.kept hbZA).take K)
  have HXAz := Lib.hid (heap_alloc_new (rowW H y2.drew) (.cells #[.int .i64 0, .int .i64 0, .int .i64 0, .int .i64 0] 41))
  have hltAz := block_lt HXAz.out
  have HXZA := Lib.hid (show (rowW H (y2.alloc (.cells #[.int .i64 0, .int .i64 0, .int .i64 0, .int .i64 0] 41)).drew).heap[y2.heap.size]? = some (.cells #[.int .i64 0, .int .i64 0, .int .i64 0, .int .i64 0] 41 (0, 0)) from ((row_below H (y2.alloc (.cells #[.int .i64 0, .int .i64 0, .int .i64 0, .int .i64 0] 41)).drew).block y2.heap.size (by rw [hsz1]; omega)).trans (heap_alloc_new y2 _))
  have hltZA := block_lt HXZA.out
  have hnn : ∀ a : Addr, some a = none → rowC H y2.drew = 0 ∧ H = [] := fun a h => by cases h
  clear hsz1 hHH
  go_cut [9, 10, 11] from 49 to 64 (fun s9 s10 s11 wc => ∃ (g10 : Nat) (v9 : Value) (B9 : Nat), s9 = v9 ∧ s10 = .pointer (some ⟨g10, 0, none⟩) ∧ s11 = .int .i64 E1 ∧ Hid (PT w H q (some x) cb l win g0 wc) ∧ Hid (OwnY B1 wc (.slice va6 R.length vc6) R) ∧ Hid (wc.heap[g7]? = some (.cells #[.int .i64 Q.a, .int .i64 Q.b, .int .i64 Q.c, .int .i64 Q.d] 41 (0, 0))) ∧ Hid (wc.heap[g10]? = some (.cells #[.int .i64 Q1.a, .int .i64 Q1.b, .int .i64 Q1.c, .int .i64 Q1.d] 41 (0, 0))) ∧ Hid (OwnY B9 wc v9 R1))
  case first =>
    have hk0 : (0 : Int) ≤ (K : Int) := by omega
    have hkc : (K : Int) ≤ (cb : Int) := by omega
    have hP20 := (HP2.out.kept hb20).s7
    refine wp_region_held_drew (S := (fun W => W.cell? ⟨g0, 0, none⟩ = some (.string (sOf H)) ∧ W.cell? ⟨g0, 1, none⟩ = some (.int .i64 q.a) ∧ W.cell? ⟨g0, 2, none⟩ = some (.int .i64 q.b) ∧ W.cell? ⟨g0, 3, none⟩ = some (.int .i64 q.c) ∧ W.cell? ⟨g0, 4, none⟩ = some (.int .i64 q.d) ∧ W.cell? ⟨g0, 5, none⟩ = some (.slice (some x) l.length cb) ∧ W.cell? ⟨g0, 6, none⟩ = some (.int .i64 win))) (by kernel_rfl) hP20 (fun hHeld => ?_)
    refine wpAnyH_take (i := 0) (oi := { dst := some 50, op := Op.fieldAddr 44 (Operand.tmp 2) 0, type := 0, pos := "law.go:61", after := #[], guard := none }) (v := ?_) rfl (by kernel_rfl) (by kernel_rfl) (by kernel_rfl) (fun _ _ _ h => h) (Or.inl ⟨by rfl, ?_⟩) hHeld ?_
    rotate_left
    · (intro w hSw; (try dsimp only at hSw); go_simp; first | done | with_reducible rfl)
    (try simp only [Act.put, List.setIfInBounds_toArray, List.set_cons_zero, List.set_cons_succ])
    refine wpAnyH_take (i := 1) (oi := { dst := some 51, op := Op.load 9 (Operand.tmp 50), type := 9, pos := "law.go:61", after := #[{ on := 0, ground := Ground.data }], guard := none }) (v := ?_) rfl (by kernel_rfl) (by kernel_rfl) (by kernel_rfl) (fun _ _ _ h => h) (Or.inl ⟨by rfl, ?_⟩) hHeld ?_
    rotate_left
    · (intro w hSw; (try dsimp only at hSw); go_simp; first | done | with_reducible rfl)
    (try simp only [Act.put, List.setIfInBounds_toArray, List.set_cons_zero, List.set_cons_succ])
    refine wpAnyH_take (i := 3) (oi := { dst := some 53, op := Op.fieldAddr 44 (Operand.tmp 2) 1, type := 0, pos := "law.go:61", after := #[], guard := none }) (v := ?_) rfl (by kernel_rfl) (by kernel_rfl) (by kernel_rfl) (fun _ _ _ h => h) (Or.inl ⟨by rfl, ?_⟩) hHeld ?_
    rotate_left
    · (intro w hSw; (try dsimp only at hSw); go_simp; first | done | with_reducible rfl)
    (try simp only [Act.put, List.setIfInBounds_toArray, List.set_cons_zero, List.set_cons_succ])
    refine wpAnyH_take (i := 4) (oi := { dst := some 54, op := Op.load 41 (Operand.tmp 53), type := 41, pos := "law.go:61", after := #[{ on := 3, ground := Ground.data }], guard := none }) (v := ?_) rfl (by kernel_rfl) (by kernel_rfl) (by kernel_rfl) (fun _ _ _ h => h) (Or.inl ⟨by rfl, ?_⟩) hHeld ?_
    rotate_left
    · (intro w hSw; (try dsimp only at hSw); go_simp; first | done | with_reducible rfl)
    (try simp only [Act.put, List.setIfInBounds_toArray, List.set_cons_zero, List.set_cons_succ])
    refine wpAnyH_take (i := 5) (oi := { dst := some 55, op := Op.fieldAddr 44 (Operand.tmp 2) 2, type := 0, pos := "law.go:61", after := #[], guard := none }) (v := ?_) rfl (by kernel_rfl) (by kernel_rfl) (by kernel_rfl) (fun _ _ _ h => h) (Or.inl ⟨by rfl, ?_⟩) hHeld ?_
    rotate_left
    · (intro w hSw; (try dsimp only at hSw); go_simp; first | done | with_reducible rfl)
    (try simp only [Act.put, List.setIfInBounds_toArray, List.set_cons_zero, List.set_cons_succ])
    refine wpAnyH_take (i := 6) (oi := { dst := some 56, op := Op.load 42 (Operand.tmp 55), type := 42, pos := "law.go:61", after := #[{ on := 5, ground := Ground.data }], guard := none }) (v := ?_) rfl (by kernel_rfl) (by kernel_rfl) (by kernel_rfl) (fun _ _ _ h => h) (Or.inl ⟨by rfl, ?_⟩) hHeld ?_
    rotate_left
    · (intro w hSw; (try dsimp only at hSw); go_simp; first | done | with_reducible rfl)
    (try simp only [Act.put, List.setIfInBounds_toArray, List.set_cons_zero, List.set_cons_succ])
    refine wpAnyH_take (i := 7) (oi := { dst := some 57, op := Op.move (Operand.tmp 5), type := 3, pos := "law.go:61", after := #[], guard := none }) (v := ?_) rfl (by kernel_rfl) (by kernel_rfl) (by kernel_rfl) (fun _ _ _ h => h) (Or.inl ⟨by rfl, ?_⟩) hHeld ?_
    rotate_left
    · (intro w hSw; (try dsimp only at hSw); go_simp; first | done | with_reducible rfl)
    (try simp only [Act.put, List.setIfInBounds_toArray, List.set_cons_zero, List.set_cons_succ])
    refine wpAnyH_take (i := 8) (oi := { dst := some 58, op := Op.slice 42 (Operand.tmp 56) none (some (Operand.tmp 57)) none, type := 42, pos := "law.go:61", after := #[{ on := 6, ground := Ground.data }, { on := 7, ground := Ground.data }], guard := none }) (v := ?_) rfl (by kernel_rfl) (by kernel_rfl) (by kernel_rfl) (fun _ _ _ h => h) (Or.inl ⟨by rfl, ?_⟩) hHeld ?_
    rotate_left
    · (intro w hSw; (try dsimp only at hSw); go_simp; first | done | with_reducible rfl)
    (try simp only [Act.put, List.setIfInBounds_toArray, List.set_cons_zero, List.set_cons_succ])
    refine wpAnyH_take (i := 9) (oi := { dst := some 59, op := Op.fieldAddr 44 (Operand.tmp 2) 3, type := 0, pos := "law.go:61", after := #[], guard := none }) (v := ?_) rfl (by kernel_rfl) (by kernel_rfl) (by kernel_rfl) (fun _ _ _ h => h) (Or.inl ⟨by rfl, ?_⟩) hHeld ?_
    rotate_left
    · (intro w hSw; (try dsimp only at hSw); go_simp; first | done | with_reducible rfl)
    (try simp only [Act.put, List.setIfInBounds_toArray, List.set_cons_zero, List.set_cons_succ])
    refine wpAnyH_take (i := 10) (oi := { dst := some 60, op := Op.load 3 (Operand.tmp 59), type := 3, pos := "law.go:61", after := #[{ on := 9, ground := Ground.data }], guard := none }) (v := ?_) rfl (by kernel_rfl) (by kernel_rfl) (by kernel_rfl) (fun _ _ _ h => h) (Or.inl ⟨by rfl, ?_⟩) hHeld ?_
    rotate_left
    · (intro w hSw; (try dsimp only at hSw); go_simp; first | done | with_reducible rfl)
    (try simp only [Act.put, List.setIfInBounds_toArray, List.set_cons_zero, List.set_cons_succ])
    refine wpAnyH_ready (rs := [2, 16]) (by kernel_rfl) (by simp) ?_
    refine AllReadyH.cons (o := { dst := some 52, op := Op.convert 9 34 (Operand.tmp 51), type := 34, pos := "law.go:61", after := #[{ on := 1, ground := Ground.data }], guard := none }) rfl (fun K0 hK => ?_) ?_
    · go_simp
      refine hK.out _ _ (by (first | with_reducible exact hP20 | with_reducible exact (HP2.out.kept hb20).s7 | with_reducible exact (HP2.out.kept hbA).s7 | with_reducible exact (HP2.out.kept hbAz).s7 | with_reducible exact (HP2.out.kept hbZ).s7 | with_reducible exact (HP2.out.kept hbZA).s7 | with_reducible exact (HP2.out.kept hbx).s7 | with_reducible exact (HP2.out.kept (hby _)).s7 | with_reducible exact (HP2.out.kept (hbz _ _ _ _)).s7)) (fun hHeld => ?_)
      clear hK K0
      (try simp only [Act.put, List.setIfInBounds_toArray, List.set_cons_zero, List.set_cons_succ])
      refine wpAnyH_ready (rs := [11, 16]) (by kernel_rfl) (by simp) ?_
      refine AllReadyH.cons (o := { dst := some 61, op := Op.call { callee := Callee.value (Operand.func 23), args := #[Operand.tmp 52, Operand.tmp 54, Operand.tmp 58, Operand.tmp 60], argTypes := #[34, 41, 42, 3] }, type := 45, pos := "law.go:61", after := #[{ on := 2, ground := Ground.data }, { on := 4, ground := Ground.data }, { on := 8, ground := Ground.data }, { on := 10, ground := Ground.data }], guard := none }) rfl (fun K0 hK => ?_) ?_
      · go_simp
        with_reducible refine (CB.out _ _ _ _ _ HYA.out (by intro h; cases h) TKA.out).mono ?_
        rintro e wx ⟨v9, rfl, ho9, hb9⟩
        have hbx : Below y2.heap.size y2 wx := hbA.trans (hb9.mono hbA.size)
        have hby : ∀ o, Below y2.heap.size y2 (wx.alloc o) := fun o => (hbx.alloc hbx.size o)
        go_wp2_with fail
        refine hK.out _ _ (by (first | with_reducible exact hP20 | with_reducible exact (HP2.out.kept hb20).s7 | with_reducible exact (HP2.out.kept hbA).s7 | with_reducible exact (HP2.out.kept hbAz).s7 | with_reducible exact (HP2.out.kept hbZ).s7 | with_reducible exact (HP2.out.kept hbZA).s7 | with_reducible exact (HP2.out.kept hbx).s7 | with_reducible exact (HP2.out.kept (hby _)).s7 | with_reducible exact (HP2.out.kept (hbz _ _ _ _)).s7)) (fun hHeld => ?_)
        clear hK K0
        (try simp only [Act.put, List.setIfInBounds_toArray, List.set_cons_zero, List.set_cons_succ])
        refine wpAnyH_take (i := 12) (oi := { dst := some 49, op := Op.move (Operand.tmp 61), type := 45, pos := "law.go:61", after := #[{ on := 11, ground := Ground.data }], guard := none }) (v := ?_) rfl (by kernel_rfl) (by kernel_rfl) (by kernel_rfl) (fun _ _ _ h => h) (Or.inl ⟨by rfl, ?_⟩) hHeld ?_
        rotate_left
        · (intro w hSw; (try dsimp only at hSw); go_simp; first | done | with_reducible rfl)
        (try simp only [Act.put, List.setIfInBounds_toArray, List.set_cons_zero, List.set_cons_succ])
        refine wpAnyH_take (i := 13) (oi := { dst := some 62, op := Op.extract (Operand.tmp 49) 0, type := 34, pos := "law.go:61", after := #[{ on := 12, ground := Ground.data }], guard := none }) (v := ?_) rfl (by kernel_rfl) (by kernel_rfl) (by kernel_rfl) (fun _ _ _ h => h) (Or.inl ⟨by rfl, ?_⟩) hHeld ?_
        rotate_left
        · (intro w hSw; (try dsimp only at hSw); go_simp; first | done | with_reducible rfl)
        (try simp only [Act.put, List.setIfInBounds_toArray, List.set_cons_zero, List.set_cons_succ])
        refine wpAnyH_take (i := 14) (oi := { dst := some 63, op := Op.extract (Operand.tmp 49) 1, type := 41, pos := "law.go:61", after := #[{ on := 12, ground := Ground.data }, { on := 17, ground := Ground.gcOnly Departure.lateStores }], guard := none }) (v := ?_) rfl (by kernel_rfl) (by kernel_rfl) (by kernel_rfl) (fun _ _ _ h => h) (Or.inl ⟨by rfl, ?_⟩) hHeld ?_
        rotate_left
        · (intro w hSw; (try dsimp only at hSw); go_simp; first | done | with_reducible rfl)
        (try simp only [Act.put, List.setIfInBounds_toArray, List.set_cons_zero, List.set_cons_succ])
        refine wpAnyH_take (i := 15) (oi := { dst := some 64, op := Op.extract (Operand.tmp 49) 2, type := 24, pos := "law.go:61", after := #[{ on := 12, ground := Ground.data }, { on := 18, ground := Ground.gcOnly Departure.lateStores }], guard := none }) (v := ?_) rfl (by kernel_rfl) (by kernel_rfl) (by kernel_rfl) (fun _ _ _ h => h) (Or.inl ⟨by rfl, ?_⟩) hHeld ?_
        rotate_left
        · (intro w hSw; (try dsimp only at hSw); go_simp; first | done | with_reducible rfl)
        (try simp only [Act.put, List.setIfInBounds_toArray, List.set_cons_zero, List.set_cons_succ])
        refine wpAnyH_ready (rs := [16]) (by kernel_rfl) (by simp) ?_
        refine AllReadyH.cons (o := { dst := some 10, op := Op.alloc 41, type := 0, pos := "law.go:61", after := #[], guard := none }) rfl (fun K0 hK => ?_) ?_
        · go_simp
          refine hK.out _ _ (by (first | with_reducible exact hP20 | with_reducible exact (HP2.out.kept hb20).s7 | with_reducible exact (HP2.out.kept hbA).s7 | with_reducible exact (HP2.out.kept hbAz).s7 | with_reducible exact (HP2.out.kept hbZ).s7 | with_reducible exact (HP2.out.kept hbZA).s7 | with_reducible exact (HP2.out.kept hbx).s7 | with_reducible exact (HP2.out.kept (hby _)).s7 | with_reducible exact (HP2.out.kept (hbz _ _ _ _)).s7)) (fun hHeld => ?_)
          clear hK K0
          (try simp only [Act.put, List.setIfInBounds_toArray, List.set_cons_zero, List.set_cons_succ])
          refine wpAnyH_take (i := 17) (oi := { dst := some 9, op := Op.assign (Operand.tmp 62), type := 34, pos := "law.go:61", after := #[{ on := 13, ground := Ground.data }, { on := 11, ground := Ground.chain }, { on := 0, ground := Ground.phase }, { on := 1, ground := Ground.phase }, { on := 2, ground := Ground.phase }, { on := 3, ground := Ground.phase }, { on := 4, ground := Ground.phase }, { on := 5, ground := Ground.phase }, { on := 6, ground := Ground.phase }, { on := 7, ground := Ground.phase }, { on := 8, ground := Ground.phase }, { on := 9, ground := Ground.phase }, { on := 10, ground := Ground.phase }, { on := 11, ground := Ground.phase }, { on := 12, ground := Ground.phase }, { on := 13, ground := Ground.phase }, { on := 14, ground := Ground.textOnly Departure.lateStores }, { on := 15, ground := Ground.textOnly Departure.lateStores }, { on := 16, ground := Ground.phase }], guard := none }) (v := ?_) rfl (by kernel_rfl) (by kernel_rfl) (by kernel_rfl) (fun _ _ _ h => h) (Or.inl ⟨by rfl, ?_⟩) hHeld ?_
          rotate_left
          · (intro w hSw; (try dsimp only at hSw); go_simp; first | done | with_reducible rfl)
          (try simp only [Act.put, List.setIfInBounds_toArray, List.set_cons_zero, List.set_cons_succ])
          refine wpAnyH_ready (rs := [18]) (by kernel_rfl) (by simp) ?_
          refine AllReadyH.cons (o := { dst := none, op := Op.store 41 (Operand.tmp 10) (Operand.tmp 63), type := 0, pos := "law.go:61", after := #[{ on := 16, ground := Ground.data }, { on := 14, ground := Ground.data }, { on := 17, ground := Ground.chain }, { on := 0, ground := Ground.phase }, { on := 1, ground := Ground.phase }, { on := 2, ground := Ground.phase }, { on := 3, ground := Ground.phase }, { on := 4, ground := Ground.phase }, { on := 5, ground := Ground.phase }, { on := 6, ground := Ground.phase }, { on := 7, ground := Ground.phase }, { on := 8, ground := Ground.phase }, { on := 9, ground := Ground.phase }, { on := 10, ground := Ground.phase }, { on := 11, ground := Ground.phase }, { on := 12, ground := Ground.phase }, { on := 13, ground := Ground.phase }, { on := 14, ground := Ground.phase }, { on := 15, ground := Ground.textOnly Departure.lateStores }, { on := 16, ground := Ground.phase }, { on := 17, ground := Ground.phase }], guard := none }) rfl (fun K0 hK => ?_) ?_
          · go_simp
            refine hK.out _ _ (by (first | with_reducible exact hP20 | with_reducible exact (HP2.out.kept hb20).s7 | with_reducible exact (HP2.out.kept hbA).s7 | with_reducible exact (HP2.out.kept hbAz).s7 | with_reducible exact (HP2.out.kept hbZ).s7 | with_reducible exact (HP2.out.kept hbZA).s7 | with_reducible exact (HP2.out.kept hbx).s7 | with_reducible exact (HP2.out.kept (hby _)).s7 | with_reducible exact (HP2.out.kept (hbz _ _ _ _)).s7)) (fun hHeld => ?_)
            clear hK K0
            (try simp only [Act.put, List.setIfInBounds_toArray, List.set_cons_zero, List.set_cons_succ])
            refine wpAnyH_take (i := 19) (oi := { dst := some 11, op := Op.assign (Operand.tmp 64), type := 24, pos := "law.go:61", after := #[{ on := 15, ground := Ground.data }, { on := 18, ground := Ground.chain }, { on := 0, ground := Ground.phase }, { on := 1, ground := Ground.phase }, { on := 2, ground := Ground.phase }, { on := 3, ground := Ground.phase }, { on := 4, ground := Ground.phase }, { on := 5, ground := Ground.phase }, { on := 6, ground := Ground.phase }, { on := 7, ground := Ground.phase }, { on := 8, ground := Ground.phase }, { on := 9, ground := Ground.phase }, { on := 10, ground := Ground.phase }, { on := 11, ground := Ground.phase }, { on := 12, ground := Ground.phase }, { on := 13, ground := Ground.phase }, { on := 14, ground := Ground.phase }, { on := 15, ground := Ground.phase }, { on := 16, ground := Ground.phase }, { on := 17, ground := Ground.phase }, { on := 18, ground := Ground.phase }], guard := none }) (v := ?_) rfl (by kernel_rfl) (by kernel_rfl) (by kernel_rfl) (fun _ _ _ h => h) (Or.inl ⟨by rfl, ?_⟩) hHeld ?_
            rotate_left
            · (intro w hSw; (try dsimp only at hSw); go_simp; first | done | with_reducible rfl)
            (try simp only [Act.put, List.setIfInBounds_toArray, List.set_cons_zero, List.set_cons_succ])
            refine wpAnyH_done (by kernel_rfl) ?_ _
            go_wp2_with fail
            go_meet
            case rel => first
              | exact ⟨_, _, _, rfl, rfl, rfl, Lib.hid (HP2.out.kept (hby _)), Lib.hid (HO6.out.kept (hby _)), Lib.hid (((hby _).block _ (block_lt HE7.out)).trans HE7.out), Lib.hid (heap_alloc_new wx _), Lib.hid (ho9.alloc _)⟩
              | exact ⟨_, _, _, rfl, rfl, rfl, Lib.hid (HP2.out.kept (hbz (.int .i64 Q1.a) (.int .i64 Q1.b) (.int .i64 Q1.c) (.int .i64 Q1.d))), Lib.hid (HO6.out.kept (hbz (.int .i64 Q1.a) (.int .i64 Q1.b) (.int .i64 Q1.c) (.int .i64 Q1.d))), Lib.hid (((hbz (.int .i64 Q1.a) (.int .i64 Q1.b) (.int .i64 Q1.c) (.int .i64 Q1.d)).block _ (block_lt HE7.out)).trans HE7.out), Lib.hid (set4 hx8 (.int .i64 Q1.a) (.int .i64 Q1.b) (.int .i64 Q1.c) (.int .i64 Q1.d)), Lib.hid (set4_own ho9 hltAz (.int .i64 Q1.a) (.int .i64 Q1.b) (.int .i64 Q1.c) (.int .i64 Q1.d))⟩
              | exact ⟨_, _, _, rfl, rfl, rfl, Lib.hid (HP2.out.kept (hbz (.int .i64 Q1.a) (.int .i64 Q1.b) (.int .i64 Q1.c) (.int .i64 Q1.d))), Lib.hid (HO6.out.kept (hbz (.int .i64 Q1.a) (.int .i64 Q1.b) (.int .i64 Q1.c) (.int .i64 Q1.d))), Lib.hid (((hbz (.int .i64 Q1.a) (.int .i64 Q1.b) (.int .i64 Q1.c) (.int .i64 Q1.d)).block _ (block_lt HE7.out)).trans HE7.out), Lib.hid (set4 hx8 (.int .i64 Q1.a) (.int .i64 Q1.b) (.int .i64 Q1.c) (.int .i64 Q1.d)), Lib.hid (set4_own ho9 hltZA (.int .i64 Q1.a) (.int .i64 Q1.b) (.int .i64 Q1.c) (.int .i64 Q1.d))⟩
          exact AllReadyH.nil
        exact AllReadyH.nil
      refine AllReadyH.cons (o := { dst := some 10, op := Op.alloc 41, type := 0, pos := "law.go:61", after := #[], guard := none }) rfl (fun K0 hK => ?_) ?_
      · go_simp
        refine hK.out _ _ (by (first | with_reducible exact hP20 | with_reducible exact (HP2.out.kept hb20).s7 | with_reducible exact (HP2.out.kept hbA).s7 | with_reducible exact (HP2.out.kept hbAz).s7 | with_reducible exact (HP2.out.kept hbZ).s7 | with_reducible exact (HP2.out.kept hbZA).s7 | with_reducible exact (HP2.out.kept hbx).s7 | with_reducible exact (HP2.out.kept (hby _)).s7 | with_reducible exact (HP2.out.kept (hbz _ _ _ _)).s7)) (fun hHeld => ?_)
        clear hK K0
        (try simp only [Act.put, List.setIfInBounds_toArray, List.set_cons_zero, List.set_cons_succ])
        refine wpAnyH_ready (rs := [11]) (by kernel_rfl) (by simp) ?_
        refine AllReadyH.cons (o := { dst := some 61, op := Op.call { callee := Callee.value (Operand.func 23), args := #[Operand.tmp 52, Operand.tmp 54, Operand.tmp 58, Operand.tmp 60], argTypes := #[34, 41, 42, 3] }, type := 45, pos := "law.go:61", after := #[{ on := 2, ground := Ground.data }, { on := 4, ground := Ground.data }, { on := 8, ground := Ground.data }, { on := 10, ground := Ground.data }], guard := none }) rfl (fun K0 hK => ?_) ?_
        · go_simp
          with_reducible refine (CB.out _ _ _ _ _ HYAz.out (by intro h; cases h) TKAz.out).mono ?_
          rintro e wx ⟨v9, rfl, ho9, hb9⟩
          have hbx : Below y2.heap.size y2 wx := hbAz.trans (hb9.mono hbAz.size)
          have hx8 := (hb9.block (rowW H y2.drew).heap.size hltAz).trans HXAz.out
          have l8 := block_lt hx8
          have c80 := cell_lit hx8 0 _ rfl
          have c81 := cell_lit hx8 1 _ rfl
          have c82 := cell_lit hx8 2 _ rfl
          have c83 := cell_lit hx8 3 _ rfl
          have f80 := free_in hx8 0
          have f81 := free_in hx8 1
          have f82 := free_in hx8 2
          have f83 := free_in hx8 3
          have hbz : ∀ u0 u1 u2 u3, Below y2.heap.size y2 ((((wx.setCell ⟨(rowW H y2.drew).heap.size, 0, none⟩ u0).setCell ⟨(rowW H y2.drew).heap.size, 1, none⟩ u1).setCell ⟨(rowW H y2.drew).heap.size, 2, none⟩ u2).setCell ⟨(rowW H y2.drew).heap.size, 3, none⟩ u3) := fun u0 u1 u2 u3 => set4_below hbx hbA.size u0 u1 u2 u3
          go_wp2_with fail
          refine hK.out _ _ (by (first | with_reducible exact hP20 | with_reducible exact (HP2.out.kept hb20).s7 | with_reducible exact (HP2.out.kept hbA).s7 | with_reducible exact (HP2.out.kept hbAz).s7 | with_reducible exact (HP2.out.kept hbZ).s7 | with_reducible exact (HP2.out.kept hbZA).s7 | with_reducible exact (HP2.out.kept hbx).s7 | with_reducible exact (HP2.out.kept (hby _)).s7 | with_reducible exact (HP2.out.kept (hbz _ _ _ _)).s7)) (fun hHeld => ?_)
          clear hK K0
          (try simp only [Act.put, List.setIfInBounds_toArray, List.set_cons_zero, List.set_cons_succ])
          refine wpAnyH_take (i := 12) (oi := { dst := some 49, op := Op.move (Operand.tmp 61), type := 45, pos := "law.go:61", after := #[{ on := 11, ground := Ground.data }], guard := none }) (v := ?_) rfl (by kernel_rfl) (by kernel_rfl) (by kernel_rfl) (fun _ _ _ h => h) (Or.inl ⟨by rfl, ?_⟩) hHeld ?_
          rotate_left
          · (intro w hSw; (try dsimp only at hSw); go_simp; first | done | with_reducible rfl)
          (try simp only [Act.put, List.setIfInBounds_toArray, List.set_cons_zero, List.set_cons_succ])
          refine wpAnyH_take (i := 13) (oi := { dst := some 62, op := Op.extract (Operand.tmp 49) 0, type := 34, pos := "law.go:61", after := #[{ on := 12, ground := Ground.data }], guard := none }) (v := ?_) rfl (by kernel_rfl) (by kernel_rfl) (by kernel_rfl) (fun _ _ _ h => h) (Or.inl ⟨by rfl, ?_⟩) hHeld ?_
          rotate_left
          · (intro w hSw; (try dsimp only at hSw); go_simp; first | done | with_reducible rfl)
          (try simp only [Act.put, List.setIfInBounds_toArray, List.set_cons_zero, List.set_cons_succ])
          refine wpAnyH_take (i := 14) (oi := { dst := some 63, op := Op.extract (Operand.tmp 49) 1, type := 41, pos := "law.go:61", after := #[{ on := 12, ground := Ground.data }, { on := 17, ground := Ground.gcOnly Departure.lateStores }], guard := none }) (v := ?_) rfl (by kernel_rfl) (by kernel_rfl) (by kernel_rfl) (fun _ _ _ h => h) (Or.inl ⟨by rfl, ?_⟩) hHeld ?_
          rotate_left
          · (intro w hSw; (try dsimp only at hSw); go_simp; first | done | with_reducible rfl)
          (try simp only [Act.put, List.setIfInBounds_toArray, List.set_cons_zero, List.set_cons_succ])
          refine wpAnyH_take (i := 15) (oi := { dst := some 64, op := Op.extract (Operand.tmp 49) 2, type := 24, pos := "law.go:61", after := #[{ on := 12, ground := Ground.data }, { on := 18, ground := Ground.gcOnly Departure.lateStores }], guard := none }) (v := ?_) rfl (by kernel_rfl) (by kernel_rfl) (by kernel_rfl) (fun _ _ _ h => h) (Or.inl ⟨by rfl, ?_⟩) hHeld ?_
          rotate_left
          · (intro w hSw; (try dsimp only at hSw); go_simp; first | done | with_reducible rfl)
          (try simp only [Act.put, List.setIfInBounds_toArray, List.set_cons_zero, List.set_cons_succ])
          refine wpAnyH_take (i := 17) (oi := { dst := some 9, op := Op.assign (Operand.tmp 62), type := 34, pos := "law.go:61", after := #[{ on := 13, ground := Ground.data }, { on := 11, ground := Ground.chain }, { on := 0, ground := Ground.phase }, { on := 1, ground := Ground.phase }, { on := 2, ground := Ground.phase }, { on := 3, ground := Ground.phase }, { on := 4, ground := Ground.phase }, { on := 5, ground := Ground.phase }, { on := 6, ground := Ground.phase }, { on := 7, ground := Ground.phase }, { on := 8, ground := Ground.phase }, { on := 9, ground := Ground.phase }, { on := 10, ground := Ground.phase }, { on := 11, ground := Ground.phase }, { on := 12, ground := Ground.phase }, { on := 13, ground := Ground.phase }, { on := 14, ground := Ground.textOnly Departure.lateStores }, { on := 15, ground := Ground.textOnly Departure.lateStores }, { on := 16, ground := Ground.phase }], guard := none }) (v := ?_) rfl (by kernel_rfl) (by kernel_rfl) (by kernel_rfl) (fun _ _ _ h => h) (Or.inl ⟨by rfl, ?_⟩) hHeld ?_
          rotate_left
          · (intro w hSw; (try dsimp only at hSw); go_simp; first | done | with_reducible rfl)
          (try simp only [Act.put, List.setIfInBounds_toArray, List.set_cons_zero, List.set_cons_succ])
          refine wpAnyH_ready (rs := [18]) (by kernel_rfl) (by simp) ?_
          refine AllReadyH.cons (o := { dst := none, op := Op.store 41 (Operand.tmp 10) (Operand.tmp 63), type := 0, pos := "law.go:61", after := #[{ on := 16, ground := Ground.data }, { on := 14, ground := Ground.data }, { on := 17, ground := Ground.chain }, { on := 0, ground := Ground.phase }, { on := 1, ground := Ground.phase }, { on := 2, ground := Ground.phase }, { on := 3, ground := Ground.phase }, { on := 4, ground := Ground.phase }, { on := 5, ground := Ground.phase }, { on := 6, ground := Ground.phase }, { on := 7, ground := Ground.phase }, { on := 8, ground := Ground.phase }, { on := 9, ground := Ground.phase }, { on := 10, ground := Ground.phase }, { on := 11, ground := Ground.phase }, { on := 12, ground := Ground.phase }, { on := 13, ground := Ground.phase }, { on := 14, ground := Ground.phase }, { on := 15, ground := Ground.textOnly Departure.lateStores }, { on := 16, ground := Ground.phase }, { on := 17, ground := Ground.phase }], guard := none }) rfl (fun K0 hK => ?_) ?_
          · go_simp
            refine hK.out _ _ (by (first | with_reducible exact hP20 | with_reducible exact (HP2.out.kept hb20).s7 | with_reducible exact (HP2.out.kept hbA).s7 | with_reducible exact (HP2.out.kept hbAz).s7 | with_reducible exact (HP2.out.kept hbZ).s7 | with_reducible exact (HP2.out.kept hbZA).s7 | with_reducible exact (HP2.out.kept hbx).s7 | with_reducible exact (HP2.out.kept (hby _)).s7 | with_reducible exact (HP2.out.kept (hbz _ _ _ _)).s7)) (fun hHeld => ?_)
            clear hK K0
            (try simp only [Act.put, List.setIfInBounds_toArray, List.set_cons_zero, List.set_cons_succ])
            refine wpAnyH_take (i := 19) (oi := { dst := some 11, op := Op.assign (Operand.tmp 64), type := 24, pos := "law.go:61", after := #[{ on := 15, ground := Ground.data }, { on := 18, ground := Ground.chain }, { on := 0, ground := Ground.phase }, { on := 1, ground := Ground.phase }, { on := 2, ground := Ground.phase }, { on := 3, ground := Ground.phase }, { on := 4, ground := Ground.phase }, { on := 5, ground := Ground.phase }, { on := 6, ground := Ground.phase }, { on := 7, ground := Ground.phase }, { on := 8, ground := Ground.phase }, { on := 9, ground := Ground.phase }, { on := 10, ground := Ground.phase }, { on := 11, ground := Ground.phase }, { on := 12, ground := Ground.phase }, { on := 13, ground := Ground.phase }, { on := 14, ground := Ground.phase }, { on := 15, ground := Ground.phase }, { on := 16, ground := Ground.phase }, { on := 17, ground := Ground.phase }, { on := 18, ground := Ground.phase }], guard := none }) (v := ?_) rfl (by kernel_rfl) (by kernel_rfl) (by kernel_rfl) (fun _ _ _ h => h) (Or.inl ⟨by rfl, ?_⟩) hHeld ?_
            rotate_left
            · (intro w hSw; (try dsimp only at hSw); go_simp; first | done | with_reducible rfl)
            (try simp only [Act.put, List.setIfInBounds_toArray, List.set_cons_zero, List.set_cons_succ])
            refine wpAnyH_done (by kernel_rfl) ?_ _
            go_wp2_with fail
            go_meet
            case rel => first
              | exact ⟨_, _, _, rfl, rfl, rfl, Lib.hid (HP2.out.kept (hby _)), Lib.hid (HO6.out.kept (hby _)), Lib.hid (((hby _).block _ (block_lt HE7.out)).trans HE7.out), Lib.hid (heap_alloc_new wx _), Lib.hid (ho9.alloc _)⟩
              | exact ⟨_, _, _, rfl, rfl, rfl, Lib.hid (HP2.out.kept (hbz (.int .i64 Q1.a) (.int .i64 Q1.b) (.int .i64 Q1.c) (.int .i64 Q1.d))), Lib.hid (HO6.out.kept (hbz (.int .i64 Q1.a) (.int .i64 Q1.b) (.int .i64 Q1.c) (.int .i64 Q1.d))), Lib.hid (((hbz (.int .i64 Q1.a) (.int .i64 Q1.b) (.int .i64 Q1.c) (.int .i64 Q1.d)).block _ (block_lt HE7.out)).trans HE7.out), Lib.hid (set4 hx8 (.int .i64 Q1.a) (.int .i64 Q1.b) (.int .i64 Q1.c) (.int .i64 Q1.d)), Lib.hid (set4_own ho9 hltAz (.int .i64 Q1.a) (.int .i64 Q1.b) (.int .i64 Q1.c) (.int .i64 Q1.d))⟩
              | exact ⟨_, _, _, rfl, rfl, rfl, Lib.hid (HP2.out.kept (hbz (.int .i64 Q1.a) (.int .i64 Q1.b) (.int .i64 Q1.c) (.int .i64 Q1.d))), Lib.hid (HO6.out.kept (hbz (.int .i64 Q1.a) (.int .i64 Q1.b) (.int .i64 Q1.c) (.int .i64 Q1.d))), Lib.hid (((hbz (.int .i64 Q1.a) (.int .i64 Q1.b) (.int .i64 Q1.c) (.int .i64 Q1.d)).block _ (block_lt HE7.out)).trans HE7.out), Lib.hid (set4 hx8 (.int .i64 Q1.a) (.int .i64 Q1.b) (.int .i64 Q1.c) (.int .i64 Q1.d)), Lib.hid (set4_own ho9 hltZA (.int .i64 Q1.a) (.int .i64 Q1.b) (.int .i64 Q1.c) (.int .i64 Q1.d))⟩
          exact AllReadyH.nil
        exact AllReadyH.nil
      exact AllReadyH.nil
    refine AllReadyH.cons (o := { dst := some 10, op := Op.alloc 41, type := 0, pos := "law.go:61", after := #[], guard := none }) rfl (fun K0 hK => ?_) ?_
    · go_simp
      refine hK.out _ _ (by (first | with_reducible exact hP20 | with_reducible exact (HP2.out.kept hb20).s7 | with_reducible exact (HP2.out.kept hbA).s7 | with_reducible exact (HP2.out.kept hbAz).s7 | with_reducible exact (HP2.out.kept hbZ).s7 | with_reducible exact (HP2.out.kept hbZA).s7 | with_reducible exact (HP2.out.kept hbx).s7 | with_reducible exact (HP2.out.kept (hby _)).s7 | with_reducible exact (HP2.out.kept (hbz _ _ _ _)).s7)) (fun hHeld => ?_)
      clear hK K0
      (try simp only [Act.put, List.setIfInBounds_toArray, List.set_cons_zero, List.set_cons_succ])
      refine wpAnyH_ready (rs := [2]) (by kernel_rfl) (by simp) ?_
      refine AllReadyH.cons (o := { dst := some 52, op := Op.convert 9 34 (Operand.tmp 51), type := 34, pos := "law.go:61", after := #[{ on := 1, ground := Ground.data }], guard := none }) rfl (fun K0 hK => ?_) ?_
      · go_simp
        refine hK.out _ _ (by (first | with_reducible exact hP20 | with_reducible exact (HP2.out.kept hb20).s7 | with_reducible exact (HP2.out.kept hbA).s7 | with_reducible exact (HP2.out.kept hbAz).s7 | with_reducible exact (HP2.out.kept hbZ).s7 | with_reducible exact (HP2.out.kept hbZA).s7 | with_reducible exact (HP2.out.kept hbx).s7 | with_reducible exact (HP2.out.kept (hby _)).s7 | with_reducible exact (HP2.out.kept (hbz _ _ _ _)).s7)) (fun hHeld => ?_)
        clear hK K0
        (try simp only [Act.put, List.setIfInBounds_toArray, List.set_cons_zero, List.set_cons_succ])
        refine wpAnyH_ready (rs := [11]) (by kernel_rfl) (by simp) ?_
        refine AllReadyH.cons (o := { dst := some 61, op := Op.call { callee := Callee.value (Operand.func 23), args := #[Operand.tmp 52, Operand.tmp 54, Operand.tmp 58, Operand.tmp 60], argTypes := #[34, 41, 42, 3] }, type := 45, pos := "law.go:61", after := #[{ on := 2, ground := Ground.data }, { on := 4, ground := Ground.data }, { on := 8, ground := Ground.data }, { on := 10, ground := Ground.data }], guard := none }) rfl (fun K0 hK => ?_) ?_
        · go_simp
          with_reducible refine (CB.out _ _ _ _ _ HYZA.out (by intro h; cases h) TKZA.out).mono ?_
          rintro e wx ⟨v9, rfl, ho9, hb9⟩
          have hbx : Below y2.heap.size y2 wx := hbZA.trans (hb9.mono hbZA.size)
          have hx8 := (hb9.block y2.heap.size hltZA).trans HXZA.out
          have l8 := block_lt hx8
          have c80 := cell_lit hx8 0 _ rfl
          have c81 := cell_lit hx8 1 _ rfl
          have c82 := cell_lit hx8 2 _ rfl
          have c83 := cell_lit hx8 3 _ rfl
          have f80 := free_in hx8 0
          have f81 := free_in hx8 1
          have f82 := free_in hx8 2
          have f83 := free_in hx8 3
          have hbz : ∀ u0 u1 u2 u3, Below y2.heap.size y2 ((((wx.setCell ⟨y2.heap.size, 0, none⟩ u0).setCell ⟨y2.heap.size, 1, none⟩ u1).setCell ⟨y2.heap.size, 2, none⟩ u2).setCell ⟨y2.heap.size, 3, none⟩ u3) := fun u0 u1 u2 u3 => set4_below hbx (Nat.le_refl _) u0 u1 u2 u3
          go_wp2_with fail
          refine hK.out _ _ (by (first | with_reducible exact hP20 | with_reducible exact (HP2.out.kept hb20).s7 | with_reducible exact (HP2.out.kept hbA).s7 | with_reducible exact (HP2.out.kept hbAz).s7 | with_reducible exact (HP2.out.kept hbZ).s7 | with_reducible exact (HP2.out.kept hbZA).s7 | with_reducible exact (HP2.out.kept hbx).s7 | with_reducible exact (HP2.out.kept (hby _)).s7 | with_reducible exact (HP2.out.kept (hbz _ _ _ _)).s7)) (fun hHeld => ?_)
          clear hK K0
          (try simp only [Act.put, List.setIfInBounds_toArray, List.set_cons_zero, List.set_cons_succ])
          refine wpAnyH_take (i := 12) (oi := { dst := some 49, op := Op.move (Operand.tmp 61), type := 45, pos := "law.go:61", after := #[{ on := 11, ground := Ground.data }], guard := none }) (v := ?_) rfl (by kernel_rfl) (by kernel_rfl) (by kernel_rfl) (fun _ _ _ h => h) (Or.inl ⟨by rfl, ?_⟩) hHeld ?_
          rotate_left
          · (intro w hSw; (try dsimp only at hSw); go_simp; first | done | with_reducible rfl)
          (try simp only [Act.put, List.setIfInBounds_toArray, List.set_cons_zero, List.set_cons_succ])
          refine wpAnyH_take (i := 13) (oi := { dst := some 62, op := Op.extract (Operand.tmp 49) 0, type := 34, pos := "law.go:61", after := #[{ on := 12, ground := Ground.data }], guard := none }) (v := ?_) rfl (by kernel_rfl) (by kernel_rfl) (by kernel_rfl) (fun _ _ _ h => h) (Or.inl ⟨by rfl, ?_⟩) hHeld ?_
          rotate_left
          · (intro w hSw; (try dsimp only at hSw); go_simp; first | done | with_reducible rfl)
          (try simp only [Act.put, List.setIfInBounds_toArray, List.set_cons_zero, List.set_cons_succ])
          refine wpAnyH_take (i := 14) (oi := { dst := some 63, op := Op.extract (Operand.tmp 49) 1, type := 41, pos := "law.go:61", after := #[{ on := 12, ground := Ground.data }, { on := 17, ground := Ground.gcOnly Departure.lateStores }], guard := none }) (v := ?_) rfl (by kernel_rfl) (by kernel_rfl) (by kernel_rfl) (fun _ _ _ h => h) (Or.inl ⟨by rfl, ?_⟩) hHeld ?_
          rotate_left
          · (intro w hSw; (try dsimp only at hSw); go_simp; first | done | with_reducible rfl)
          (try simp only [Act.put, List.setIfInBounds_toArray, List.set_cons_zero, List.set_cons_succ])
          refine wpAnyH_take (i := 15) (oi := { dst := some 64, op := Op.extract (Operand.tmp 49) 2, type := 24, pos := "law.go:61", after := #[{ on := 12, ground := Ground.data }, { on := 18, ground := Ground.gcOnly Departure.lateStores }], guard := none }) (v := ?_) rfl (by kernel_rfl) (by kernel_rfl) (by kernel_rfl) (fun _ _ _ h => h) (Or.inl ⟨by rfl, ?_⟩) hHeld ?_
          rotate_left
          · (intro w hSw; (try dsimp only at hSw); go_simp; first | done | with_reducible rfl)
          (try simp only [Act.put, List.setIfInBounds_toArray, List.set_cons_zero, List.set_cons_succ])
          refine wpAnyH_take (i := 17) (oi := { dst := some 9, op := Op.assign (Operand.tmp 62), type := 34, pos := "law.go:61", after := #[{ on := 13, ground := Ground.data }, { on := 11, ground := Ground.chain }, { on := 0, ground := Ground.phase }, { on := 1, ground := Ground.phase }, { on := 2, ground := Ground.phase }, { on := 3, ground := Ground.phase }, { on := 4, ground := Ground.phase }, { on := 5, ground := Ground.phase }, { on := 6, ground := Ground.phase }, { on := 7, ground := Ground.phase }, { on := 8, ground := Ground.phase }, { on := 9, ground := Ground.phase }, { on := 10, ground := Ground.phase }, { on := 11, ground := Ground.phase }, { on := 12, ground := Ground.phase }, { on := 13, ground := Ground.phase }, { on := 14, ground := Ground.textOnly Departure.lateStores }, { on := 15, ground := Ground.textOnly Departure.lateStores }, { on := 16, ground := Ground.phase }], guard := none }) (v := ?_) rfl (by kernel_rfl) (by kernel_rfl) (by kernel_rfl) (fun _ _ _ h => h) (Or.inl ⟨by rfl, ?_⟩) hHeld ?_
          rotate_left
          · (intro w hSw; (try dsimp only at hSw); go_simp; first | done | with_reducible rfl)
          (try simp only [Act.put, List.setIfInBounds_toArray, List.set_cons_zero, List.set_cons_succ])
          refine wpAnyH_ready (rs := [18]) (by kernel_rfl) (by simp) ?_
          refine AllReadyH.cons (o := { dst := none, op := Op.store 41 (Operand.tmp 10) (Operand.tmp 63), type := 0, pos := "law.go:61", after := #[{ on := 16, ground := Ground.data }, { on := 14, ground := Ground.data }, { on := 17, ground := Ground.chain }, { on := 0, ground := Ground.phase }, { on := 1, ground := Ground.phase }, { on := 2, ground := Ground.phase }, { on := 3, ground := Ground.phase }, { on := 4, ground := Ground.phase }, { on := 5, ground := Ground.phase }, { on := 6, ground := Ground.phase }, { on := 7, ground := Ground.phase }, { on := 8, ground := Ground.phase }, { on := 9, ground := Ground.phase }, { on := 10, ground := Ground.phase }, { on := 11, ground := Ground.phase }, { on := 12, ground := Ground.phase }, { on := 13, ground := Ground.phase }, { on := 14, ground := Ground.phase }, { on := 15, ground := Ground.textOnly Departure.lateStores }, { on := 16, ground := Ground.phase }, { on := 17, ground := Ground.phase }], guard := none }) rfl (fun K0 hK => ?_) ?_
          · go_simp
            refine hK.out _ _ (by (first | with_reducible exact hP20 | with_reducible exact (HP2.out.kept hb20).s7 | with_reducible exact (HP2.out.kept hbA).s7 | with_reducible exact (HP2.out.kept hbAz).s7 | with_reducible exact (HP2.out.kept hbZ).s7 | with_reducible exact (HP2.out.kept hbZA).s7 | with_reducible exact (HP2.out.kept hbx).s7 | with_reducible exact (HP2.out.kept (hby _)).s7 | with_reducible exact (HP2.out.kept (hbz _ _ _ _)).s7)) (fun hHeld => ?_)
            clear hK K0
            (try simp only [Act.put, List.setIfInBounds_toArray, List.set_cons_zero, List.set_cons_succ])
            refine wpAnyH_take (i := 19) (oi := { dst := some 11, op := Op.assign (Operand.tmp 64), type := 24, pos := "law.go:61", after := #[{ on := 15, ground := Ground.data }, { on := 18, ground := Ground.chain }, { on := 0, ground := Ground.phase }, { on := 1, ground := Ground.phase }, { on := 2, ground := Ground.phase }, { on := 3, ground := Ground.phase }, { on := 4, ground := Ground.phase }, { on := 5, ground := Ground.phase }, { on := 6, ground := Ground.phase }, { on := 7, ground := Ground.phase }, { on := 8, ground := Ground.phase }, { on := 9, ground := Ground.phase }, { on := 10, ground := Ground.phase }, { on := 11, ground := Ground.phase }, { on := 12, ground := Ground.phase }, { on := 13, ground := Ground.phase }, { on := 14, ground := Ground.phase }, { on := 15, ground := Ground.phase }, { on := 16, ground := Ground.phase }, { on := 17, ground := Ground.phase }, { on := 18, ground := Ground.phase }], guard := none }) (v := ?_) rfl (by kernel_rfl) (by kernel_rfl) (by kernel_rfl) (fun _ _ _ h => h) (Or.inl ⟨by rfl, ?_⟩) hHeld ?_
            rotate_left
            · (intro w hSw; (try dsimp only at hSw); go_simp; first | done | with_reducible rfl)
            (try simp only [Act.put, List.setIfInBounds_toArray, List.set_cons_zero, List.set_cons_succ])
            refine wpAnyH_done (by kernel_rfl) ?_ _
            go_wp2_with fail
            go_meet
            case rel => first
              | exact ⟨_, _, _, rfl, rfl, rfl, Lib.hid (HP2.out.kept (hby _)), Lib.hid (HO6.out.kept (hby _)), Lib.hid (((hby _).block _ (block_lt HE7.out)).trans HE7.out), Lib.hid (heap_alloc_new wx _), Lib.hid (ho9.alloc _)⟩
              | exact ⟨_, _, _, rfl, rfl, rfl, Lib.hid (HP2.out.kept (hbz (.int .i64 Q1.a) (.int .i64 Q1.b) (.int .i64 Q1.c) (.int .i64 Q1.d))), Lib.hid (HO6.out.kept (hbz (.int .i64 Q1.a) (.int .i64 Q1.b) (.int .i64 Q1.c) (.int .i64 Q1.d))), Lib.hid (((hbz (.int .i64 Q1.a) (.int .i64 Q1.b) (.int .i64 Q1.c) (.int .i64 Q1.d)).block _ (block_lt HE7.out)).trans HE7.out), Lib.hid (set4 hx8 (.int .i64 Q1.a) (.int .i64 Q1.b) (.int .i64 Q1.c) (.int .i64 Q1.d)), Lib.hid (set4_own ho9 hltAz (.int .i64 Q1.a) (.int .i64 Q1.b) (.int .i64 Q1.c) (.int .i64 Q1.d))⟩
              | exact ⟨_, _, _, rfl, rfl, rfl, Lib.hid (HP2.out.kept (hbz (.int .i64 Q1.a) (.int .i64 Q1.b) (.int .i64 Q1.c) (.int .i64 Q1.d))), Lib.hid (HO6.out.kept (hbz (.int .i64 Q1.a) (.int .i64 Q1.b) (.int .i64 Q1.c) (.int .i64 Q1.d))), Lib.hid (((hbz (.int .i64 Q1.a) (.int .i64 Q1.b) (.int .i64 Q1.c) (.int .i64 Q1.d)).block _ (block_lt HE7.out)).trans HE7.out), Lib.hid (set4 hx8 (.int .i64 Q1.a) (.int .i64 Q1.b) (.int .i64 Q1.c) (.int .i64 Q1.d)), Lib.hid (set4_own ho9 hltZA (.int .i64 Q1.a) (.int .i64 Q1.b) (.int .i64 Q1.c) (.int .i64 Q1.d))⟩
          exact AllReadyH.nil
        exact AllReadyH.nil
      exact AllReadyH.nil
    exact AllReadyH.nil
  case rest =>
    obtain ⟨g10, v9, B9, rfl, rfl, rfl, hPT, hO6, hE7, hE10, hO9⟩ := hcut
    obtain ⟨va9, vc9, rfl⟩ := hO9.out.slice
    clear hP2 hb20 hbA hbAz hbZ hbZA HYA HYAz HYZA TKA TKAz TKZA HXAz hltAz HXZA hltZA hnn HP2 HO6 HE7 CB hcv hg7 hg02
    obtain ⟨a0, a1, a2, a3, a4, a5, a6⟩ := hPT.out.s7
    by_cases hE0 : E = 0
    · subst hE0
      obtain ⟨rfl, hR2⟩ := appS_two K HR.out HR1.out rfl
      have HR2 := Lib.hid hR2
      clear hR2 a1 a2 a3 a4 a6
      have hSb : ∀ k, (H.length : Int) + szSum (l.take k) ≤ 20000 ∧ 0 ≤ (H.length : Int) + szSum (l.take k) := by
        intro k
        have h1 := szSum_bd (l.take k)
        have h2 : (l.take k).length ≤ 60 := by rw [List.length_take]; omega
        have := HHl.out
        omega
      have HSB := Lib.hid hSb
      have hS := appS_size HR.out
      have HS := Lib.hid hS
      clear hSb hS
      go_wp2_with fail
      go_loopw [12, 13] (fun n i wr => ∃ k : Nat, i = .int .i64 k ∧ k ≤ l.length ∧ n = .int .i64 ((H.length : Int) + szSum (l.take k)) ∧ Hid (PT w H q (some x) cb l win g0 wr) ∧ Hid (OwnY B1 wr (.slice va6 R.length vc6) R) ∧ Hid (wr.heap[g7]? = some (.cells #[.int .i64 Q.a, .int .i64 Q.b, .int .i64 Q.c, .int .i64 Q.d] 41 (0, 0))) ∧ Hid (wr.heap[g10]? = some (.cells #[.int .i64 Q1.a, .int .i64 Q1.b, .int .i64 Q1.c, .int .i64 Q1.d] 41 (0, 0))) ∧ Hid (OwnY B9 wr (.slice va9 R1.length vc9) R1)) (fun _ i _ => l.length - (intOf i).toNat)
      case atStart => exact ⟨0, rfl, Nat.zero_le _, by simp [szSum], hPT, hO6, hE7, hE10, hO9⟩
      case round =>
        clear a0 a5 hPT hO6 hE7 hE10 hO9
        obtain ⟨k, rfl, hk, rfl, hPT, hO6, hE7, hE10, hO9⟩ := hrel
        have a5 := hPT.out.s7.2.2.2.2.2.1
        by_cases hlt : k < l.length
        · obtain ⟨x', hx', -, h0, h1, h2, h3, h4⟩ := hPT.out.tk.at k hlt
          injection hx' with hx'
          subst hx'
          have HSN := Lib.hid (szSum_snoc l k hlt)
          have CS := Lib.hid (fun W => refSize_any l[k].k l[k].b l[k].l l[k].d l[k].r W)
          have hz := szTok_bd l[k].k l[k].b l[k].l l[k].d l[k].r
          generalize l[k] = t at *
          obtain ⟨Z, hZ⟩ : ∃ Z, szTok t.k t.b t.l t.d t.r = Z := ⟨_, rfl⟩
          rw [hZ] at CS hz HSN
          have hs1 := HSB.out k
          obtain ⟨S, hS⟩ : ∃ S, (H.length : Int) + szSum (l.take k) = S := ⟨_, rfl⟩
          rw [hS] at hs1 ⊢
          have HSS := Lib.hid hS
          clear hZ hS
          go_wp2_with fail
          refine (CS.out _).mono ?_; rintro e w9 ⟨rfl, hb9⟩
          have hPT := Lib.hid (hPT.out.kept hb9)
          have hO6 := Lib.hid (hO6.out.kept hb9)
          have hE7 := Lib.hid ((hb9.block _ (block_lt hE7.out)).trans hE7.out)
          have hE10 := Lib.hid ((hb9.block _ (block_lt hE10.out)).trans hE10.out)
          have hO9 := Lib.hid (hO9.out.kept hb9)
          clear hb9 h0 h1 h2 h3 h4 CS a5
          go_wp2_with fail
          go_roundw
          case rel => exact ⟨k + 1, by go_num, by omega, by rw [HSN.out, ← HSS.out, Int.add_assoc], hPT, hO6, hE7, hE10, hO9⟩
          case measure => simp [intOf]; omega
        · obtain rfl : k = l.length := by omega
          rw [List.take_length, ← HS.out]
          have hld : (l.drop K).length = l.length - K := List.length_drop
          have hr1 : R1.length ≤ 20000 := by
            have h1 := appS_len2 HR1.out
            have h2 := HLT.out
            have h3 := HHl.out
            rw [h2] at h1
            omega
          have CC := Lib.hid (fun W x' c' (h1 : IsY W va9 R1) (hc : va9 = none → vc9 = 0 ∧ R1 = []) (h : IsTk W (some x') (l.drop K)) => show Calls Try.prog 23 #[.slice va9 R1.length vc9, .agg #[.int .i64 Q1.a, .int .i64 Q1.b, .int .i64 Q1.c, .int .i64 Q1.d], .slice (some x') (l.length - K) c', .int .i64 win] W fun e w' => ∃ v, e = .returned (.tuple #[v, .agg #[.int .i64 Q.a, .int .i64 Q.b, .int .i64 Q.c, .int .i64 Q.d], .int .i64 0]) ∧ OwnY W.heap.size w' v R ∧ Below W.heap.size W w' from by
            have := pApply va9 (some x') vc9 c' R1 Q1 (l.drop K) win W h1 hc h hr1 (by rw [hld]; omega) R Q 0 HR2.out
            rw [hld] at this
            exact this)
          clear hld hr1
          have hS6 : S6 g0 g10 cb x l win Q1 wr := ⟨cell_lit hE10.out 0 _ rfl, cell_lit hE10.out 1 _ rfl, cell_lit hE10.out 2 _ rfl, cell_lit hE10.out 3 _ rfl, cell_lit hPT.out.e0 5 _ rfl, cell_lit hPT.out.e0 6 _ rfl⟩
          have hb20 : Below wr.heap.size wr wr.drew := (Below.refl _ _).drew
          have hbZ : Below wr.heap.size wr (wr.alloc (.cells #[.int .i64 0, .int .i64 0, .int .i64 0, .int .i64 0] 41)).drew := ((Below.refl _ _).alloc (Nat.le_refl _) _).drew
          have HYA := Lib.hid (show IsY wr.drew va9 R1 from y_isY2 hO9.out)
          have HYZ := Lib.hid (show IsY (wr.alloc (.cells #[.int .i64 0, .int .i64 0, .int .i64 0, .int .i64 0] 41)).drew va9 R1 from (y_isY2 hO9.out).kept hbZ)
          have HNN := Lib.hid (show va9 = none → vc9 = 0 ∧ R1 = [] from fun h => by subst h; exact y_none hO9.out)
          have HXZ := Lib.hid (show (wr.alloc (.cells #[.int .i64 0, .int .i64 0, .int .i64 0, .int .i64 0] 41)).drew.heap[wr.heap.size]? = some (.cells #[.int .i64 0, .int .i64 0, .int .i64 0, .int .i64 0] 41 (0, 0)) from heap_alloc_new wr _)
          have hltZ := block_lt HXZ.out
          clear a5
          go_wp2_with fail
          go_cut [14, 15, 16] from 96 to 108 (fun s14 s15 s16 wc => ∃ (g15 : Nat) (v14 : Value) (B14 : Nat), s14 = v14 ∧ s15 = .pointer (some ⟨g15, 0, none⟩) ∧ s16 = .int .i64 0 ∧ Hid (PT w H q (some x) cb l win g0 wc) ∧ Hid (OwnY B1 wc (.slice va6 R.length vc6) R) ∧ Hid (wc.heap[g7]? = some (.cells #[.int .i64 Q.a, .int .i64 Q.b, .int .i64 Q.c, .int .i64 Q.d] 41 (0, 0))) ∧ Hid (wc.heap[g15]? = some (.cells #[.int .i64 Q.a, .int .i64 Q.b, .int .i64 Q.c, .int .i64 Q.d] 41 (0, 0))) ∧ Hid (OwnY B14 wc v14 R))
          case first =>
            by_cases hcK : cb = K
            · have hdn : l.drop K = [] := List.drop_eq_nil_of_le (by omega)
              have TKA := Lib.hid (show IsTk wr.drew (some x) (l.drop K) from .inl hdn)
              have TKZ := Lib.hid (show IsTk (wr.alloc (.cells #[.int .i64 0, .int .i64 0, .int .i64 0, .int .i64 0] 41)).drew (some x) (l.drop K) from .inl hdn)
              have hcT : (cb = K) = True := by simp [hcK]
              clear hcK hdn
              go_region_held3 (fun W => W.cell? ⟨g10, 0, none⟩ = some (.int .i64 Q1.a) ∧ W.cell? ⟨g10, 1, none⟩ = some (.int .i64 Q1.b) ∧ W.cell? ⟨g10, 2, none⟩ = some (.int .i64 Q1.c) ∧ W.cell? ⟨g10, 3, none⟩ = some (.int .i64 Q1.d) ∧ W.cell? ⟨g0, 5, none⟩ = some (.slice (some x) l.length cb) ∧ W.cell? ⟨g0, 6, none⟩ = some (.int .i64 win)) (first | with_reducible exact hS6 | with_reducible exact keep6 hb20 hS6 | with_reducible exact keep6 hbZ hS6 | with_reducible exact keep6 hbx hS6 | with_reducible exact keep6 (hby _) hS6 | with_reducible exact keep6 (hbz _ _ _ _) hS6) (first | (go_at_call 23; with_reducible refine (CC.out _ _ _ HYA.out HNN.out TKA.out).mono ?_; rintro e wx ⟨v14, rfl, ho14, hb14⟩; have hbx : Below wr.heap.size wr wx := hb20.trans (hb14.mono hb20.size); have hby : ∀ o, Below wr.heap.size wr (wx.alloc o) := fun o => (hbx.alloc hbx.size o)) | (go_at_call 23; with_reducible refine (CC.out _ _ _ HYZ.out HNN.out TKZ.out).mono ?_; rintro e wx ⟨v14, rfl, ho14, hb14⟩; have hbx : Below wr.heap.size wr wx := hbZ.trans (hb14.mono hbZ.size); have hx8 := (hb14.block wr.heap.size hltZ).trans HXZ.out; have l8 := block_lt hx8; have c80 := cell_lit hx8 0 _ rfl; have c81 := cell_lit hx8 1 _ rfl; have c82 := cell_lit hx8 2 _ rfl; have c83 := cell_lit hx8 3 _ rfl; have f80 := free_in hx8 0; have f81 := free_in hx8 1; have f82 := free_in hx8 2; have f83 := free_in hx8 3; have hbz : ∀ u0 u1 u2 u3, Below wr.heap.size wr ((((wx.setCell ⟨wr.heap.size, 0, none⟩ u0).setCell ⟨wr.heap.size, 1, none⟩ u1).setCell ⟨wr.heap.size, 2, none⟩ u2).setCell ⟨wr.heap.size, 3, none⟩ u3) := fun u0 u1 u2 u3 => set4_below hbx (Nat.le_refl _) u0 u1 u2 u3) | fail)
              all_goals
                go_wp2_with fail
                go_meet
                case rel => first
                  | exact ⟨_, _, _, rfl, rfl, rfl, Lib.hid (hPT.out.kept (hby _)), Lib.hid (hO6.out.kept (hby _)), Lib.hid (((hby _).block _ (block_lt hE7.out)).trans hE7.out), Lib.hid (heap_alloc_new wx _), Lib.hid (ho14.alloc _)⟩
                  | exact ⟨_, _, _, rfl, rfl, rfl, Lib.hid (hPT.out.kept (hbz (.int .i64 Q.a) (.int .i64 Q.b) (.int .i64 Q.c) (.int .i64 Q.d))), Lib.hid (hO6.out.kept (hbz (.int .i64 Q.a) (.int .i64 Q.b) (.int .i64 Q.c) (.int .i64 Q.d))), Lib.hid (((hbz (.int .i64 Q.a) (.int .i64 Q.b) (.int .i64 Q.c) (.int .i64 Q.d)).block _ (block_lt hE7.out)).trans hE7.out), Lib.hid (set4 hx8 (.int .i64 Q.a) (.int .i64 Q.b) (.int .i64 Q.c) (.int .i64 Q.d)), Lib.hid (set4_own ho14 hltZ (.int .i64 Q.a) (.int .i64 Q.b) (.int .i64 Q.c) (.int .i64 Q.d))⟩
            · have TKA := Lib.hid (show IsTk wr.drew (some (x.add (K * 5))) (l.drop K) from hPT.out.tk.drop K)
              have TKZ := Lib.hid (show IsTk (wr.alloc (.cells #[.int .i64 0, .int .i64 0, .int .i64 0, .int .i64 0] 41)).drew (some (x.add (K * 5))) (l.drop K) from (hPT.out.tk.kept hbZ).drop K)
              go_region_held3 (fun W => W.cell? ⟨g10, 0, none⟩ = some (.int .i64 Q1.a) ∧ W.cell? ⟨g10, 1, none⟩ = some (.int .i64 Q1.b) ∧ W.cell? ⟨g10, 2, none⟩ = some (.int .i64 Q1.c) ∧ W.cell? ⟨g10, 3, none⟩ = some (.int .i64 Q1.d) ∧ W.cell? ⟨g0, 5, none⟩ = some (.slice (some x) l.length cb) ∧ W.cell? ⟨g0, 6, none⟩ = some (.int .i64 win)) (first | with_reducible exact hS6 | with_reducible exact keep6 hb20 hS6 | with_reducible exact keep6 hbZ hS6 | with_reducible exact keep6 hbx hS6 | with_reducible exact keep6 (hby _) hS6 | with_reducible exact keep6 (hbz _ _ _ _) hS6) (first | (go_at_call 23; with_reducible refine (CC.out _ _ _ HYA.out HNN.out TKA.out).mono ?_; rintro e wx ⟨v14, rfl, ho14, hb14⟩; have hbx : Below wr.heap.size wr wx := hb20.trans (hb14.mono hb20.size); have hby : ∀ o, Below wr.heap.size wr (wx.alloc o) := fun o => (hbx.alloc hbx.size o)) | (go_at_call 23; with_reducible refine (CC.out _ _ _ HYZ.out HNN.out TKZ.out).mono ?_; rintro e wx ⟨v14, rfl, ho14, hb14⟩; have hbx : Below wr.heap.size wr wx := hbZ.trans (hb14.mono hbZ.size); have hx8 := (hb14.block wr.heap.size hltZ).trans HXZ.out; have l8 := block_lt hx8; have c80 := cell_lit hx8 0 _ rfl; have c81 := cell_lit hx8 1 _ rfl; have c82 := cell_lit hx8 2 _ rfl; have c83 := cell_lit hx8 3 _ rfl; have f80 := free_in hx8 0; have f81 := free_in hx8 1; have f82 := free_in hx8 2; have f83 := free_in hx8 3; have hbz : ∀ u0 u1 u2 u3, Below wr.heap.size wr ((((wx.setCell ⟨wr.heap.size, 0, none⟩ u0).setCell ⟨wr.heap.size, 1, none⟩ u1).setCell ⟨wr.heap.size, 2, none⟩ u2).setCell ⟨wr.heap.size, 3, none⟩ u3) := fun u0 u1 u2 u3 => set4_below hbx (Nat.le_refl _) u0 u1 u2 u3) | fail)
              all_goals
                go_wp2_with fail
                go_meet
                case rel => first
                  | exact ⟨_, _, _, rfl, rfl, rfl, Lib.hid (hPT.out.kept (hby _)), Lib.hid (hO6.out.kept (hby _)), Lib.hid (((hby _).block _ (block_lt hE7.out)).trans hE7.out), Lib.hid (heap_alloc_new wx _), Lib.hid (ho14.alloc _)⟩
                  | exact ⟨_, _, _, rfl, rfl, rfl, Lib.hid (hPT.out.kept (hbz (.int .i64 Q.a) (.int .i64 Q.b) (.int .i64 Q.c) (.int .i64 Q.d))), Lib.hid (hO6.out.kept (hbz (.int .i64 Q.a) (.int .i64 Q.b) (.int .i64 Q.c) (.int .i64 Q.d))), Lib.hid (((hbz (.int .i64 Q.a) (.int .i64 Q.b) (.int .i64 Q.c) (.int .i64 Q.d)).block _ (block_lt hE7.out)).trans hE7.out), Lib.hid (set4 hx8 (.int .i64 Q.a) (.int .i64 Q.b) (.int .i64 Q.c) (.int .i64 Q.d)), Lib.hid (set4_own ho14 hltZ (.int .i64 Q.a) (.int .i64 Q.b) (.int .i64 Q.c) (.int .i64 Q.d))⟩
          case rest =>
            obtain ⟨g15, v14, B14, rfl, rfl, rfl, hPT, hO6, hE7, hE15, hO14⟩ := hcut
            clear hS6 hb20 hbZ HYA HYZ HNN HXZ hltZ CC
            obtain ⟨va14, vc14, rfl⟩ := hO14.out.slice
            have hP : S8 w B1 B14 (.slice va6 R.length vc6) (.slice va14 R.length vc14) R Q g7 g15 wc := ⟨cell_lit hE7.out 0 _ rfl, cell_lit hE7.out 1 _ rfl, cell_lit hE7.out 2 _ rfl, cell_lit hE7.out 3 _ rfl, cell_lit hE15.out 0 _ rfl, cell_lit hE15.out 1 _ rfl, cell_lit hE15.out 2 _ rfl, cell_lit hE15.out 3 _ rfl, y_conv hO6.out, y_conv hO14.out, hO6.out, hO14.out, block_lt hE7.out, block_lt hE15.out, hPT.out.bl⟩
            have hP0 : S8 w B1 B14 (.slice va6 R.length vc6) (.slice va14 R.length vc14) R Q g7 g15 wc.drew := keep8 hP (Below.refl _ _).drew
            obtain ⟨FV, hFV⟩ : ∃ FV, find Q.a Q.b Q.c Q.d (-5) = FV := ⟨_, rfl⟩
            have KF := Lib.hid (show ∀ W, Calls Try.prog 28 #[.agg #[.int .i64 Q.a, .int .i64 Q.b, .int .i64 Q.c, .int .i64 Q.d], .int .i64 (-5)] W fun e w' => e = .returned (.int .i64 FV) ∧ Below W.heap.size W w' from fun W => by rw [← hFV]; exact refFind_any Q.a Q.b Q.c Q.d (-5) W)
            have K3 := Lib.hid (fun W => awake18 W)
            have he : ∀ w, (binOp .eql 41 (.agg #[.int .i64 Q.a, .int .i64 Q.b, .int .i64 Q.c, .int .i64 Q.d]) (.agg #[.int .i64 Q.a, .int .i64 Q.b, .int .i64 Q.c, .int .i64 Q.d])).run Try.prog w = .ok (.bool true) w := fun w => by
              rw [run_eql_ints4 41 3 _ Q.a Q.b Q.c Q.d Q.a Q.b Q.c Q.d w (by kernel_rfl) (by kernel_rfl) rfl (by kernel_rfl)]; simp
            clear hFV hPT hO6 hO14 hE7 hE15
            go_wp2_with fail
            go_region_held3 (fun W => W.cell? ⟨g7, 0, none⟩ = some (.int .i64 Q.a) ∧ W.cell? ⟨g7, 1, none⟩ = some (.int .i64 Q.b) ∧ W.cell? ⟨g7, 2, none⟩ = some (.int .i64 Q.c) ∧ W.cell? ⟨g7, 3, none⟩ = some (.int .i64 Q.d) ∧ W.cell? ⟨g15, 0, none⟩ = some (.int .i64 Q.a) ∧ W.cell? ⟨g15, 1, none⟩ = some (.int .i64 Q.b) ∧ W.cell? ⟨g15, 2, none⟩ = some (.int .i64 Q.c) ∧ W.cell? ⟨g15, 3, none⟩ = some (.int .i64 Q.d) ∧ (convert 34 9 (.slice va6 R.length vc6)).run Try.prog W = .ok (.string (sOf R)) W ∧ (convert 34 9 (.slice va14 R.length vc14)).run Try.prog W = .ok (.string (sOf R)) W ∧ PXB w B1 B14 (.slice va6 R.length vc6) (.slice va14 R.length vc14) R g7 g15 W) (first | with_reducible exact hP0 | with_reducible exact keep8 (by with_reducible assumption) (by with_reducible assumption)) (first | (go_at_call 28; with_reducible refine (KF.out _).mono ?_; rintro e wx ⟨rfl, hbx⟩) | (go_at_call 20; with_reducible refine (K3.out _).mono ?_; rintro e wz ⟨rfl, hbz⟩) | fail)
            simp only [Exit.then]
            rename_i K0 hK wx0 hbx0 hHeld
            refine hK _ _ ?_
            have HBF := Lib.hid hHeld.2.2.2.2.2.2.2.2.2.2.2.2.2.2
            clear hK hHeld hbx0 hbx hbz hP hP0 KF K3 he
            go_wp2_with fail
            go_ret
            exact ⟨rfl, HBF.out⟩
    · have hEb : (E != 0) = true := by rw [bne_iff_ne]; exact hE0
      obtain ⟨rfl, rfl⟩ := appS_no HR.out hE0
      have d0 : wc.cell? ⟨g7, 0, none⟩ = some (.int .i64 0) := cell_lit hE7.out 0 _ rfl
      have d1 : wc.cell? ⟨g7, 1, none⟩ = some (.int .i64 0) := cell_lit hE7.out 1 _ rfl
      have d2 : wc.cell? ⟨g7, 2, none⟩ = some (.int .i64 0) := cell_lit hE7.out 2 _ rfl
      have d3 : wc.cell? ⟨g7, 3, none⟩ = some (.int .i64 0) := cell_lit hE7.out 3 _ rfl
      have he : ∀ w, (binOp .eql 41 (.agg #[.int .i64 0, .int .i64 0, .int .i64 0, .int .i64 0]) (.agg #[.int .i64 0, .int .i64 0, .int .i64 0, .int .i64 0])).run Try.prog w = .ok (.bool true) w := fun _ => by kernel_rfl
      clear a0 a1 a2 a3 a4 a5 a6
      go_wp2_with fail
      refine (awake18 _).mono ?_; rintro e w9 ⟨rfl, hb9⟩
      go_wp2_with fail
      go_ret
      exact ⟨rfl, hPT.out.bl.trans (hb9.mono hPT.out.bl.size)⟩
end Go.Proofs.Ytjpmfaodkldobaa
