/- Layer 18: the law DenoteApplies. -/
import Derived.Test.YtjpmfaodkldobaaT14
namespace Go.Proofs.Ytjpmfaodkldobaa
open Go.ChangeShapes Go.WideShapes Go.ChangeAt Go.RowKit
set_option linter.unusedVariables false
set_option linter.unusedSimpArgs false
set_option maxRecDepth 100000
/-- A row of tokens out of its places. -/
def rowTk (F0 F1 F2 F3 F4 : Nat → Int) (n : Nat) : List Tk := (List.range n).map fun i => ⟨F0 i, F1 i, F2 i, F3 i, F4 i⟩
theorem rowTk_len (F0 F1 F2 F3 F4 : Nat → Int) (n : Nat) : (rowTk F0 F1 F2 F3 F4 n).length = n := by unfold rowTk; simp
theorem rowTk_is {w : World} {x : Addr} {F0 F1 F2 F3 F4 : Nat → Int} {n : Nat}
    (h : ∀ i, i < n → w.cell? ((x.add (i * 5)).add 0) = some (.int .i64 (F0 i)) ∧ w.cell? ((x.add (i * 5)).add 1) = some (.int .i64 (F1 i)) ∧ w.cell? ((x.add (i * 5)).add 2) = some (.int .i64 (F2 i)) ∧ w.cell? ((x.add (i * 5)).add 3) = some (.int .i64 (F3 i)) ∧ w.cell? ((x.add (i * 5)).add 4) = some (.int .i64 (F4 i))) : IsTk w (some x) (rowTk F0 F1 F2 F3 F4 n) := by
  refine .inr ⟨x, rfl, fun i t ht => ?_⟩
  have hi : i < n := by have := (List.getElem?_eq_some_iff.1 ht).1; rwa [rowTk_len] at this
  have e : t = ⟨F0 i, F1 i, F2 i, F3 i, F4 i⟩ := by
    unfold rowTk at ht
    rw [List.getElem?_map, List.getElem?_range hi] at ht
    simpa using ht.symm
  subst e
  obtain ⟨h0, h1, h2, h3, h4⟩ := h i hi
  have e0 : (x.add (i * 5)).add 0 = x.add (i * 5) := by simp [Addr.add]
  rw [e0] at h0
  exact ⟨h0, h1, h2, h3, h4⟩
def PXA (wo : World) (b : Option Addr) (l : List Tk) (B : Nat) (v : Value) (R : List UInt8) (g0 g6 g9 : Nat) (W : World) : Prop :=
  IsTk W b l ∧ OwnY B W v R ∧ g0 < W.heap.size ∧ g6 < W.heap.size ∧ g9 < W.heap.size ∧ Below wo.heap.size wo W
abbrev PSA (wo : World) (H : List UInt8) (q Q : Q4) (b : Option Addr) (cb : Nat) (l : List Tk) (win : Int) (B : Nat) (v : Value) (R : List UInt8) (g0 g6 g9 : Nat) (W : World) : Prop :=
  W.cell? ⟨g0, 0, none⟩ = some (.string (sOf H)) ∧ W.cell? ⟨g0, 1, none⟩ = some (.int .i64 q.a) ∧ W.cell? ⟨g0, 2, none⟩ = some (.int .i64 q.b) ∧ W.cell? ⟨g0, 3, none⟩ = some (.int .i64 q.c) ∧ W.cell? ⟨g0, 4, none⟩ = some (.int .i64 q.d) ∧ W.cell? ⟨g0, 5, none⟩ = some (.slice b l.length cb) ∧ W.cell? ⟨g0, 6, none⟩ = some (.int .i64 win) ∧
  W.cell? ⟨g6, 0, none⟩ = some (.int .i64 Q.a) ∧ W.cell? ⟨g6, 1, none⟩ = some (.int .i64 Q.b) ∧ W.cell? ⟨g6, 2, none⟩ = some (.int .i64 Q.c) ∧ W.cell? ⟨g6, 3, none⟩ = some (.int .i64 Q.d) ∧
  W.cell? ⟨g9, 0, none⟩ = some (.int .i64 Q.a) ∧ W.cell? ⟨g9, 1, none⟩ = some (.int .i64 Q.b) ∧ W.cell? ⟨g9, 2, none⟩ = some (.int .i64 Q.c) ∧ W.cell? ⟨g9, 3, none⟩ = some (.int .i64 Q.d) ∧
  (convert 34 9 v).run Try.prog W = .ok (.string (sOf R)) W ∧ PXA wo b l B v R g0 g6 g9 W
theorem keepPA {wo : World} {H : List UInt8} {q Q : Q4} {b : Option Addr} {cb : Nat} {l : List Tk} {win : Int} {B : Nat} {v : Value} {R : List UInt8} {g0 g6 g9 : Nat} {w1 w2 : World}
    (h : PSA wo H q Q b cb l win B v R g0 g6 g9 w1) (hb : Below w1.heap.size w1 w2) : PSA wo H q Q b cb l win B v R g0 g6 g9 w2 := by
  obtain ⟨a0, a1, a2, a3, a4, a5, a6, b0, b1, b2, b3, d0, d1, d2, d3, hc, h1, h2, l0, l6, l9, hB⟩ := h
  exact ⟨keepB hb a0, keepB hb a1, keepB hb a2, keepB hb a3, keepB hb a4, keepB hb a5, keepB hb a6, keepB hb b0, keepB hb b1, keepB hb b2, keepB hb b3, keepB hb d0, keepB hb d1, keepB hb d2, keepB hb d3, y_conv (h2.kept hb), h1.kept hb, h2.kept hb,
    Nat.lt_of_lt_of_le l0 hb.size, Nat.lt_of_lt_of_le l6 hb.size, Nat.lt_of_lt_of_le l9 hb.size, hB.trans (hb.mono hB.size)⟩
set_option maxHeartbeats 3200000 in
theorem applies_walk (H K : List UInt8) (q : Q4) (b : Option Addr) (cb : Nat) (l : List Tk) (win : Int) (w : World) (h2 : IsTk w b l) (hH : H.length ≤ 500) (hl : l.length ≤ 60) (hK : K.length ≤ 3000) :
    Calls Try.prog 5 #[.agg #[.string (sOf H), .int .i64 q.a, .int .i64 q.b, .int .i64 q.c, .int .i64 q.d, .slice b l.length cb, .int .i64 win], .string (sOf K)] w fun e w' => e = .returned (.bool true) ∧ Below w.heap.size w w' := by
  obtain ⟨⟨R, Q, E⟩, hR⟩ : ∃ r, appS win l q H = r := ⟨_, rfl⟩
  obtain ⟨V, hV⟩ : ∃ V, validS win l q H K = V := ⟨_, rfl⟩
  have e0 := heap_alloc_new w (.cells #[.string (sOf H), .int .i64 q.a, .int .i64 q.b, .int .i64 q.c, .int .i64 q.d, .slice b l.length cb, .int .i64 win] 44)
  have hb0 := (Below.refl w.heap.size w).alloc (Nat.le_refl _) (.cells #[.string (sOf H), .int .i64 q.a, .int .i64 q.b, .int .i64 q.c, .int .i64 q.d, .slice b l.length cb, .int .i64 win] 44)
  obtain ⟨g, C, W1, hcv, hM, hb1⟩ := bytes_of (w.alloc (.cells #[.string (sOf H), .int .i64 q.a, .int .i64 q.b, .int .i64 q.c, .int .i64 q.d, .slice b l.length cb, .int .i64 win] 44)) H (by omega)
  have HE0 := Lib.hid ((hb1.block _ (block_lt e0)).trans e0)
  have HB1 := Lib.hid (hb0.trans (hb1.mono (by simp)))
  have HTK := Lib.hid (h2.kept HB1.out)
  have hY : IsY W1 (some ⟨g, 0, none⟩) H := by
    obtain ⟨a, c, ev, hY⟩ := m_isY hM
    injection ev with e1 e2 e3
    subst e1
    exact hY
  have CA := Lib.hid (show Calls Try.prog 23 #[.slice (some ⟨g, 0, none⟩) H.length C, .agg #[.int .i64 q.a, .int .i64 q.b, .int .i64 q.c, .int .i64 q.d], .slice b l.length cb, .int .i64 win] W1 fun e w' => ∃ v, e = .returned (.tuple #[v, .agg #[.int .i64 Q.a, .int .i64 Q.b, .int .i64 Q.c, .int .i64 Q.d], .int .i64 E]) ∧ OwnY W1.heap.size w' v R ∧ Below W1.heap.size W1 w' from pApply (some ⟨g, 0, none⟩) b C cb H q l win W1 hY (by intro h; cases h) HTK.out (by omega) (by omega) R Q E hR)
  have CD := Lib.hid (fun W h => show Calls Try.prog 24 #[.string (sOf H), .agg #[.int .i64 q.a, .int .i64 q.b, .int .i64 q.c, .int .i64 q.d], .slice b l.length cb, .int .i64 win] W fun e w' => e = .returned (.tuple #[.string (sOf R), .agg #[.int .i64 Q.a, .int .i64 Q.b, .int .i64 Q.c, .int .i64 Q.d], .int .i64 E]) ∧ Below W.heap.size W w' from dApply b cb H q l win W h (by omega) (by omega) R Q E hR)
  have CV := Lib.hid (fun W h => show Calls Try.prog 25 #[.string (sOf H), .agg #[.int .i64 q.a, .int .i64 q.b, .int .i64 q.c, .int .i64 q.d], .slice b l.length cb, .int .i64 win, .string (sOf K)] W fun e w' => e = .returned (.bool V) ∧ Below W.heap.size W w' from pValid b cb H K q l win W h (by omega) (by omega) (by omega) V hV)
  have CW := Lib.hid (fun W h => show Calls Try.prog 26 #[.string (sOf H), .agg #[.int .i64 q.a, .int .i64 q.b, .int .i64 q.c, .int .i64 q.d], .slice b l.length cb, .int .i64 win, .string (sOf K)] W fun e w' => e = .returned (.bool V) ∧ Below W.heap.size W w' from dValid b cb H K q l win W h (by omega) (by omega) (by omega) V hV)
  have hN : (sOf H).size = H.length := sOf_sz H
  have hN2 : (sOf K).size = K.length := sOf_sz K
  have a0 := cell_lit HE0.out 0 _ rfl
  have a1 := cell_lit HE0.out 1 _ rfl
  have a2 := cell_lit HE0.out 2 _ rfl
  have a3 := cell_lit HE0.out 3 _ rfl
  have a4 := cell_lit HE0.out 4 _ rfl
  have a5 := cell_lit HE0.out 5 _ rfl
  have a6 := cell_lit HE0.out 6 _ rfl
  have hz1 : decide ((500 : Int) < H.length) = false := decide_eq_false (by omega)
  have hz2 : decide ((60 : Int) < l.length) = false := decide_eq_false (by omega)
  have hz3 : decide ((3000 : Int) < K.length) = false := decide_eq_false (by omega)
  clear hR hV e0 hb0 hM hb1 hY h2
  go_enter Try.func5, Try.ntmps5
  go_wp2_with fail
  refine CA.out.mono ?_; rintro e w2 ⟨v, rfl, ho, hb2⟩
  clear a0 a1 a2 a3 a4 a5 a6
  have e0 := (hb2.block _ (block_lt HE0.out)).trans HE0.out
  have HO := Lib.hid (ho.alloc (.cells #[.int .i64 Q.a, .int .i64 Q.b, .int .i64 Q.c, .int .i64 Q.d] 41))
  have hB2 := HB1.out.trans (hb2.mono HB1.out.size)
  have HTK2 := Lib.hid ((HTK.out.kept hb2).kept ((Below.refl _ _).alloc (Nat.le_refl _) (.cells #[.int .i64 Q.a, .int .i64 Q.b, .int .i64 Q.c, .int .i64 Q.d] 41)))
  have HB2 := Lib.hid (hB2.alloc hB2.size (.cells #[.int .i64 Q.a, .int .i64 Q.b, .int .i64 Q.c, .int .i64 Q.d] 41))
  have HE0 := Lib.hid (heap_old e0 (.cells #[.int .i64 Q.a, .int .i64 Q.b, .int .i64 Q.c, .int .i64 Q.d] 41))
  have HE6 := Lib.hid (heap_alloc_new w2 (.cells #[.int .i64 Q.a, .int .i64 Q.b, .int .i64 Q.c, .int .i64 Q.d] 41))
  have l0 := block_lt e0
  have a0 := cell_lit e0 0 _ rfl
  have a1 := cell_lit e0 1 _ rfl
  have a2 := cell_lit e0 2 _ rfl
  have a3 := cell_lit e0 3 _ rfl
  have a4 := cell_lit e0 4 _ rfl
  have a5 := cell_lit e0 5 _ rfl
  have a6 := cell_lit e0 6 _ rfl
  clear e0 ho hb2 hB2 HTK HB1 CA hcv
  go_wp2_with fail
  refine (CD.out _ HTK2.out).mono ?_; rintro e w3 ⟨rfl, hb3⟩
  have hP : PSA w H q Q b cb l win W1.heap.size v R w.heap.size w2.heap.size w3.heap.size (w3.alloc (.cells #[.int .i64 Q.a, .int .i64 Q.b, .int .i64 Q.c, .int .i64 Q.d] 41)) := by
    have x0 := heap_old ((hb3.block _ (block_lt HE0.out)).trans HE0.out) (.cells #[.int .i64 Q.a, .int .i64 Q.b, .int .i64 Q.c, .int .i64 Q.d] 41)
    have x6 := heap_old ((hb3.block _ (block_lt HE6.out)).trans HE6.out) (.cells #[.int .i64 Q.a, .int .i64 Q.b, .int .i64 Q.c, .int .i64 Q.d] 41)
    have x9 := heap_alloc_new w3 (.cells #[.int .i64 Q.a, .int .i64 Q.b, .int .i64 Q.c, .int .i64 Q.d] 41)
    have xo := (HO.out.kept hb3).alloc (.cells #[.int .i64 Q.a, .int .i64 Q.b, .int .i64 Q.c, .int .i64 Q.d] 41)
    have xb := HB2.out.trans (hb3.mono HB2.out.size)
    exact ⟨cell_lit x0 0 _ rfl, cell_lit x0 1 _ rfl, cell_lit x0 2 _ rfl, cell_lit x0 3 _ rfl, cell_lit x0 4 _ rfl, cell_lit x0 5 _ rfl, cell_lit x0 6 _ rfl, cell_lit x6 0 _ rfl, cell_lit x6 1 _ rfl, cell_lit x6 2 _ rfl, cell_lit x6 3 _ rfl, cell_lit x9 0 _ rfl, cell_lit x9 1 _ rfl, cell_lit x9 2 _ rfl, cell_lit x9 3 _ rfl,
      y_conv xo, (HTK2.out.kept hb3).kept ((Below.refl _ _).alloc (Nat.le_refl _) _), xo, block_lt x0, block_lt x6, block_lt x9, xb.alloc xb.size _⟩
  have HP := Lib.hid hP
  clear hP hb3 HO HTK2 HB2 HE0 HE6 a0 a1 a2 a3 a4 a5 a6 l0 CD
  go_wp2_with fail
  obtain ⟨g0, hg0⟩ : ∃ g0, w.heap.size = g0 := ⟨_, rfl⟩
  obtain ⟨g6, hg6⟩ : ∃ g6, w2.heap.size = g6 := ⟨_, rfl⟩
  obtain ⟨g9, hg9⟩ : ∃ g9, w3.heap.size = g9 := ⟨_, rfl⟩
  rw [hg0, hg6, hg9] at HP
  rw [hg6, hg9]
  simp only [hg0]
  generalize w3.alloc (.cells #[.int .i64 Q.a, .int .i64 Q.b, .int .i64 Q.c, .int .i64 Q.d] 41) = w5 at *
  have HG := Lib.hid hg0
  clear hg0 hg6 hg9 w3
  have hP := HP.out
  have hP0 : PSA w H q Q b cb l win W1.heap.size v R g0 g6 g9 w5.drew := keepPA hP (Below.refl _ _).drew
  have K1 := Lib.hid (fun W (h : PSA w H q Q b cb l win W1.heap.size v R g0 g6 g9 W) => CV.out W h.2.2.2.2.2.2.2.2.2.2.2.2.2.2.2.2.1)
  have K2 := Lib.hid (fun W (h : PSA w H q Q b cb l win W1.heap.size v R g0 g6 g9 W) => CW.out W h.2.2.2.2.2.2.2.2.2.2.2.2.2.2.2.2.1)
  have K3 := Lib.hid (fun W => awake18 W)
  have he : ∀ w, (binOp .eql 41 (.agg #[.int .i64 Q.a, .int .i64 Q.b, .int .i64 Q.c, .int .i64 Q.d]) (.agg #[.int .i64 Q.a, .int .i64 Q.b, .int .i64 Q.c, .int .i64 Q.d])).run Try.prog w = .ok (.bool true) w := fun w => by
    rw [run_eql_ints4 41 3 _ Q.a Q.b Q.c Q.d Q.a Q.b Q.c Q.d w (by kernel_rfl) (by kernel_rfl) rfl (by kernel_rfl)]; simp
  clear CV CW HP
  go_region_held3 (fun W => W.cell? ⟨g0, 0, none⟩ = some (.string (sOf H)) ∧ W.cell? ⟨g0, 1, none⟩ = some (.int .i64 q.a) ∧ W.cell? ⟨g0, 2, none⟩ = some (.int .i64 q.b) ∧ W.cell? ⟨g0, 3, none⟩ = some (.int .i64 q.c) ∧ W.cell? ⟨g0, 4, none⟩ = some (.int .i64 q.d) ∧ W.cell? ⟨g0, 5, none⟩ = some (.slice b l.length cb) ∧ W.cell? ⟨g0, 6, none⟩ = some (.int .i64 win) ∧ W.cell? ⟨g6, 0, none⟩ = some (.int .i64 Q.a) ∧ W.cell? ⟨g6, 1, none⟩ = some (.int .i64 Q.b) ∧ W.cell? ⟨g6, 2, none⟩ = some (.int .i64 Q.c) ∧ W.cell? ⟨g6, 3, none⟩ = some (.int .i64 Q.d) ∧ W.cell? ⟨g9, 0, none⟩ = some (.int .i64 Q.a) ∧ W.cell? ⟨g9, 1, none⟩ = some (.int .i64 Q.b) ∧ W.cell? ⟨g9, 2, none⟩ = some (.int .i64 Q.c) ∧ W.cell? ⟨g9, 3, none⟩ = some (.int .i64 Q.d) ∧ (convert 34 9 v).run Try.prog W = .ok (.string (sOf R)) W ∧ PXA w b l W1.heap.size v R g0 g6 g9 W) (first | with_reducible exact hP0 | with_reducible exact keepPA (by with_reducible assumption) (by with_reducible assumption)) (first | (go_at_call 25; with_reducible refine (K1.out _ (by with_reducible assumption)).mono ?_; rintro e wx ⟨rfl, hbx⟩) | (go_at_call 26; with_reducible refine (K2.out _ (by with_reducible assumption)).mono ?_; rintro e wy ⟨rfl, hby⟩) | (go_at_call 20; with_reducible refine (K3.out _).mono ?_; rintro e wz ⟨rfl, hbz⟩) | fail)
  simp only [Exit.then]
  rename_i K0 hK hHeld
  refine hK _ _ ?_
  have HB := Lib.hid hHeld.2.2.2.2.2.2.2.2.2.2.2.2.2.2.2.2.2.2.2.2.2
  clear hK hHeld hbx hby hbz hP hP0 K1 K2 K3 he
  go_wp2_with fail
  go_ret
  exact ⟨rfl, HB.out⟩
end Go.Proofs.Ytjpmfaodkldobaa
