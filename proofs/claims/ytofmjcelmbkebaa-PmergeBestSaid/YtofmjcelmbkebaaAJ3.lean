/- Layer 7: the chapter's example. -/
import Derived.Test.YtofmjcelmbkebaaAJ2
namespace Go.Proofs.Ytofmjcelmbkebaa
open Go.ChangeShapes Go.WideShapes Go.ChangeAt Go.RowKit
set_option linter.unusedVariables false
set_option linter.unusedSimpArgs false
set_option maxRecDepth 100000
open KraftMath Pm
set_option maxHeartbeats 800000 in
theorem ints6_eq (a b : Option Addr) (ca cb : Nat) (l m : List Int) (w : World) (h1 : IsInts w a l) (h2 : IsInts w b m) (B : Bool) (hB : B = decide (l = m)) :
    Calls Try.prog 12 #[.slice a l.length ca, .slice b m.length cb] w fun e w' => e = .returned (.bool B) ∧ ∃ k, w' = w.drewN k := by
  have hl1 := h1.1; have hl2 := h2.1
  by_cases hlen : l.length = m.length
  · have hne : ((l.length : Int) == (m.length : Int)) = true := by simp [hlen]
    have hne' : ((l.length : Int) != (m.length : Int)) = false := by simp [hlen]
    have HLEN := Lib.hid hlen; clear hlen
    have HB := Lib.hid hB; clear hB
    have H1 := Lib.hid h1; have H2 := Lib.hid h2; clear h1 h2
    go_enter Try.func12, Try.ntmps12
    go_wp2
    clear hne hne'
    go_loopw [5] (fun i wr => ∃ k : Nat, k ≤ l.length ∧ i = .int .i64 k ∧ Hid (l.take k = m.take k) ∧ ∃ q, wr = w.drewN q) (fun i _ => l.length - (intOf i).toNat)
    case atStart => exact ⟨0, Nat.zero_le _, rfl, Lib.hid rfl, 0, rfl⟩
    case round =>
      obtain ⟨k, hk, rfl, ht, q, rfl⟩ := hrel
      by_cases hlt : k < l.length
      · obtain ⟨x, rfl, -, hx⟩ := H1.out.at k hlt
        obtain ⟨y, rfl, -, hy⟩ := H2.out.at k (by have := HLEN.out; omega)
        have hltm : k < m.length := by have := HLEN.out; omega
        have cx := hx k hlt
        have cy := hy k hltm
        clear hx hy
        obtain ⟨X, hX⟩ : ∃ X, l.getD k 0 = X := ⟨_, rfl⟩
        obtain ⟨Y, hY⟩ : ∃ Y, m.getD k 0 = Y := ⟨_, rfl⟩
        rw [hX] at cx; rw [hY] at cy
        by_cases hXY : X = Y
        · subst hXY
          have HT := Lib.hid (show l.take (k + 1) = m.take (k + 1) by rw [take_getD l k hlt, take_getD m k hltm, ht.out, hX, hY])
          clear hX hY
          go_wp2
          go_region
          go_wp2
          go_roundw
          case rel => exact ⟨k + 1, by omega, by go_num, HT, _, rfl⟩
          case measure => simp [intOf]; omega
        · have e1 : (X == Y) = false := by rw [beq_eq_false_iff_ne]; exact hXY
          have e2 : (X != Y) = true := by rw [bne, e1]; rfl
          have HF := Lib.hid (show B = false by
            rw [HB.out, decide_eq_false_iff_not]
            rintro rfl
            exact hXY (hX.symm.trans hY))
          clear hX hY hXY
          go_wp2
          go_region
          go_wp2
          go_ret
          exact ⟨ret_b HF.out.symm, _, rfl⟩
      · have HF := Lib.hid (show B = true by
          rw [HB.out, decide_eq_true_iff]
          have h := ht.out
          have hl := HLEN.out
          rw [List.take_of_length_le (by omega), List.take_of_length_le (by omega)] at h
          exact h)
        go_wp2
        go_ret
        exact ⟨ret_b HF.out.symm, _, rfl⟩
  · have HF := Lib.hid (show B = false by rw [hB, decide_eq_false_iff_not]; rintro rfl; exact hlen rfl)
    have e1 : ((l.length : Int) == (m.length : Int)) = false := by rw [beq_eq_false_iff_ne]; omega
    have e2 : ((l.length : Int) != (m.length : Int)) = true := by rw [bne, e1]; rfl
    clear hlen hB
    go_enter Try.func12, Try.ntmps12
    go_wp2
    go_ret
    exact ⟨ret_b HF.out.symm, 0, rfl⟩
theorem ints6L {v u : Value} {l m : List Int} {w : World} (h1 : IsL w v l) (h2 : IsL w u m) (B : Bool) (hB : B = decide (l = m)) :
    Calls Try.prog 12 #[v, u] w fun e w' => e = .returned (.bool B) ∧ ∃ k, w' = w.drewN k := by
  obtain ⟨a, ca, rfl, h1⟩ := h1
  obtain ⟨b, cb, rfl, h2⟩ := h2
  exact ints6_eq a b ca cb l m w h1 h2 B hB

theorem pLenOk (a : Option Addr) (c n : Nat) (l : List Int) (L : Int) (w : World) (hl : l.length = n) (h : IsInts w a l) (hE : chkP l L = 0) (R : List Int) (hR : lensV l L.toNat = R) :
    Calls Try.prog 9 #[.slice a n c, .int .i64 L] w fun e w' => ∃ u, e = .returned (.tuple #[u, .int .i64 0]) ∧ OwnI w.heap.size w' u R ∧ Below w.heap.size w w' := by
  subst hR
  by_cases h1 : (srtS l).length = 1
  · exact pLenOne a c n l L w hl h hE h1
  · exact pLenAll a c n l L w hl h hE h1
theorem pLenNo (a : Option Addr) (c n : Nat) (l : List Int) (L E : Int) (w : World) (hl : l.length = n) (h : IsInts w a l) (hE : chkP l L = E) (h0 : E ≠ 0) :
    Calls Try.prog 9 #[.slice a n c, .int .i64 L] w fun e w' => e = .returned (.tuple #[.slice none 0 0, .int .i64 E]) ∧ Below w.heap.size w w' := by
  refine (pLenBad a c n l L E w hl h hE h0).mono ?_
  rintro e w' ⟨h1, rfl⟩
  exact ⟨h1, Below.refl _ _⟩
theorem litI (w : World) (is : List Int) (t2 : Nat) (hl : is.length ≤ 70368744177664) : IsInts (w.alloc (.cells (is.map (Value.int .i64 ·)).toArray t2)) (some ⟨w.heap.size, 0, none⟩) is := IsInts.new w is t2 (0, 0) hl
theorem aw1 : chkP [1, 1, 2, 4] 3 = 0 := by decide +kernel
theorem aw2 : lensV [1, 1, 2, 4] 3 = [3, 3, 2, 1] := by decide +kernel
theorem aw3 : chkP [1, 1, 2, 4] 2 = 0 := by decide +kernel
theorem aw4 : lensV [1, 1, 2, 4] 2 = [2, 2, 2, 2] := by decide +kernel
theorem aw5 : chkP [1, 1, 2, 4] 1 = 6 := by decide +kernel
theorem aw6 : chkP [0, 7] 1 = 0 := by decide +kernel
theorem aw7 : lensV [0, 7] 1 = [0, 1] := by decide +kernel
theorem aw8 : chkP [0] 1 = 7 := by decide +kernel
theorem aw9 : costL [1, 1, 2, 4] [3, 3, 2, 1] = 14 := by decide +kernel
theorem aw10 : costL [3, -1] [2, 5] = 6 := by decide +kernel
set_option maxHeartbeats 3200000 in
theorem awake07 (w : World) : Calls Try.prog 8 #[] w fun e w' => e = .returned (.bool true) ∧ Below w.heap.size w w' := by
  have C3 := Lib.hid (fun a c W h => pLenOk a c 4 [1, 1, 2, 4] 3 W rfl h aw1 _ aw2)
  have C2 := Lib.hid (fun a c W h => pLenOk a c 4 [1, 1, 2, 4] 2 W rfl h aw3 _ aw4)
  have C1 := Lib.hid (fun a c W h => pLenNo a c 4 [1, 1, 2, 4] 1 6 W rfl h aw5 (by decide))
  have C7 := Lib.hid (fun (W : World) h => pLenOk (some ⟨W.heap.size, 0, none⟩) 2 2 [0, 7] 1 (W.alloc (.cells #[.int .i64 0, .int .i64 7] 3)) rfl h aw6 _ aw7)
  have C0 := Lib.hid (fun (W : World) h => pLenNo (some ⟨W.heap.size, 0, none⟩) 1 1 [0] 1 7 (W.alloc (.cells #[.int .i64 0] 3)) rfl h aw8 (by decide))
  have HB0 := Lib.hid ((Below.refl w.heap.size w).alloc (Nat.le_refl _) (.cells #[.int .i64 1, .int .i64 1, .int .i64 2, .int .i64 4] 3))
  have HF0 := Lib.hid (litI w [1, 1, 2, 4] 3 (by decide))
  have CC := Lib.hid (fun a b c d W h k => pCost a b c d 4 4 [1, 1, 2, 4] [3, 3, 2, 1] W rfl h rfl k (by decide))
  rw [aw9] at CC
  have CD := Lib.hid (fun a b c d W h k => pCost a b c d 2 2 [3, -1] [2, 5] W rfl h rfl k (by decide))
  rw [aw10] at CD
  have CI4 := Lib.hid (fun a b ca cb W h k => ints6_eq a b ca cb [2, 2, 2, 2] [2, 2, 2, 2] W h k true (by decide))
  have CI2 := Lib.hid (fun a b ca cb W h k => ints6_eq a b ca cb [0, 1] [0, 1] W h k true (by decide))
  have st := Lib.hid (fun (a b : World) (o : Obj) (h1 : Below w.heap.size w a) (h2 : Below (a.alloc o).heap.size (a.alloc o) b) => (show Below w.heap.size w b from (h1.alloc h1.size o).trans (h2.mono (by have := h1.size; simp; omega))))
  have su := Lib.hid (fun (a b : World) (h1 : Below w.heap.size w a) (h2 : Below a.heap.size a b) => (show Below w.heap.size w b from h1.trans (h2.mono h1.size)))
  go_enter Try.func8, Try.ntmps8
  go_wp2_with fail
  refine (C3.out _ _ _ HF0.out).mono ?_; rintro e w1 ⟨u1, rfl, h1, hb1⟩
  obtain ⟨a1, c1, rfl, i1⟩ := h1.isL (by decide)
  have I1 := Lib.hid i1
  have HF1 := Lib.hid (HF0.out.kept hb1)
  have HB1 := Lib.hid (su.out _ _ HB0.out (hb1.mono (by simp)))
  clear h1 hb1 i1 C3 HB0
  go_wp2_with fail
  refine (C2.out _ _ _ HF1.out).mono ?_; rintro e w2 ⟨u2, rfl, h2, hb2⟩
  obtain ⟨a2, c2, rfl, i2⟩ := h2.isL (by decide)
  have I2 := Lib.hid i2
  have I1 := Lib.hid (I1.out.kept hb2)
  have HF2 := Lib.hid (HF1.out.kept hb2)
  have HB2 := Lib.hid (su.out _ _ HB1.out hb2)
  clear h2 hb2 i2 C2 HB1
  go_wp2_with fail
  refine (C1.out _ _ _ HF2.out).mono ?_; rintro e w3 ⟨rfl, hb3⟩
  have I1 := Lib.hid (I1.out.kept hb3)
  have I2 := Lib.hid (I2.out.kept hb3)
  have HF3 := Lib.hid (HF2.out.kept hb3)
  have HB3 := Lib.hid (su.out _ _ HB2.out hb3)
  clear hb3 C1 HB2
  go_wp2_with fail
  refine (C7.out _ (litI w3 [0, 7] 3 (by decide))).mono ?_; rintro e w4 ⟨u4, rfl, h4, hb4⟩
  obtain ⟨a4, c4, rfl, i4⟩ := h4.isL (by decide)
  have I4 := Lib.hid i4
  have I1 := Lib.hid ((I1.out.alloc _).kept hb4)
  have I2 := Lib.hid ((I2.out.alloc _).kept hb4)
  have HF4 := Lib.hid ((HF3.out.alloc _).kept hb4)
  have HB4 := Lib.hid (st.out _ _ _ HB3.out hb4)
  clear h4 hb4 i4 C7 HB3
  go_wp2_with fail
  refine (C0.out _ (litI w4 [0] 3 (by decide))).mono ?_; rintro e w5 ⟨rfl, hb5⟩
  have I1 := Lib.hid ((I1.out.alloc _).kept hb5)
  have I2 := Lib.hid ((I2.out.alloc _).kept hb5)
  have I4 := Lib.hid ((I4.out.alloc _).kept hb5)
  have HF5 := Lib.hid ((HF4.out.alloc _).kept hb5)
  have HB5 := Lib.hid (st.out _ _ _ HB4.out hb5)
  clear hb5 C0 HB4
  go_wp2_with fail
  refine (CC.out _ _ _ _ _ HF5.out I1.out).mono ?_; rintro e w6 ⟨rfl, k6, rfl⟩
  have I2 := Lib.hid (I2.out.drewN k6)
  have I4 := Lib.hid (I4.out.drewN k6)
  have HB6 := Lib.hid (below_dn HB5.out k6)
  clear HB5 HF5 I1 CC
  generalize w5.drewN k6 = w6 at *
  go_wp2_with fail
  refine (CI4.out _ _ _ _ _ (I2.out.alloc _) (litI w6 [2, 2, 2, 2] 3 (by decide))).mono ?_; rintro e w7 ⟨rfl, k7, rfl⟩
  have I4 := Lib.hid ((I4.out.alloc (.cells ([2, 2, 2, 2].map (Value.int .i64 ·)).toArray 3)).drewN k7)
  have HB7 := Lib.hid (below_dn (HB6.out.alloc HB6.out.size (.cells ([2, 2, 2, 2].map (Value.int .i64 ·)).toArray 3)) k7)
  clear HB6 I2 CI4
  generalize (w6.alloc (.cells ([2, 2, 2, 2].map (Value.int .i64 ·)).toArray 3)).drewN k7 = w7 at *
  go_wp2_with fail
  refine (CI2.out _ _ _ _ _ (I4.out.alloc _) (litI w7 [0, 1] 3 (by decide))).mono ?_; rintro e w8 ⟨rfl, k8, rfl⟩
  have HB8 := Lib.hid (below_dn (HB7.out.alloc HB7.out.size (.cells ([0, 1].map (Value.int .i64 ·)).toArray 3)) k8)
  clear HB7 I4 CI2
  generalize (w7.alloc (.cells ([0, 1].map (Value.int .i64 ·)).toArray 3)).drewN k8 = w8 at *
  have H3 := Lib.hid (show IsInts ((w8.alloc (.cells #[.int .i64 3, .int .i64 (-1)] 3)).alloc (.cells #[.int .i64 2, .int .i64 5] 3)) (some ⟨w8.heap.size, 0, none⟩) [3, -1] from (litI w8 [3, -1] 3 (by decide)).alloc _)
  have H4 := Lib.hid (show IsInts ((w8.alloc (.cells #[.int .i64 3, .int .i64 (-1)] 3)).alloc (.cells #[.int .i64 2, .int .i64 5] 3)) (some ⟨w8.heap.size + 1, 0, none⟩) [2, 5] from by
    have h := litI (w8.alloc (.cells #[.int .i64 3, .int .i64 (-1)] 3)) [2, 5] 3 (by decide)
    rwa [show (w8.alloc (.cells #[.int .i64 3, .int .i64 (-1)] 3)).heap.size = w8.heap.size + 1 by simp] at h)
  have HB8b := Lib.hid ((HB8.out.alloc HB8.out.size (.cells #[.int .i64 3, .int .i64 (-1)] 3)).alloc (by have := HB8.out.size; simp; omega) (.cells #[.int .i64 2, .int .i64 5] 3))
  go_wp2_with fail
  refine (CD.out _ _ _ _ _ H3.out H4.out).mono ?_; rintro e w9 ⟨rfl, k9, rfl⟩
  have HB9 := Lib.hid (below_dn HB8b.out k9)
  go_wp2_with fail
  go_ret
  exact ⟨rfl, HB9.out⟩
end Go.Proofs.Ytofmjcelmbkebaa
