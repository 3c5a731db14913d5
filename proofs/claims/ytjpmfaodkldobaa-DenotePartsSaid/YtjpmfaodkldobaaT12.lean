/- Layer 18: the program's Valid. -/
import Derived.Test.YtjpmfaodkldobaaT11
namespace Go.Proofs.Ytjpmfaodkldobaa
open Go.ChangeShapes Go.WideShapes Go.ChangeAt Go.RowKit
set_option linter.unusedVariables false
set_option linter.unusedSimpArgs false
set_option maxRecDepth 100000
theorem addr_add2 (x : Addr) (n i : Nat) : (x.add n).add i = x.add (n + i) := by
  unfold Addr.add
  by_cases hn : n = 0
  · subst hn; simp
  · by_cases hi : i = 0
    · subst hi; simp
    · simp [hn, hi]; omega
/-- A text as a row of bytes. -/
theorem bytes_of (w : World) (H : List UInt8) (hH : H.length ≤ 1000000) : ∃ (g C : Nat) (W1 : World), (convert 9 34 (.string (sOf H))).run Try.prog w = .ok (.slice (some ⟨g, 0, none⟩) H.length C) W1 ∧ OwnM w.heap.size W1 (.slice (some ⟨g, 0, none⟩) H.length C) H ∧ Below w.heap.size w W1 := by
  have hcv := run_bytes_of_string (P := Try.prog) w 9 34 5 (sOf H) Try.underlying9 Try.underlying34 Try.underlying5
  have hM := ownM_conv w (sOf H) (by rw [sOf_sz]; omega)
  have hB0 : Below w.heap.size w (w.drew.alloc (.cells (bytesRow (sOf H) (grownCap w (sOf H).size 0 5)) 5 ((bytesRow (sOf H) (grownCap w (sOf H).size 0 5)).size, (bytesRow (sOf H) (grownCap w (sOf H).size 0 5)).size + 1))) := (Below.refl _ _).drew.alloc (Nat.le_refl _) _
  have hsl : (sOf H).data.toList.length = (sOf H).size := by simp
  rw [sOf_li] at hM
  rw [sOf_sz] at hcv hM hB0
  exact ⟨_, _, _, hcv, hM, hB0⟩
set_option maxHeartbeats 1600000 in
theorem pValid (b : Option Addr) (cb : Nat) (H K : List UInt8) (q : Q4) (l : List Tk) (win : Int) (w : World) (h2 : IsTk w b l) (hH : H.length ≤ 20000) (hK : K.length ≤ 20000) (hl : l.length ≤ 100) (V : Bool) (hV : validS win l q H K = V) :
    Calls Try.prog 25 #[.string (sOf H), q4V q, .slice b l.length cb, .int .i64 win, .string (sOf K)] w fun e w' => e = .returned (.bool V) ∧ Below w.heap.size w w' := by
  obtain ⟨⟨R, Q, E⟩, hR⟩ : ∃ r, appS win l q H = r := ⟨_, rfl⟩
  obtain ⟨g, C, W1, hcv, hM, hb1⟩ := bytes_of (w.alloc (.cells #[.int .i64 q.a, .int .i64 q.b, .int .i64 q.c, .int .i64 q.d] 41)) H (by omega)
  obtain ⟨a, c, ev, hY⟩ := m_isY hM
  injection ev with e1 e2 e3
  subst e1 e3
  have hbq := (Below.refl w.heap.size w).alloc (Nat.le_refl _) (.cells #[.int .i64 q.a, .int .i64 q.b, .int .i64 q.c, .int .i64 q.d] 41)
  have HB1 := Lib.hid (hbq.trans (hb1.mono (by simp)))
  have HTK := Lib.hid (h2.kept HB1.out)
  have CA := Lib.hid (show Calls Try.prog 23 #[.slice (some ⟨g, 0, none⟩) H.length C, .agg #[.int .i64 q.a, .int .i64 q.b, .int .i64 q.c, .int .i64 q.d], .slice b l.length cb, .int .i64 win] W1 fun e w' => ∃ v, e = .returned (.tuple #[v, .agg #[.int .i64 Q.a, .int .i64 Q.b, .int .i64 Q.c, .int .i64 Q.d], .int .i64 E]) ∧ OwnY W1.heap.size w' v R ∧ Below W1.heap.size W1 w' from pApply (some ⟨g, 0, none⟩) b C cb H q l win W1 hY (by intro h; cases h) HTK.out hH hl R Q E hR)
  have hRl := appS_len2 hR
  have hcell := hb1.cell (p := ⟨w.heap.size, 0, none⟩) (by simp)
  have HX := Lib.hid ((hb1.block w.heap.size (by simp)).trans (heap_alloc_new w (.cells #[.int .i64 q.a, .int .i64 q.b, .int .i64 q.c, .int .i64 q.d] 41)))
  have c0 := cell_lit HX.out 0 _ rfl
  have c1 := cell_lit HX.out 1 _ rfl
  have c2 := cell_lit HX.out 2 _ rfl
  have c3 := cell_lit HX.out 3 _ rfl
  unfold validS at hV
  have hpre := appS_pre win l q H
  rw [hR] at hV hpre
  have hR5 : R.length ≤ 60000 := by omega
  show Calls Try.prog 25 #[.string (sOf H), .agg #[.int .i64 q.a, .int .i64 q.b, .int .i64 q.c, .int .i64 q.d], .slice b l.length cb, .int .i64 win, .string (sOf K)] w _
  have hN : (sOf H).size = H.length := sOf_sz H
  clear h2 hR hH hK hl hRl hM hb1 hY hbq hcell HX
  by_cases h0 : E = 0
  · subst h0
    obtain ⟨T, hT⟩ := hpre rfl
    change R = H ++ T at hT
    have HT := Lib.hid hT
    have hle : H.length ≤ R.length := by rw [hT]; simp
    have hb : ((sOf (R.drop H.length)).toList == (sOf K).toList) = V := by
      rw [sOf_tl, sOf_tl, ← hV]
      show _ = (decide ((0 : Int) = 0) && decide (R = H ++ K))
      rw [hT]
      by_cases hq : T = K
      · subst hq; simp
      · simp [hq]
    clear hV hpre hT
    go_enter Try.func25, Try.ntmps25
    go_wp2_with fail
    refine CA.out.mono ?_; rintro e w1 ⟨v, rfl, ho, hb1⟩
    have HB2 := Lib.hid (HB1.out.trans (hb1.mono HB1.out.size))
    obtain ⟨va, vc, rfl, hy⟩ := y_isY ho
    obtain ⟨-, hc1, hc2⟩ := y_cap ho
    have HO := Lib.hid ho
    clear hb1 ho c0 c1 c2 c3
    rcases va with _ | x
    · have hR0 : R = [] := by rcases hy with h | ⟨x, h, -⟩; exact h; cases h
      have hl0 : R.length = 0 := by rw [hR0]; rfl
      have hH0 : H.length = 0 := by omega
      obtain rfl : vc = 0 := by
        have := HO.out.2
        rcases this with ⟨e, -⟩ | ⟨g, cap, cur, e, -⟩
        · injection e
        · injection e with e; cases e
      have hcvN : ∀ W, (convert 34 9 (.slice none 0 0)).run Try.prog W = .ok (.string (sOf (R.drop H.length))) W := by
        intro W
        rw [hR0, List.drop_nil]
        exact run_convert_bytes_nil (w := W) 34 5 Try.underlying34 Try.underlying5 0 0 9 Try.underlying9
      have hcvM := hcvN
      rw [hH0] at hcvM
      have hb2 := hb
      rw [hH0, List.drop_zero] at hb2
      clear hy hR0 hc1 hc2 hle hR5 HO
      go_wp2_with fail
      all_goals go_ret
      all_goals exact ⟨rfl, HB2.out.alloc HB2.out.size _⟩
    · have hcvW : ∀ W, Below w1.heap.size w1 W → (convert 34 9 (.slice (some (x.add H.length)) (R.length - H.length) (vc - H.length))).run Try.prog W = .ok (.string (sOf (R.drop H.length))) W := by
        intro W hb
        rcases hy with h | ⟨x', e, hc⟩
        · have : R.length - H.length = 0 := by rw [h]; simp
          rw [this, h, List.drop_nil]
          exact run_convert_bytes_back (P := Try.prog) W 34 9 5 (x.add H.length) _ [] Try.underlying34 Try.underlying5 Try.underlying9 (fun j hj => by simp at hj)
        · injection e with e
          subst e
          have hl : (R.drop H.length).length = R.length - H.length := List.length_drop
          rw [← hl]
          refine run_convert_bytes_back (P := Try.prog) W 34 9 5 (x.add H.length) _ (R.drop H.length) Try.underlying34 Try.underlying5 Try.underlying9 (fun j hj => ?_)
          rw [addr_add2, hb.cell (cell_block (hc _ (by omega))), hc _ (by omega)]
          simp only [List.getD_eq_getElem?_getD, List.getElem_drop]
          rw [List.getElem?_eq_getElem (by omega)]
          rfl
      have hcvA := hcvW _ ((Below.refl w1.heap.size w1).alloc (Nat.le_refl _) (.cells #[.int .i64 Q.a, .int .i64 Q.b, .int .i64 Q.c, .int .i64 Q.d] 41))
      have hcvB : vc = H.length → ∀ W, (convert 34 9 (.slice (some x) (R.length - H.length) 0)).run Try.prog W = .ok (.string (sOf (R.drop H.length))) W := by
        intro h W
        have h1 : R.length - H.length = 0 := by omega
        have h2 : R.drop H.length = [] := List.drop_eq_nil_of_le (by omega)
        rw [h1, h2]
        exact run_convert_bytes_back (P := Try.prog) W 34 9 5 x _ [] Try.underlying34 Try.underlying5 Try.underlying9 (fun j hj => by simp at hj)
      clear hy hcvW HO
      by_cases hvc : vc = H.length
      · have hcvC := hcvB hvc
        clear hcvB hcvA
        go_wp2_with fail
        all_goals go_ret
        all_goals exact ⟨rfl, HB2.out.alloc HB2.out.size _⟩
      · clear hcvB
        go_wp2_with fail
        all_goals go_ret
        all_goals exact ⟨rfl, HB2.out.alloc HB2.out.size _⟩
  · obtain rfl : V = false := by rw [← hV]; simp [h0]
    have hEb : (E == 0) = false := by rw [beq_eq_false_iff_ne]; exact h0
    clear hV hpre
    go_enter Try.func25, Try.ntmps25
    go_wp2_with fail
    refine CA.out.mono ?_; rintro e w1 ⟨v, rfl, ho, hb1⟩
    have HB2 := Lib.hid (HB1.out.trans (hb1.mono HB1.out.size))
    obtain ⟨va, vc, rfl⟩ := ho.slice
    clear hb1 ho c0 c1 c2 c3
    go_wp2_with fail
    all_goals go_ret
    all_goals exact ⟨rfl, HB2.out.alloc HB2.out.size _⟩
end Go.Proofs.Ytjpmfaodkldobaa
