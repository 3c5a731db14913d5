/- Layer 21, the document's: Same. -/
import Derived.Test.YtpkidedepcnoaaaM2
namespace Go.Proofs.Ytpkidedepcnoaaa
open Go.ChangeShapes Go.WideShapes Go.ChangeAt Go.RowKit
set_option linter.unusedVariables false
set_option linter.unusedSimpArgs false
set_option maxRecDepth 100000
def IsMs (w : World) (a : Option Addr) (l : List Mt) : Prop := l.length ≤ 70368744177664 ∧ (l = [] ∨ ∃ x, a = some x ∧ ∀ i, i < l.length → w.cell? (x.add (i * 2)) = some (.int .i64 (l.getD i (0, 0)).1) ∧ w.cell? ⟨(x.add (i * 2)).block, (x.add (i * 2)).off + 1, none⟩ = some (.int .i64 (l.getD i (0, 0)).2))
def IsMv (w : World) (v : Value) (l : List Mt) : Prop := ∃ a cap, v = .slice a l.length cap ∧ IsMs w a l
theorem IsMs.at {w : World} {a : Option Addr} {l : List Mt} (h : IsMs w a l) (k : Nat) (hk : k < l.length) : ∃ x : Addr, a = some x ∧ x.block < w.heap.size ∧ ∀ i, i < l.length → w.cell? (x.add (i * 2)) = some (.int .i64 (l.getD i (0, 0)).1) ∧ w.cell? ⟨(x.add (i * 2)).block, (x.add (i * 2)).off + 1, none⟩ = some (.int .i64 (l.getD i (0, 0)).2) := by
  rcases h.2 with rfl | ⟨x, rfl, hc⟩
  · simp at hk
  · have := cell_block (hc 0 (by omega)).1
    exact ⟨x, rfl, by simpa [Addr.add] using this, hc⟩
theorem IsMs.kept {w w' : World} {a : Option Addr} {l : List Mt} (h : IsMs w a l) (hb : Below w.heap.size w w') : IsMs w' a l := by
  refine ⟨h.1, ?_⟩
  rcases h.2 with rfl | ⟨x, rfl, hc⟩
  · exact .inl rfl
  · refine .inr ⟨x, rfl, fun i hi => ?_⟩
    obtain ⟨h1, h2⟩ := hc i hi
    rw [hb.cell (cell_block h1), hb.cell (cell_block h2)]; exact ⟨h1, h2⟩
theorem IsMv.kept {w w' : World} {v : Value} {l : List Mt} (h : IsMv w v l) (hb : Below w.heap.size w w') : IsMv w' v l := by
  obtain ⟨a, cap, e, h⟩ := h
  exact ⟨a, cap, e, h.kept hb⟩
theorem IsMv.nil (w : World) : IsMv w (.slice none 0 0) [] := ⟨none, 0, rfl, by simp, .inl rfl⟩
theorem IsMv.alloc {w : World} {v : Value} {l : List Mt} (h : IsMv w v l) (o : Obj) : IsMv (w.alloc o) v l := h.kept ((Below.refl _ _).alloc (Nat.le_refl _) o)
theorem OwnS.isMv {B : Nat} {w : World} {v : Value} {l : List Mt} (h : OwnMt B w v l) (hl : l.length ≤ 70368744177664) : IsMv w v l := by
  by_cases h0 : 0 < l.length
  · obtain ⟨g, cap, rfl, -, -⟩ := h.form h0 (by decide)
    refine ⟨_, cap, rfl, hl, .inr ⟨_, rfl, fun i hi => ?_⟩⟩
    have h1 := h.cell flatM i 0 l[i] (by simp [hi]) (by decide)
    have h2 := h.cell flatM i 1 l[i] (by simp [hi]) (by decide)
    have e1 : (⟨g, 0, none⟩ : Addr).add (i * 2) = ⟨g, i * 2 + 0, none⟩ := by unfold Addr.add; split <;> simp_all
    rw [e1]
    show w.cell? ⟨g, i * 2 + 0, none⟩ = _ ∧ w.cell? ⟨g, i * 2 + 1, none⟩ = _
    rw [h1, h2]
    simp [fM, List.getD_eq_getElem?_getD, hi]
  · obtain ⟨a, cap, rfl⟩ := h.slice
    exact ⟨a, cap, rfl, hl, .inl (List.eq_nil_of_length_eq_zero (by omega))⟩
theorem take_getDM (l : List Mt) (k : Nat) (h : k < l.length) : l.take (k + 1) = l.take k ++ [l.getD k (0, 0)] := by
  rw [List.take_succ_eq_append_getElem h]; simp [List.getD_eq_getElem?_getD, h]
set_option maxHeartbeats 1600000 in
theorem dSameM (a b : Option Addr) (ca cb : Nat) (l m : List Mt) (w : World) (h1 : IsMs w a l) (h2 : IsMs w b m) (B : Bool) (hB : B = decide (l = m)) :
    Calls Try.prog 25 #[.slice a l.length ca, .slice b m.length cb] w fun e w' => e = .returned (.bool B) ∧ ∃ k, w' = w.drewN k := by
  have hl1 := h1.1; have hl2 := h2.1
  by_cases hlen : l.length = m.length
  · have hne : ((l.length : Int) == (m.length : Int)) = true := by simp [hlen]
    have hne' : ((l.length : Int) != (m.length : Int)) = false := by simp [hlen]
    have hlen_ := Lib.hid hlen
    have hB_ := Lib.hid hB
    have h1_ := Lib.hid h1
    have h2_ := Lib.hid h2
    clear hlen hB h1 h2
    go_enter Try.func25, Try.ntmps25
    go_wp2
    clear hne hne'
    go_loopw [5] (fun i wr => ∃ k : Nat, k ≤ l.length ∧ i = .int .i64 k ∧ Hid (l.take k = m.take k) ∧ ∃ q, wr = w.drewN q) (fun i _ => l.length - (intOf i).toNat)
    case atStart => exact ⟨0, Nat.zero_le _, rfl, Lib.hid rfl, 0, rfl⟩
    case round =>
      obtain ⟨k, hk, rfl, ht, q, rfl⟩ := hrel
      by_cases hlt : k < l.length
      · obtain ⟨x, rfl, -, hx⟩ := h1_.out.at k hlt
        have hltm : k < m.length := by have := hlen_.out; omega
        obtain ⟨y, rfl, -, hy⟩ := h2_.out.at k hltm
        obtain ⟨cx, cx2⟩ := hx k hlt
        obtain ⟨cy, cy2⟩ := hy k hltm
        clear hx hy
        obtain ⟨X, hX⟩ : ∃ X, l.getD k (0, 0) = X := ⟨_, rfl⟩
        obtain ⟨Y, hY⟩ : ∃ Y, m.getD k (0, 0) = Y := ⟨_, rfl⟩
        rw [hX] at cx cx2; rw [hY] at cy cy2
        obtain ⟨x0, x1⟩ := X
        obtain ⟨y0, y1⟩ := Y
        simp only at cx cx2 cy cy2
        by_cases h0 : x0 = y0
        · by_cases h1 : x1 = y1
          · subst h0; subst h1
            have HT := Lib.hid (show l.take (k + 1) = m.take (k + 1) by rw [take_getDM l k hlt, take_getDM m k hltm, ht.out, hX, hY])
            clear hX hY
            go_wp2
            go_region
            go_wp2
            go_roundw
            case rel => exact ⟨k + 1, by omega, by go_num, HT, _, rfl⟩
            case measure => simp [intOf]; omega
          · have HF := Lib.hid (show B = false by
              rw [hB_.out, decide_eq_false_iff_not]
              rintro rfl
              rw [hX] at hY; injection hY with e1 e2; exact h1 e2)
            subst h0
            clear hX hY
            go_wp2
            go_region
            go_wp2
            go_ret
            exact ⟨ret_b HF.out.symm, _, rfl⟩
        · have HF := Lib.hid (show B = false by
            rw [hB_.out, decide_eq_false_iff_not]
            rintro rfl
            rw [hX] at hY; injection hY with e1 e2; exact h0 e1)
          clear hX hY
          go_wp2
          go_region
          go_wp2
          go_ret
          exact ⟨ret_b HF.out.symm, _, rfl⟩
      · have HF := Lib.hid (show B = true by
          rw [hB_.out, decide_eq_true_iff]
          have h := ht.out
          have hl := hlen_.out
          rw [List.take_of_length_le (by omega), List.take_of_length_le (by omega)] at h
          exact h)
        go_wp2
        go_ret
        exact ⟨ret_b HF.out.symm, _, rfl⟩
  · have HF := Lib.hid (show B = false by rw [hB, decide_eq_false_iff_not]; rintro rfl; exact hlen rfl)
    have e1 : ((l.length : Int) == (m.length : Int)) = false := by rw [beq_eq_false_iff_ne]; omega
    have e2 : ((l.length : Int) != (m.length : Int)) = true := by rw [bne, e1]; rfl
    clear hlen hB
    go_enter Try.func25, Try.ntmps25
    go_wp2
    go_ret
    exact ⟨ret_b HF.out.symm, 0, rfl⟩
theorem dSameMv {v u : Value} {l m : List Mt} {w : World} (h1 : IsMv w v l) (h2 : IsMv w u m) (B : Bool) (hB : B = decide (l = m)) :
    Calls Try.prog 25 #[v, u] w fun e w' => e = .returned (.bool B) ∧ Below w.heap.size w w' := by
  obtain ⟨a, ca, rfl, h1⟩ := h1
  obtain ⟨b, cb, rfl, h2⟩ := h2
  exact (dSameM a b ca cb l m w h1 h2 B hB).mono fun _ _ ⟨h, n, hw⟩ => ⟨h, by rw [hw]; exact below_dn (Below.refl _ _) n⟩
end Go.Proofs.Ytpkidedepcnoaaa
