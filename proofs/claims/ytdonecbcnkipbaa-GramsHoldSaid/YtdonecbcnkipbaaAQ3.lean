/- Layer 43: rows of grams. -/
import Derived.Test.YtdonecbcnkipbaaAQ2
namespace Go.Proofs.Ytdonecbcnkipbaa
open Go.ChangeShapes Go.WideShapes Go.ChangeAt Go.RowKit
set_option linter.unusedVariables false
set_option linter.unusedSimpArgs false
set_option maxRecDepth 100000
open RollMath Gm
def fG (g : Gr) : List Value := [.string (sT g.1), .int .i64 (g.2 : Int)]
theorem flatG : Flat fG 2 := fun x => ⟨rfl, by intro u hu; simp [fG] at hu; rcases hu with rfl | rfl <;> rfl⟩
abbrev OwnG (B : Nat) (w : World) (v : Value) (l : List Gr) : Prop := OwnS fG 35 2 B w v l
theorem info_gram : (Try.prog.info? 35).map (fun i => (i.zero, i.size, i.bytes)) = some (some (.agg #[.string ⟨#[]⟩, .int .i64 0]), 2, 24) := by kernel_rfl
def IsGr (w : World) (a : Option Addr) (l : List Gr) : Prop := l = [] ∨ ∃ x, a = some x ∧ ∀ i, i < l.length → w.cell? (x.add (i * 2)) = some (.string (sT (l.getD i ([], 0)).1)) ∧ w.cell? ⟨(x.add (i * 2)).block, (x.add (i * 2)).off + 1, none⟩ = some (.int .i64 (l.getD i ([], 0)).2)
theorem IsGr.at {w : World} {a : Option Addr} {l : List Gr} (h : IsGr w a l) (k : Nat) (hk : k < l.length) : ∃ x : Addr, a = some x ∧ x.block < w.heap.size ∧ w.cell? (x.add (k * 2)) = some (.string (sT (l.getD k ([], 0)).1)) ∧ w.cell? ⟨(x.add (k * 2)).block, (x.add (k * 2)).off + 1, none⟩ = some (.int .i64 (l.getD k ([], 0)).2) := by
  rcases h with rfl | ⟨x, rfl, hc⟩
  · simp at hk
  · have := cell_block (hc 0 (by omega)).1
    exact ⟨x, rfl, by simpa [Addr.add] using this, hc k hk⟩
theorem IsGr.kept {w w' : World} {a : Option Addr} {l : List Gr} (h : IsGr w a l) (hb : Below w.heap.size w w') : IsGr w' a l := by
  rcases h with rfl | ⟨x, rfl, hc⟩
  · exact .inl rfl
  · refine .inr ⟨x, rfl, fun i hi => ?_⟩
    obtain ⟨h1, h2⟩ := hc i hi
    rw [hb.cell (cell_block h1), hb.cell (cell_block h2)]; exact ⟨h1, h2⟩
theorem OwnG.gr {B : Nat} {w : World} {v : Value} {l : List Gr} (h : OwnG B w v l) : ∃ a c, v = .slice a l.length c ∧ l.length ≤ c ∧ IsGr w a l := by
  by_cases h0 : 0 < l.length
  · obtain ⟨g, cap, rfl, -, -⟩ := h.form h0 (by decide)
    have hcap : l.length ≤ cap := by
      rcases h.2 with ⟨e, -⟩ | ⟨g', cap', cur, e, -, -, hc, -⟩
      · simp at e
      · simp only [Value.slice.injEq] at e; omega
    refine ⟨_, cap, rfl, hcap, .inr ⟨_, rfl, fun i hi => ?_⟩⟩
    have h1 := h.cell flatG i 0 l[i] (by simp [hi]) (by decide)
    have h2 := h.cell flatG i 1 l[i] (by simp [hi]) (by decide)
    have e1 : (⟨g, 0, none⟩ : Addr).add (i * 2) = ⟨g, i * 2 + 0, none⟩ := by unfold Addr.add; split <;> simp_all
    rw [e1]
    show w.cell? ⟨g, i * 2 + 0, none⟩ = _ ∧ w.cell? ⟨g, i * 2 + 1, none⟩ = _
    rw [h1, h2]
    simp [fG, List.getD_eq_getElem?_getD, hi]
  · have e : l = [] := List.eq_nil_of_length_eq_zero (by omega)
    subst e
    obtain ⟨a, cap, rfl⟩ := h.slice
    exact ⟨a, cap, rfl, Nat.zero_le _, .inl rfl⟩
def gV (g : Gr) : Value := .agg #[.string (sT g.1), .int .i64 (g.2 : Int)]
theorem less_run (a b : Tx) (t : TypeId) (W : World) : (binOp .lss t (.string (sT a)) (.string (sT b))).run Try.prog W = .ok (.bool (Op.bytesLess a b)) W := by
  have e : binOp .lss t (.string (sT a)) (.string (sT b)) = pure (.bool (Op.bytesLess (sT a).toList (sT b).toList)) := by simp [binOp, Op.stringOp]
  rw [e, sT_less]
  rfl
set_option maxHeartbeats 1600000 in
theorem dAhead (a b : Gr) (ha : a.2 ≤ 1000000) (hb : b.2 ≤ 1000000) (w : World) :
    Calls Try.prog 32 #[.agg #[.string (sT a.1), .int .i64 (a.2 : Int)], .agg #[.string (sT b.1), .int .i64 (b.2 : Int)]] w fun e w' => e = .returned (.bool (ahd a b)) ∧ Below w.heap.size w w' := by
  obtain ⟨a1, a2⟩ := a
  obtain ⟨b1, b2⟩ := b
  have hl := sT_less a1 b1
  unfold ahd
  by_cases h1 : b2 < a2
  · have hi : (b2 : Int) < (a2 : Int) := by omega
    rw [decide_eq_true h1, Bool.true_or]
    go_enter Try.func32, Try.ntmps32
    go_wp2_with fail
    go_ret
    exact ⟨rfl, by go_grown⟩
  · have hi : ¬ (b2 : Int) < (a2 : Int) := by omega
    rw [decide_eq_false h1, Bool.false_or]
    by_cases h2 : a2 = b2
    · have hj : ((a2 : Int) == (b2 : Int)) = true := by rw [beq_iff_eq]; omega
      rw [decide_eq_true h2, Bool.true_and]
      obtain ⟨L, hL⟩ : ∃ L, Op.bytesLess a1 b1 = L := ⟨_, rfl⟩
      rw [hL] at hl ⊢
      go_enter Try.func32, Try.ntmps32
      go_wp2_with fail
      go_ret
      exact ⟨rfl, by go_grown⟩
    · have hj : ((a2 : Int) == (b2 : Int)) = false := by rw [beq_eq_false_iff_ne]; omega
      rw [decide_eq_false h2, Bool.false_and]
      go_enter Try.func32, Try.ntmps32
      go_wp2_with fail
      go_ret
      exact ⟨rfl, by go_grown⟩
theorem met_take {l : List Gr} {k : Nat} (s : Tx) (h : k < l.length) : metL (l.take (k + 1)) s = (metL (l.take k) s || decide ((l.getD k ([], 0)).1 = s)) := by
  unfold metL
  rw [List.take_succ_eq_append_getElem h, List.getD_eq_getElem?_getD, List.getElem?_eq_getElem h, List.any_append]
  simp
set_option maxHeartbeats 1600000 in
theorem dMet (a : Option Addr) (c : Nat) (l : List Gr) (s : Tx) (w : World) (h : IsGr w a l) (hl : l.length ≤ 1000000) :
    Calls Try.prog 21 #[.slice a l.length c, .string (sT s)] w fun e w' => e = .returned (.bool (metL l s)) ∧ Below w.heap.size w w' := by
  have HI := Lib.hid h
  clear h
  go_enter Try.func21, Try.ntmps21
  go_wp2_with fail
  go_loopw [5] (fun i wr => ∃ k : Nat, k ≤ l.length ∧ i = .int .i64 k ∧ Hid (metL (l.take k) s = false) ∧ Hid (Below w.heap.size w wr)) (fun i _ => l.length - (intOf i).toNat)
  case atStart => exact ⟨0, Nat.zero_le _, rfl, Lib.hid (by show _ = _; rw [List.take_zero]; rfl), Lib.hid (Below.refl _ _)⟩
  case round =>
    obtain ⟨k, hk, rfl, hm, hb⟩ := hrel
    by_cases hlt : k < l.length
    · obtain ⟨x, rfl, -, cx, -⟩ := (HI.out.kept hb.out).at k hlt
      have hki : (k : Int) < (l.length : Int) := by omega
      have hk0 : (0 : Int) ≤ (k : Int) := by omega
      have hnx := met_take s hlt
      rw [hm.out, Bool.false_or] at hnx
      obtain ⟨g, hg⟩ : ∃ g, (l.getD k ([], 0)).1 = g := ⟨_, rfl⟩
      rw [hg] at cx hnx
      have hq := sT_eq g s
      have HG := Lib.hid hg
      by_cases hgs : g = s
      · rw [decide_eq_true hgs] at hq hnx
        have HR := Lib.hid (show metL l s = true from by
          unfold metL
          rw [List.any_eq_true]
          refine ⟨l.getD k ([], 0), ?_, by rw [HG.out, decide_eq_true hgs]⟩
          rw [List.getD_eq_getElem?_getD, List.getElem?_eq_getElem hlt]; exact List.getElem_mem hlt)
        clear hgs hnx hg
        go_wp2_with fail
        go_ret
        rw [HR.out]
        exact ⟨rfl, hb.out⟩
      · rw [decide_eq_false hgs] at hq hnx
        have HN := Lib.hid hnx
        clear hgs hnx hg
        go_wp2_with fail
        go_roundw
        case rel => exact ⟨k + 1, by omega, by go_num, HN, hb⟩
        case measure => simp [intOf]; omega
    · obtain rfl : k = l.length := by omega
      have hki : ¬ (l.length : Int) < (l.length : Int) := by omega
      have hm2 := hm.out
      rw [List.take_length] at hm2
      have HR := Lib.hid hm2
      clear hm hm2
      go_wp2_with fail
      go_ret
      rw [HR.out]
      exact ⟨rfl, hb.out⟩
end Go.Proofs.Ytdonecbcnkipbaa
