/- Layer 60: the document's Decode. -/
import Derived.Test.YtplopddlpoffoaaAN16
import Derived.Test.YtplopddlpoffoaaD4
import Derived.Deep.CutRange
namespace Go.Proofs.Ytplopddlpoffoaa
open Go.ChangeShapes Go.WideShapes Go.ChangeAt Go.RowKit
set_option linter.unusedVariables false
set_option linter.unusedSimpArgs false
set_option maxRecDepth 100000
open Bits
set_option maxHeartbeats 1600000 in
theorem dLeft60 (a : Option Addr) (c : Nat) (r : List Bool) (w : World) (h : IsBoo w a r) (hl : r.length ≤ 1000000) : Calls Try.prog 51 #[.slice a r.length c] w fun e w' => e = .returned (.bool (okZ r)) ∧ w' = w := by
  obtain ⟨R, hR⟩ : ∃ R, okZ r = R := ⟨_, rfl⟩
  rw [hR]
  have HR := Lib.hid hR
  have HI := Lib.hid h
  clear hR h
  go_enter Try.func51, Try.ntmps51
  go_wp2_with fail
  go_loopw [3] (fun iv wr => ∃ k : Nat, k ≤ r.length ∧ iv = .int .i64 k ∧ Hid (∀ i, i < k → r.getD i false = false) ∧ wr = w) (fun iv _ => r.length - (intOf iv).toNat)
  case atStart => exact ⟨0, Nat.zero_le _, rfl, Lib.hid (fun i hi => by omega), rfl⟩
  case round =>
    obtain ⟨k, hk, rfl, hall, rfl⟩ := hrel
    by_cases hlt : k < r.length
    · obtain ⟨x, rfl, -, cx⟩ := HI.out.at k hlt
      obtain ⟨B, hB⟩ : ∃ B, r.getD k false = B := ⟨_, rfl⟩
      rw [hB] at cx
      have hk1 : (k : Int) < (r.length : Int) := by omega
      cases B with
      | true =>
        have hr := HR.out
        have : okZ r = false := by
          unfold okZ
          rw [Bool.and_eq_false_iff]
          right
          rw [← Bool.not_eq_true]
          intro hh
          have h2 := List.all_eq_true.1 hh r[k] (List.getElem_mem hlt)
          rw [List.getD_eq_getElem?_getD, List.getElem?_eq_getElem hlt] at hB
          simp at hB h2
          rw [hB] at h2; cases h2
        rw [this] at hr
        subst hr
        clear hB
        go_wp2_with fail
        go_ret
        exact ⟨rfl, rfl⟩
      | false =>
        have HA2 := Lib.hid (show ∀ i, i < k + 1 → r.getD i false = false from fun i hi => by
          by_cases e : i = k
          · subst e; exact hB
          · exact hall.out i (by omega))
        clear hB
        go_wp2_with fail
        go_roundw
        case rel => exact ⟨k + 1, by omega, by go_num, HA2, by first | rfl | trivial⟩
        case measure => simp [intOf]; omega
    · obtain rfl : k = r.length := by omega
      have hr := HR.out
      have : okZ r = decide (r.length < 8) := by
        unfold okZ
        have : r.all (fun b => !b) = true := List.all_eq_true.2 (fun b hb => by
          obtain ⟨i, hi, e⟩ := List.mem_iff_getElem.1 hb
          have := hall.out i hi
          rw [List.getD_eq_getElem?_getD, List.getElem?_eq_getElem hi, e] at this
          simp at this; simp [this])
        rw [this, Bool.and_true]
      rw [this] at hr
      have hr2 : decide ((r.length : Int) < 8) = R := by rw [← hr]; simp; omega
      clear hr this
      go_wp2_with fail
      go_ret
      exact ⟨by first | rw [← hr2]; rfl | simp_all, rfl⟩
theorem dDecOut60 (s : ByteArray) (many m : Int) (h : m < 9 ∨ 16 < m ∨ many < 0 ∨ 16777216 < many) (w : World) : Calls Try.prog 22 #[.string s, .int .i64 many, .int .i64 m] w fun e w' => e = .returned (.tuple #[.string ⟨#[]⟩, .int .i64 1]) ∧ w' = w := by
  by_cases h1 : m < 9
  · go_enter Try.func22, Try.ntmps22
    go_wp2_with fail
    go_ret2
    exact ⟨rfl, rfl⟩
  · by_cases h2 : 16 < m
    · go_enter Try.func22, Try.ntmps22
      go_wp2_with fail
      go_ret2
      exact ⟨rfl, rfl⟩
    · by_cases h3 : many < 0
      · go_enter Try.func22, Try.ntmps22
        go_wp2_with fail
        go_ret2
        exact ⟨rfl, rfl⟩
      · have h4 : 16777216 < many := by omega
        go_enter Try.func22, Try.ntmps22
        go_wp2_with fail
        go_ret2
        exact ⟨rfl, rfl⟩
theorem two_keeps60 (w : World) (gb : Nat) (u v : Value) : Keeps (fun j => j = gb) w ((w.setCell ⟨gb, 0, none⟩ u).setCell ⟨gb, 1, none⟩ v) := ((Keeps.refl (fun j => j = gb) w).setCell (p := ⟨gb, 0, none⟩) (.inr rfl) u).setCell (p := ⟨gb, 1, none⟩) (.inr rfl) v
theorem Duo.box {w0 wr : World} {u v : Value} {lu : List Row8} {lv : List Bool} {gb : Nat} {cs : Array Value} (h : Duo w0 wr u v lu lv) (hx : wr.heap[gb]? = some (.cells cs 68 (0, 0))) (hg : w0.heap.size ≤ gb) (p q : Value) : Duo w0 ((wr.setCell ⟨gb, 0, none⟩ p).setCell ⟨gb, 1, none⟩ q) u v lu lv :=
  ⟨(two_keeps60 wr gb p q).ownsRow h.one (fun j hj e => own_ne h.one hx (by decide) (by
    have e : j = gb := e
    rw [hj, e])), (two_keeps60 wr gb p q).ownsRow h.two (fun j hj e => own_ne h.two hx (by decide) (by
    have e : j = gb := e
    rw [hj, e])), h.apart, (h.below.setCell (p := ⟨gb, 0, none⟩) hg _).setCell (p := ⟨gb, 1, none⟩) hg _⟩
theorem r_new {X w2 : World} {c0 c1 : Value} (h : Below (X.alloc (.cells #[c0, c1] 68)).drew.heap.size (X.alloc (.cells #[c0, c1] 68)).drew w2) : w2.heap[X.heap.size]? = some (.cells #[c0, c1] 68 (0, 0)) :=
  (h.block X.heap.size (by show X.heap.size < (X.alloc _).heap.size; simp)).trans (heap_alloc_new X _)
theorem below_new60 {X w2 : World} {o : Obj} (h : Below (X.alloc o).drew.heap.size (X.alloc o).drew w2) : Below X.heap.size X w2 :=
  ((Below.refl _ X).alloc (Nat.le_refl _) o).trans ⟨h.os, h.tape, h.output, by have := h.size; exact this, fun k hk => h.block k (by show k < (X.alloc o).heap.size; simp; omega)⟩
theorem undrew60 {X w2 : World} {B : Nat} (h : Below B X.drew w2) : Below B X w2 := ⟨h.os, h.tape, h.output, h.size, h.block⟩
end Go.Proofs.Ytplopddlpoffoaa
