/- Contracts of layer 1's writer: New, Align, Len, Bytes; awake. -/
import Derived.Test.YtplopddlpoffoaaBy
import Derived.Laws.BytesArg
namespace Go.Proofs.Ytplopddlpoffoaa
open Go.ChangeShapes Go.WideShapes Go.ChangeAt Go.RowKit
set_option linter.unusedVariables false
set_option maxRecDepth 100000
open Bits

theorem wNew (w : World) : Calls Try.prog 40 #[] w fun e w' => e = .returned (.pointer (some ⟨w.heap.size, 0, none⟩)) ∧ IsWriter w' w.heap.size w.heap.size [] ∧ Below w.heap.size w w' ∧ w'.heap.size = w.heap.size + 1 ∧ ∀ k, foot w' w.heap.size k → w.heap.size ≤ k := by
  go_enter Try.func40, Try.ntmps40
  go_wp2
  go_ret
  refine ⟨rfl, ⟨.slice none 0 0, [], 0, 0, ⟨heap_alloc_new w _, World.ownsRow_nil _ _ _ _, by simp, by simp⟩, by decide, by decide, rfl⟩, by go_grown, by simp, ?_⟩
  intro k hk
  rcases hk with hk | ⟨v, hv, hb⟩
  · omega
  · rw [cell_in (heap_alloc_new w _) 0] at hv
    simp at hv
    subst hv
    simp [Value.ownBlock] at hb
theorem conv_one (X : World) (k r : Nat) (hr : r < 256) (hX : X.cell? ⟨k, 0, none⟩ = some (.int .u8 (r : Int))) : (convert 94 9 (.slice (some ⟨k, 0, none⟩) 1 1)).run Try.prog X = .ok (.string ⟨#[UInt8.ofNat r]⟩) X := by
  have h := run_convert_bytes_back (P := Try.prog) X 94 9 5 ⟨k, 0, none⟩ 1 [UInt8.ofNat r] Try.underlying94 Try.underlying5 Try.underlying9 (fun j hj => by
    have hj0 : j = 0 := by simpa using hj
    subst hj0
    have e : (⟨k, 0, none⟩ : Addr).add 0 = ⟨k, 0, none⟩ := by simp [Addr.add]
    rw [e, hX]
    simp
    omega)
  simpa using h
theorem wBytesNone (w : World) : Calls Try.prog 42 #[.pointer none] w fun e w' => e = .returned (.string ⟨#[]⟩) ∧ w' = w := by
  go_enter Try.func42, Try.ntmps42
  go_wp2
  go_ret
  exact ⟨rfl, rfl⟩
theorem pack_whole (bs : List UInt8) (r n : Nat) (hn : n = 0) : pack (spread bs ++ bitsOf r n) = bs := by
  subst hn; rw [pack_spread]; simp [bitsOf, pack_nil]
theorem pack_rest (bs : List UInt8) (r n : Nat) (h0 : 0 < n) (h8 : n < 8) (hr : r < 2 ^ n) : pack (spread bs ++ bitsOf r n) = bs ++ [UInt8.ofNat r] := by
  rw [pack_spread, pack_few _ (by intro h; have := congrArg List.length h; rw [bitsOf_length] at this; simp at this; omega) (by rw [bitsOf_length]; omega), wordOf_bitsOf, Nat.mod_eq_of_lt hr]
theorem wBytes (w : World) (g B : Nat) (l : List Bool) (h : IsWriter w g B l) : Calls Try.prog 42 #[.pointer (some ⟨g, 0, none⟩)] w fun e w' => e = .returned (.string ⟨(pack l).toArray⟩) ∧ Below w.heap.size w w' := by
  obtain ⟨v, bs, r, n, ⟨hg, hown, hB, hbl⟩, hm, hr, hsp⟩ := h
  have c0 := cell_in hg 0
  have c1 := cell_in hg 1
  have c2 := cell_in hg 2
  simp at c0 c1 c2
  have hr7 : r < 128 := Nat.lt_of_lt_of_le hr (show 2 ^ n ≤ 2 ^ 7 from Nat.pow_le_pow_right (by decide) (by omega))
  have hgl := block_lt hg
  have hw := hown.2
  rcases hw with ⟨rfl, h0⟩ | ⟨k, cap, cur, rfl, hbk, hk, hnc, hcm, hcs, htake⟩
  · have hcv : ∀ w, (convert 94 9 (.slice none 0 0)).run Try.prog w = .ok (.string ByteArray.empty) w := fun w => run_convert_bytes_nil (w := w) 94 5 Try.underlying94 Try.underlying5 0 0 9 Try.underlying9
    have hc2 := fun X => conv_one X w.heap.size r (by omega)
    obtain rfl : bs = [] := List.eq_nil_of_length_eq_zero h0
    have HR := Lib.hid hr
    clear hown hg h0 hr hbl
    by_cases hn0 : n = 0
    · have HP := Lib.hid (pack_whole [] r n hn0)
      rw [hsp] at HP
      subst hn0
      clear hsp
      go_enter Try.func42, Try.ntmps42
      go_wp2
      go_ret
      rw [HP.out]
      exact ⟨rfl, Below.refl _ _⟩
    · have hn1 : ((n : Int) == 0) = false := by rw [beq_eq_false_iff_ne]; omega
      go_enter Try.func42, Try.ntmps42
      go_wp2
      have HP := Lib.hid (pack_rest [] r n (by omega) hm HR.out)
      rw [hsp] at HP
      clear hsp
      go_region
      all_goals go_wp2
      all_goals go_ret
      all_goals rw [HP.out]
      all_goals exact ⟨rfl, by go_grown⟩
  · have hby : ∀ X : World, X.heap[k]? = some (.cells cur 5 (0, 0)) → (convert 94 9 (.slice (some ⟨k, 0, none⟩) bs.length cap)).run Try.prog X = .ok (.string ⟨bs.toArray⟩) X := fun X hX =>
      run_convert_bytes_back (P := Try.prog) X 94 9 5 ⟨k, 0, none⟩ cap bs Try.underlying94 Try.underlying5 Try.underlying9 (fun j hj => by
        refine cells_of (cs := byteCells bs) (off := 0) (fun i hi => ?_) j _ (by simp [byteCells, hj])
        have hi' : i < bs.length := by simpa [byteCells] using hi
        rw [cell_in hX, Nat.zero_add, ← htake, List.getElem?_take, if_pos (by omega)]
        simp)
    have hadd : ∀ X : World, (Op.stringOp .add ⟨bs.toArray⟩ ⟨#[UInt8.ofNat r]⟩).run Try.prog X = .ok (.string ⟨(bs ++ [UInt8.ofNat r]).toArray⟩) X := fun X => by
      have h := run_string_add_sum (P := Try.prog) X ⟨bs.toArray⟩ ⟨[UInt8.ofNat r].toArray⟩ (by simp [ByteArray.size]; omega)
      rw [ByteArray.mk_append_mk] at h
      exact h
    have q0 := hby w hk
    have q1 := hby w.drew hk
    have q2 := hby (w.alloc (.cells #[.int .u8 (r : Int)] 5)).drew (heap_old hk _)
    have hc2 := fun X => conv_one X w.heap.size r (by omega)
    have HR := Lib.hid hr
    clear hown hg hr hbl hby htake hcs hk
    by_cases hn0 : n = 0
    · have HP := Lib.hid (pack_whole bs r n hn0)
      rw [hsp] at HP
      subst hn0
      clear hsp
      go_enter Try.func42, Try.ntmps42
      go_wp2
      go_ret
      rw [HP.out]
      exact ⟨rfl, Below.refl _ _⟩
    · have hn1 : ((n : Int) == 0) = false := by rw [beq_eq_false_iff_ne]; omega
      have HP := Lib.hid (pack_rest bs r n (by omega) hm HR.out)
      rw [hsp] at HP
      clear hsp
      go_enter Try.func42, Try.ntmps42
      go_wp2
      go_region
      all_goals go_wp2
      all_goals go_ret
      all_goals rw [HP.out]
      go_goals
      all_goals exact ⟨by first | rfl | (simp; done), by go_grown⟩
end Go.Proofs.Ytplopddlpoffoaa
