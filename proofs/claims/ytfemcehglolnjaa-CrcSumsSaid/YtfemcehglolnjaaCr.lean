/- Layer 5: the table. -/
import Derived.Test.YtfemcehglolnjaaOwn
import Derived.Test.YtfemcehglolnjaaCm
import Derived.Deep.WholeRow
import Derived.Deep.LoopGhost
import Derived.IntWalk
namespace Go.Proofs.Ytfemcehglolnjaa
open Go.ChangeShapes Go.WideShapes Go.ChangeAt Go.RowKit
set_option linter.unusedVariables false
set_option maxRecDepth 100000
open CrcMath

/-- The table, of which the first k are made. -/
def tabL (k : Nat) : List Value := (List.range 256).map (fun i => .int .u32 (if i < k then (stepN 8 i : Int) else 0))
def tabA (k : Nat) : Array Value := (tabL k).toArray
theorem tabA_size (k : Nat) : (tabA k).size = 256 := by simp [tabA, tabL]
theorem tabA_get (k i : Nat) (h : i < 256) : (tabA k)[i]? = some (.int .u32 (if i < k then (stepN 8 i : Int) else 0)) := by simp [tabA, tabL, h]
theorem tabA_zero : tabA 0 = Array.replicate 256 (.int .u32 0) := by
  apply Array.ext_getElem?
  intro i
  by_cases h : i < 256
  · rw [tabA_get 0 i h]; simp [h]
  · rw [Array.getElem?_eq_none (by rw [tabA_size]; omega), Array.getElem?_eq_none (by simp; omega)]
theorem tabA_set (k : Nat) (h : k < 256) (v : Int) (hv : v = (stepN 8 k : Int)) : (tabA k).setIfInBounds k (.int .u32 v) = tabA (k + 1) := by
  apply Array.ext_getElem?
  intro i
  rw [Array.getElem?_setIfInBounds, tabA_size, hv]
  by_cases hi : i < 256
  · rw [tabA_get (k + 1) i hi]
    by_cases e : k = i
    · subst e; rw [if_pos rfl, if_pos hi, if_pos (by omega)]
    · rw [if_neg e, tabA_get k i hi]
      by_cases hik : i < k
      · rw [if_pos hik, if_pos (by omega)]
      · rw [if_neg hik, if_neg (by omega)]
  · rw [if_neg (by omega), Array.getElem?_eq_none (by rw [tabA_size]; omega), Array.getElem?_eq_none (by rw [tabA_size]; omega)]
theorem xor_u32 (x y : Nat) (hx : x < 2 ^ 32) (hy : y < 2 ^ 32) : bits .xor .u32 (x : Int) (y : Int) = ((x ^^^ y : Nat) : Int) := by
  have ha' : x % 2 ^ IntKind.u32.bits = x := Nat.mod_eq_of_lt hx
  have hb' : y % 2 ^ IntKind.u32.bits = y := Nat.mod_eq_of_lt hy
  simp only [bits, BitVec.ofInt_natCast, BitVec.toNat_xor, BitVec.toNat_ofNat, ha', hb']
  exact IntWalk.u32_in _ (by have := Nat.xor_lt_two_pow hx hy; omega)
theorem step1_odd (x : Nat) (h : x % 2 = 1) (hx : x < 4294967296) : bits .xor .u32 ((x : Int) / 2) 3988292384 = ((step1 x : Nat) : Int) := by
  have e : (x : Int) / 2 = ((x / 2 : Nat) : Int) := by simp
  have := xor_u32 (x / 2) 3988292384 (by omega) (by omega)
  rw [e]
  unfold step1 poly
  rw [if_pos h]
  exact this
theorem step1_even (x : Nat) (h : ¬ x % 2 = 1) : (x : Int) / 2 = ((step1 x : Nat) : Int) := by
  unfold step1; rw [if_neg h]; simp
theorem step8_one (m x T : Nat) (hm : m < 8) (h : stepN (8 - m) x = T) : stepN (8 - (m + 1)) (step1 x) = T := by
  rw [← h, show 8 - m = (8 - (m + 1)) + 1 from by omega]; rfl
set_option maxHeartbeats 800000 in
theorem cTable (w : World) : Calls Try.prog 44 #[] w fun e w' => e = .returned (.agg (tabA 256)) ∧ Below w.heap.size w w' := by
  obtain ⟨hz, hi⟩ := zero_of_info (P := Try.prog) (t := 60) (v := .agg (Array.replicate 256 (.int .u32 0))) (n := 256) (by kernel_rfl)
  rw [← tabA_zero] at hz
  obtain ⟨Z, hZ⟩ : ∃ Z, tabA 0 = Z := ⟨_, rfl⟩
  have HZ := Lib.hid hZ
  rw [hZ] at hz
  clear hZ
  go_enter Try.func44, Try.ntmps44
  go_wp2
  go_loopw [4] (fun i wr => ∃ k : Nat, k ≤ 256 ∧ i = .int .i64 k ∧ wr = (w.alloc (.cells Z 60)).alloc (.cells (tabA k) 60)) (fun i _ => 256 - (intOf i).toNat)
  case atStart => exact ⟨0, by omega, rfl, by rw [HZ.out]⟩
  case round =>
    obtain ⟨k, hk, rfl, rfl⟩ := hrel
    by_cases hlt : k < 256
    · go_wp2
      go_loop [3, 9] (fun c j => ∃ m x : Nat, m ≤ 8 ∧ j = .int .i64 m ∧ c = .int .u32 x ∧ x < 4294967296 ∧ stepN (8 - m) x = stepN 8 k) (fun _ j => 8 - (intOf j).toNat)
      case atStart => exact ⟨0, k, by omega, rfl, by go_num, by omega, rfl⟩
      case round =>
        obtain ⟨m, x, hm, rfl, rfl, hx, hs⟩ := hrel
        have HS := Lib.hid hs
        clear hs
        by_cases hm8 : m < 8
        · have HN := Lib.hid (step8_one m x _ hm8 HS.out)
          by_cases hodd : x % 2 = 1
          · go_wp2
            go_round
            case rel => exact ⟨m + 1, step1 x, by omega, by go_num, by rw [step1_odd x hodd hx], step1_lt x hx, HN.out⟩
            case measure => simp [intOf]; omega
          · go_wp2
            go_round
            case rel => exact ⟨m + 1, step1 x, by omega, by go_num, by rw [step1_even x hodd], step1_lt x hx, HN.out⟩
            case measure => simp [intOf]; omega
        · obtain rfl : m = 8 := by omega
          have hget := tabA_get k k hlt
          rw [if_neg (by omega)] at hget
          go_wp2
          go_roundw
          case rel => exact ⟨k + 1, by omega, by go_num, by rw [tabA_set k hlt x (by rw [← HS.out]; rfl)]⟩
          case measure => simp [intOf]; omega
    · obtain rfl : k = 256 := by omega
      have h1 : ((w.alloc (.cells Z 60)).alloc (.cells (tabA 256) 60)).heap[w.heap.size + 1]? = some (.cells (tabA 256) 60 (0, 0)) := heap_two_last w _ _
      have h2 : ((w.alloc (.cells Z 60)).alloc (.cells (tabA 256) 60)).heap[w.heap.size]? = some (.cells Z 60 (0, 0)) := heap_two_first w _ _
      have H1 := Lib.hid h1; have H2 := Lib.hid h2; clear h1 h2
      have h3 := setRow_heap _ w.heap.size Z (tabA 256) 60 (0, 0) H2.out
      have hb : Below w.heap.size w (((w.alloc (.cells Z 60)).alloc (.cells (tabA 256) 60)).setRow w.heap.size (tabA 256)) := below_setRow (by go_grown) (Nat.le_refl _) _
      obtain ⟨W3, hW3⟩ : ∃ W3, ((w.alloc (.cells Z 60)).alloc (.cells (tabA 256) 60)).setRow w.heap.size (tabA 256) = W3 := ⟨_, rfl⟩
      rw [hW3] at h3 hb
      have HW := Lib.hid hW3; have H3 := Lib.hid h3; clear hW3 h3
      obtain ⟨T, hT⟩ : ∃ T, tabA 256 = T := ⟨_, rfl⟩
      have hTs : (Try.prog.info? 60).map (·.size) = some T.size := by rw [hi, ← hT, tabA_size]
      have hTz : Hid (Z.size = T.size) := by show _ = _; rw [← HZ.out, ← hT, tabA_size, tabA_size]
      have hTo : Hid (T.all (·.oneCell') = true) := by
        show _ = _
        rw [← hT, tabA, List.all_toArray, List.all_eq_true]
        intro x hx
        unfold tabL at hx
        obtain ⟨i, -, rfl⟩ := List.mem_map.1 hx
        rfl
      rw [hT] at H1 H2 H3 HW ⊢
      have HS := Lib.hid hTs
      have HT := Lib.hid hT
      clear hT hTs hi
      go_wp2_with (first | (refine wpList_load_row rfl 60 (.tmp 1) rfl (w.heap.size + 1) rfl 60 T (0, 0) _ H1.out Try.underlying60 rfl HS.out ?_) | (refine wpList_store_row rfl 60 (.tmp 0) (.tmp 24) rfl w.heap.size T rfl rfl 60 Z H2.out HS.out hTz.out hTo.out ?_))
      rw [HW.out]
      exact bodyPost_ret (v := .agg T) (results_cell_row rfl _ _ w.heap.size 60 T (0, 0) _ rfl H3.out Try.underlying60 rfl HS.out) rfl ⟨by rw [HT.out], hb⟩
end Go.Proofs.Ytfemcehglolnjaa
