/- Layers 19 and 21, the document's: how much two ends share. -/
import Derived.Test.YtpkidedepcnoaaaK3
import Derived.Laws.IdiomStrings
namespace Go.Proofs.Ytpkidedepcnoaaa
open Go.ChangeShapes Go.WideShapes Go.ChangeAt Go.RowKit
set_option linter.unusedVariables false
set_option linter.unusedSimpArgs false
set_option maxRecDepth 100000
def sM (l : List UInt8) : ByteArray := ⟨l.toArray⟩
theorem sM_size (l : List UInt8) : (sM l).size = l.length := by unfold sM; simp [ByteArray.size]
theorem sM_list (l : List UInt8) : (sM l).data.toList = l := by unfold sM; simp
theorem sM_self (s : ByteArray) : sM s.data.toList = s := by unfold sM; cases s; rfl
/-- How many bytes two rows share. -/
def com : List UInt8 → List UInt8 → Nat
  | a :: xs, b :: ys => if a = b then com xs ys + 1 else 0
  | _, _ => 0
theorem com_le : ∀ a b : List UInt8, com a b ≤ a.length ∧ com a b ≤ b.length
  | [], b => by simp [com]
  | a :: xs, [] => by simp [com]
  | a :: xs, b :: ys => by
    have := com_le xs ys
    rw [com]
    split <;> simp <;> omega
theorem com_iff : ∀ (a b : List UInt8) (n : Nat), n ≤ com a b → (n < com a b ↔ n < a.length ∧ n < b.length ∧ a.getD n 0 = b.getD n 0)
  | [], b, n, h => by simp [com]
  | a :: xs, [], n, h => by simp [com]
  | a :: xs, b :: ys, n, h => by
    rw [com] at h ⊢
    by_cases e : a = b
    · rw [if_pos e] at h ⊢
      cases n with
      | zero => simp [e]
      | succ n =>
        have := com_iff xs ys n (by omega)
        simp only [List.length_cons, List.getD_cons_succ]
        rw [show n + 1 < com xs ys + 1 ↔ n < com xs ys by omega, this]
        simp only [Nat.add_lt_add_iff_right]
    · rw [if_neg e] at h ⊢
      have : n = 0 := by omega
      subst this
      simp [e]
theorem drop_getD8 (l : List UInt8) (i n : Nat) : (l.drop i).getD n 0 = l.getD (i + n) 0 := by simp [List.getD_eq_getElem?_getD, List.getElem?_drop]
/-- How many bytes the ends at two places share. -/
def comAt (L : List UInt8) (i k : Nat) : Nat := com (L.drop i) (L.drop k)
theorem comAt_iff (L : List UInt8) (i k n : Nat) (h : n ≤ comAt L i k) : n < comAt L i k ↔ i + n < L.length ∧ k + n < L.length ∧ L.getD (i + n) 0 = L.getD (k + n) 0 := by
  unfold comAt at h ⊢
  rw [com_iff _ _ n h, drop_getD8, drop_getD8, List.length_drop, List.length_drop]
  constructor <;> rintro ⟨h1, h2, h3⟩ <;> exact ⟨by omega, by omega, h3⟩
theorem comAt_le (L : List UInt8) (i k : Nat) : comAt L i k ≤ L.length - i ∧ comAt L i k ≤ L.length - k := by
  have := com_le (L.drop i) (L.drop k)
  rw [List.length_drop, List.length_drop] at this
  exact this
theorem ixM (L : List UInt8) (i : Int) (n : Nat) (hi : i = n) (hn : n < L.length) (W : World) : (Instr.index 9 (.string (sM L)) (.int .i64 i)).run Try.prog W = .ok (.int .u8 ((L.getD n 0).toNat : Int)) W := by
  subst hi
  have hsz := sM_size L
  rw [run_index_string (h := Try.underlying9), dif_pos ⟨by omega, by omega⟩]
  have : (sM L)[((n : Int)).toNat]'(by omega) = L.getD n 0 := by
    show (sM L).data[((n : Int)).toNat]'_ = _
    simp [sM, List.getD_eq_getElem?_getD, hn]
  rw [this]
set_option maxHeartbeats 1600000 in
theorem dOfIn (L : List UInt8) (i k : Nat) (w : World) (hL : L.length ≤ 1000000) (hi : i ≤ L.length) (hk : k ≤ L.length) (C : Nat) (hC : comAt L i k = C) :
    Calls Try.prog 22 #[.string (sM L), .int .i64 i, .int .i64 k] w fun e w' => e = .returned (.int .i64 C) ∧ Below w.heap.size w w' := by
  have hN : (sM L).size = L.length := sM_size L
  have HI := Lib.hid (fun n (h : n ≤ C) => (show n < C ↔ i + n < L.length ∧ k + n < L.length ∧ L.getD (i + n) 0 = L.getD (k + n) 0 by subst hC; exact comAt_iff L i k n h))
  have q1 : decide ((L.length : Int) < i) = false := decide_eq_false (by omega)
  have q2 : decide ((L.length : Int) < k) = false := decide_eq_false (by omega)
  have hCb : C ≤ 1000000 := by have := (comAt_le L i k).1; omega
  clear hC
  go_enter Try.func22, Try.ntmps22
  go_wp2_with fail
  go_loopw [7] (fun u wr => ∃ n : Nat, n ≤ C ∧ u = .int .i64 n ∧ Below w.heap.size w wr) (fun u _ => C - (intOf u).toNat)
  case atStart => exact ⟨0, Nat.zero_le _, rfl, Below.refl _ _⟩
  case round =>
    clear q1 q2
    obtain ⟨n, hn, rfl, hb⟩ := hrel
    have hiff := HI.out n hn
    have HB := Lib.hid hb
    clear hb
    by_cases hlt : n < C
    · obtain ⟨h1, h2, h3⟩ := hiff.1 hlt
      have x1 := ixM L ((i : Int) + n) (i + n) (by omega) h1
      have x2 := ixM L ((k : Int) + n) (k + n) (by omega) h2
      rw [h3] at x1
      obtain ⟨Z, hZ⟩ : ∃ Z, L.getD (k + n) 0 = Z := ⟨_, rfl⟩
      rw [hZ] at x1 x2
      have d1 : decide ((i : Int) + n < L.length) = true := decide_eq_true (by omega)
      have d2 : decide ((k : Int) + n < L.length) = true := decide_eq_true (by omega)
      have w1 : IntKind.i64.wrap ((i : Int) + n) = (i : Int) + n := IntWalk.i64_in _ (by omega)
      have w2 : IntKind.i64.wrap ((k : Int) + n) = (k : Int) + n := IntWalk.i64_in _ (by omega)
      clear h1 h2 h3 hZ hiff
      go_wp2_with fail
      go_quiet (fail)
      go_wp2_with fail
      go_roundw
      case rel => exact ⟨n + 1, by omega, by go_num, below_dn HB.out _⟩
      case measure => simp [intOf]; omega
    · obtain rfl : n = C := by omega
      by_cases h1 : i + n < L.length
      · have d1 : decide ((i : Int) + n < L.length) = true := decide_eq_true (by omega)
        have x1 := ixM L ((i : Int) + n) (i + n) (by omega) h1
        have w1 : IntKind.i64.wrap ((i : Int) + n) = (i : Int) + n := IntWalk.i64_in _ (by omega)
        have w2 : IntKind.i64.wrap ((k : Int) + n) = (k : Int) + n := IntWalk.i64_in _ (by omega)
        by_cases h2 : k + n < L.length
        · have x2 := ixM L ((k : Int) + n) (k + n) (by omega) h2
          have d2 : decide ((k : Int) + n < L.length) = true := decide_eq_true (by omega)
          have h3 : ¬ L.getD (i + n) 0 = L.getD (k + n) 0 := fun h => hlt (hiff.2 ⟨h1, h2, h⟩)
          obtain ⟨Z, hZ⟩ : ∃ Z, L.getD (k + n) 0 = Z := ⟨_, rfl⟩
          obtain ⟨Y, hY⟩ : ∃ Y, L.getD (i + n) 0 = Y := ⟨_, rfl⟩
          rw [hZ, hY] at h3
          rw [hZ] at x2
          rw [hY] at x1
          have hYZ : ((Y.toNat : Int) == (Z.toNat : Int)) = false := by rw [beq_eq_false_iff_ne]; intro h; exact h3 (UInt8.toNat_inj.1 (by omega))
          clear h3 hZ hY hiff hlt
          go_wp2_with fail
          go_quiet (fail)
          go_wp2_with fail
          go_ret
          exact ⟨rfl, below_dn HB.out _⟩
        · have d2 : decide ((k : Int) + n < L.length) = false := decide_eq_false (by omega)
          clear hiff hlt
          go_wp2_with fail
          go_quiet (fail)
          go_wp2_with fail
          go_ret
          exact ⟨rfl, below_dn HB.out _⟩
      · have d1 : decide ((i : Int) + n < L.length) = false := decide_eq_false (by omega)
        have w1 : IntKind.i64.wrap ((i : Int) + n) = (i : Int) + n := IntWalk.i64_in _ (by omega)
        clear hiff hlt
        go_wp2_with fail
        go_quiet (fail)
        go_wp2_with fail
        go_ret
        exact ⟨rfl, below_dn HB.out _⟩
end Go.Proofs.Ytpkidedepcnoaaa
