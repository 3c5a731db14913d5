/- The contract of the reference's Entropy. -/
import Derived.Test.YtekageibffhloaaIm
namespace Go.Proofs.Ytekageibffhloaa
open Go.ChangeShapes Go.WideShapes Go.ChangeAt Go.RowKit
set_option linter.unusedVariables false
set_option maxRecDepth 100000

theorem needF_zero (zs : List Int) (h : ∀ f, f ∈ zs → f = 0) : needF 0 zs = 0 := by
  induction zs with
  | nil => rfl
  | cons f l ih =>
    have hf := h f List.mem_cons_self
    simp only [needF, ih (fun g hg => h g (List.mem_cons_of_mem _ hg)), hf]; rfl

/-- The logarithm that the reference takes, and its error. -/
def lgE (A : Nat) : Int := if A = 0 then 2 else 0
def lg0 (A : Nat) : Nat := if A = 0 then 0 else lg A
theorem refLog_all (A : Nat) (hA : A ≤ 4294967295) (w : World) :
    Calls Try.prog 78 #[.int .i64 A] w fun e w' => e = .returned (.tuple #[.int .i64 (lg0 A), .int .i64 (lgE A)]) ∧ w = w' := by
  unfold lg0 lgE
  by_cases h : A = 0
  · subst h; exact refLog_out 0 (by decide) w
  · rw [if_neg h, if_neg h]; exact refLog_in A (by omega) hA w

set_option maxHeartbeats 3200000 in
theorem refEntropy_any (a : Option Addr) (n c : Nat) (zs : List Int) (w : World) (hn : zs.length = n) (hm : n ≤ 500) (hr : RowAt .i64 w a zs) :
    Calls Try.prog 51 #[.slice a n c] w (EntPost zs w) := by
  subst hn
  go_enter Try.func51, Try.ntmps51
  go_wp2
  go_loop [4, 5] (fun s i => ∃ (k : Nat) (all : Int), k ≤ zs.length ∧ i = .int .i64 k ∧ s = .int .i64 all ∧ 0 ≤ all ∧ all ≤ 4294967295 ∧ okF 0 zs = okF all (zs.drop k)) (fun _ i => zs.length - (intOf i).toNat)
  case atStart => exact ⟨0, 0, Nat.zero_le _, rfl, rfl, by omega, by omega, rfl⟩
  case round =>
    obtain ⟨k, all, hk, rfl, rfl, h0, h1, ho⟩ := hrel
    by_cases hlt : k < zs.length
    · obtain ⟨x, rfl, hcell⟩ : ∃ x, a = some x ∧ ∀ i, i < zs.length → w.cell? (x.add i) = some (.int .i64 (zs.getD i 0)) := by
        rcases hr with h | h
        · subst h; simp at hlt
        · exact h
      have hc := hcell k hlt
      rw [drop_cons zs k hlt] at ho
      obtain ⟨f, hf⟩ : ∃ f, zs.getD k 0 = f := ⟨_, rfl⟩
      rw [hf] at hc ho
      have HC := Lib.hid hcell; have HF := Lib.hid hf; clear hcell hf
      by_cases c1 : f < 0
      · have hq : okF 0 zs = none := by rw [ho]; simp only [okF, if_pos (Or.inl c1)]
        have HQ := Lib.hid hq; clear hq ho
        go_wp2
        go_ret2
        exact ⟨rfl, by rw [HQ.out]; rfl⟩
      · by_cases c2 : 4294967295 - all < f
        · have hq : okF 0 zs = none := by rw [ho]; simp only [okF, if_pos (Or.inr c2)]
          have HQ := Lib.hid hq; clear hq ho
          go_wp2
          go_ret2
          exact ⟨rfl, by rw [HQ.out]; rfl⟩
        · have hq : okF 0 zs = okF (all + f) (zs.drop (k + 1)) := by rw [ho, okF, if_neg (by omega)]
          have HQ := Lib.hid hq; clear hq ho
          go_wp2
          go_round
          case rel => exact ⟨k + 1, all + f, by omega, by go_num, rfl, by omega, by omega, HQ.out⟩
          case measure => simp [intOf]; omega
    · obtain rfl : k = zs.length := by omega
      have hA : okF 0 zs = some all := by rw [ho, List.drop_length]; rfl
      obtain ⟨A, rfl⟩ := Int.eq_ofNat_of_zero_le h0
      have hs := okF_some zs 0 A hA (by omega)
      have hsum : zs.sum = (A : Int) := by omega
      have hm2 := mem_sum_le zs hs.1
      have hmem : ∀ f, f ∈ zs → 0 ≤ f ∧ f ≤ (A : Int) := fun f hf => ⟨hs.1 f hf, by have := hm2.2 f hf; omega⟩
      have HA := Lib.hid hA; have HM := Lib.hid hmem; have HS := Lib.hid hs.1; have HSUM := Lib.hid hsum
      clear hA ho hs hsum hm2 hmem
      have C0 := Lib.hid (refLog_all A (by omega))
      obtain ⟨X0, hX0⟩ : ∃ X, lg0 A = X := ⟨_, rfl⟩
      obtain ⟨E0, hE0⟩ : ∃ X, lgE A = X := ⟨_, rfl⟩
      have c0 := C0.out
      rw [hX0, hE0] at c0
      have D0 := Lib.hid c0; have HX0 := Lib.hid hX0
      clear C0 c0 hX0 hE0
      go_wp2_with fail
      refine (D0.out _).mono ?_; rintro e w' ⟨rfl, rfl⟩
      go_wp2_with fail
      go_loop [6, 9] (fun s i => ∃ k : Nat, k ≤ zs.length ∧ i = .int .i64 k ∧ s = .int .i64 (needF A (zs.take k))) (fun _ i => zs.length - (intOf i).toNat)
      case atStart => exact ⟨0, Nat.zero_le _, rfl, rfl⟩
      case round =>
        obtain ⟨k, hk, rfl, rfl⟩ := hrel
        by_cases hlt : k < zs.length
        · obtain ⟨x, rfl, hcell⟩ : ∃ x, a = some x ∧ ∀ i, i < zs.length → w.cell? (x.add i) = some (.int .i64 (zs.getD i 0)) := by
            rcases hr with h | h
            · subst h; simp at hlt
            · exact h
          have hc := hcell k hlt
          have hsn := needF_snoc A zs k hlt
          have hfm := HM.out (zs.getD k 0) (by simp [List.getD, hlt])
          have hb := needF_bd A (by omega) (zs.take k) (fun f hf => HM.out f (List.mem_of_mem_take hf))
          have hst := sum_take_le zs k HS.out
          have hsum := HSUM.out
          have hs0 := (mem_sum_le (zs.take k) (fun f hf => HS.out f (List.mem_of_mem_take hf))).1
          obtain ⟨f, hf⟩ : ∃ f, zs.getD k 0 = f := ⟨_, rfl⟩
          rw [hf] at hc hsn hfm
          obtain ⟨q, hq⟩ : ∃ q, needF A (zs.take k) = q := ⟨_, rfl⟩
          rw [hq] at hsn hb
          have hq0 : -2194728288000 ≤ q := by omega
          have hq1 : q ≤ 2194728288000 := by omega
          obtain ⟨hf0, hf1⟩ := hfm
          have HC := Lib.hid hcell; have HF := Lib.hid hf; have HQ := Lib.hid hq; have HSN := Lib.hid hsn; have HB := Lib.hid hb
          clear hcell hf hq hsn hb hst hsum hs0
          rw [HQ.out]
          by_cases c1 : 0 < f
          · obtain ⟨g, rfl⟩ := Int.eq_ofNat_of_zero_le hf0
            have hA0 : lg0 A = lg A := by unfold lg0; rw [if_neg (by omega)]
            have hXX : lg A = X0 := by rw [← hA0]; exact HX0.out
            have l1 := lg_le A (by omega) (by omega)
            have l2 := lg_le g (by omega) (by omega)
            have C2 := Lib.hid (refLog_in g (by omega) (by omega))
            have hmul := mul_bd g ((lg A : Int) - (lg g : Int)) hf0 (by omega) (by omega)
            obtain ⟨Y, hY⟩ : ∃ Y, lg g = Y := ⟨_, rfl⟩
            have e : needF A (zs.take (k + 1)) = q + g * ((X0 : Int) - (Y : Int)) := by
              have := HSN.out; rw [if_pos c1] at this; rw [this, ← hXX, ← hY]; rfl
            have c2' := C2.out
            rw [hXX] at l1 hmul; rw [hY] at c2' l2 hmul
            have D2 := Lib.hid c2'; have E := Lib.hid e
            obtain ⟨hm0, hm1⟩ := hmul
            clear C2 c2' e hXX hY hA0
            go_wp2_with fail
            refine (D2.out _).mono ?_; rintro e w' ⟨rfl, rfl⟩
            go_wp2_with fail
            go_round
            case rel => exact ⟨k + 1, by omega, by go_num, by rw [E.out]⟩
            case measure => simp [intOf]; omega
          · have e : needF A (zs.take (k + 1)) = q := by
              have := HSN.out; rw [if_neg c1] at this; omega
            have E := Lib.hid e
            clear e
            go_wp2
            go_round
            case rel => exact ⟨k + 1, by omega, by go_num, by rw [E.out]⟩
            case measure => simp [intOf]; omega
        · have ht : zs.take k = zs := List.take_of_length_le (by omega)
          rw [ht]
          go_wp2
          go_ret2
          exact ⟨rfl, by rw [HA.out]; rfl⟩

end Go.Proofs.Ytekageibffhloaa
