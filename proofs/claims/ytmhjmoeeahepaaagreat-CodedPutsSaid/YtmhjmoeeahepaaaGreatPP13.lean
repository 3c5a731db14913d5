import Derived.Test.YtmhjmoeeahepaaaGreatPP12
/- Layer 9, the document's: begins, Bools. -/
namespace Go.Proofs.YtmhjmoeeahepaaaGreat
open Go.ChangeShapes Go.WideShapes Go.ChangeAt Go.RowKit
set_option linter.unusedVariables false
set_option maxRecDepth 100000
/-- Does l begin with the row h? -/
def begL (l h : List Bool) : Bool := decide (h.length ≤ l.length) && decide (l.take h.length = h)
/-- The n lowest bits of c, the highest one first. -/
def msb (c : Nat) : Nat → List Bool
  | 0 => []
  | n + 1 => (c / 2 ^ n % 2 == 1) :: msb c n
theorem msb_len (c : Nat) : ∀ n, (msb c n).length = n
  | 0 => rfl
  | n + 1 => by rw [msb, List.length_cons, msb_len c n]
theorem msb_drop (c n : Nat) : ∀ k, k ≤ n → (msb c n).drop (n - k) = msb c k := by
  intro k hk
  induction n with
  | zero => obtain rfl : k = 0 := by omega
            rfl
  | succ n ih =>
    by_cases h : k = n + 1
    · subst h; rw [Nat.sub_self]; rfl
    · rw [show n + 1 - k = (n - k) + 1 by omega, msb, List.drop_succ_cons]
      exact ih (by omega)
theorem shr_and (c k : Nat) (hc : c < 2 ^ 60) (hk : k < 61) : (bits .and .i64 ((c : Int) / 2 ^ k) 1 == 1) = (c / 2 ^ k % 2 == 1) := by
  have e3 : (c : Int) / 2 ^ k = ((c / 2 ^ k : Nat) : Int) := by simp
  rw [and1, e3, Bool.eq_iff_iff, beq_iff_eq, beq_iff_eq]
  omega
set_option maxHeartbeats 1600000 in
theorem dMsb (c n : Nat) (hn : n ≤ 60) (hc : c < 2 ^ 60) (w : World) : Calls Tryz.prog 50 #[.int .i64 c, .int .i64 n] w fun e w' => ∃ v, e = .returned v ∧ OwnB w.heap.size w' v (msb c n) ∧ Below w.heap.size w w' := by
  have HI := Lib.hid (fun k (hk : k < 61) => shr_and c k hc hk)
  clear hc
  go_enter Tryz.func50, Tryz.ntmps50
  go_wp2
  go_loopw [5, 6] (fun u i wr => ∃ k : Nat, k ≤ n ∧ i = .int .i64 ((k : Int) - 1) ∧ OwnB w.heap.size wr u ((msb c n).take (n - k)) ∧ Below w.heap.size w wr) (fun _ i _ => (intOf i + 1).toNat)
  case atStart => exact ⟨n, Nat.le_refl _, rfl, by rw [Nat.sub_self]; exact OwnS.nil, Below.refl _ _⟩
  case round =>
    obtain ⟨k, hk, rfl, hown, hb⟩ := hrel
    have hbs := hb.size
    rcases k with _ | k
    · have HT := Lib.hid (show (msb c n).take (n - 0) = msb c n by rw [List.take_of_length_le (by rw [msb_len]; omega)])
      rw [HT.out] at hown
      have hown_ := Lib.hid hown
      have hb_ := Lib.hid hb
      clear hown hb
      go_wp2_with fail
      go_ret
      exact ⟨_, rfl, hown_.out, hb_.out⟩
    · have HN := Lib.hid (show (msb c n).take (n - (k + 1)) ++ [c / 2 ^ k % 2 == 1] = (msb c n).take (n - k) by
        have h1 := takeB (msb c n) (n - (k + 1)) (by rw [msb_len]; omega)
        rw [show n - (k + 1) + 1 = n - k by omega] at h1
        rw [h1]
        congr 2
        have h2 := msb_drop c n (k + 1) hk
        rw [dropB _ _ (by rw [msb_len]; omega), msb] at h2
        exact (List.cons.inj h2).1.symm)
      have hbit := HI.out k (by omega)
      have HLn := Lib.hid (show ((msb c n).take (n - (k + 1))).length ≤ 1099511627776 by rw [List.length_take, msb_len]; omega)
      have HBs := Lib.hid hbs
      have hk1 : ((k + 1 : Nat) : Int) - 1 = k := by omega
      rw [hk1]
      clear hk1
      obtain ⟨BT, hBT⟩ : ∃ BT, (c / 2 ^ k % 2 == 1) = BT := ⟨_, rfl⟩
      rw [hBT] at HN hbit
      clear hBT
      have hown_ := Lib.hid hown
      have hb_ := Lib.hid hb
      clear hown hb
      go_wp2_with (at_builtin; refine app_bool rfl _ _ rfl _ _ _ _ BT rfl hown_.out _ 1 rfl rfl HLn.out HBs.out ?_; intro v2 w2 hown2 hb2 hg2)
      rw [HN.out] at hown2
      have hb3 := hb_.out.trans hb2
      have hown2_ := Lib.hid hown2
      have hb3_ := Lib.hid hb3
      clear hown2 hb3
      clear hb2 hg2
      go_wp2_with fail
      go_roundw
      case rel => exact ⟨k, by omega, by go_num, hown2_.out, hb3_.out⟩
      case measure => simp [intOf]
end Go.Proofs.YtmhjmoeeahepaaaGreat

/- Layer 9: symbol. -/
namespace Go.Proofs.YtmhjmoeeahepaaaGreat
open Go.ChangeShapes Go.WideShapes Go.ChangeAt Go.RowKit
set_option linter.unusedVariables false
set_option maxRecDepth 100000
/-- The first symbol with that length and that code; -1: none. -/
def SymR (l c : List Int) (n v R : Int) : Prop :=
  (∃ s : Nat, s < l.length ∧ R = s ∧ l.getD s 0 = n ∧ c.getD s 0 = v ∧ ∀ j, j < s → ¬ (l.getD j 0 = n ∧ c.getD j 0 = v)) ∨ (R = -1 ∧ ∀ j, j < l.length → ¬ (l.getD j 0 = n ∧ c.getD j 0 = v))
end Go.Proofs.YtmhjmoeeahepaaaGreat

/- Layer 9: next. -/
namespace Go.Proofs.YtmhjmoeeahepaaaGreat
open Go.ChangeShapes Go.WideShapes Go.ChangeAt Go.RowKit
set_option linter.unusedVariables false
set_option maxRecDepth 100000
end Go.Proofs.YtmhjmoeeahepaaaGreat
