import Derived.Test.YtopiiickeojpmaaJ02
import Derived.Test.YtopiiickeojpmaaTu
import Derived.Laws.BitsAllLaws
import Derived.Laws.BitsLemmas
import Derived.Test.YtopiiickeojpmaaJ10
/- Layer 8: numbers the other way round. -/
namespace Go.Proofs.Ytopiiickeojpmaa
open Go.ChangeShapes Go.WideShapes Go.ChangeAt Go.RowKit
set_option linter.unusedVariables false
set_option maxRecDepth 100000
open TurnMath

theorem nat32 (a b : Nat) (ha : a < 2 ^ 32) (hb : b < 2 ^ 32) : bits .and .u32 (a : Int) (b : Int) = ((a &&& b : Nat) : Int) ∧ bits .or .u32 (a : Int) (b : Int) = ((a ||| b : Nat) : Int) :=
  bits_nat .u32 32 (by decide) (fun n h1 h2 => IntWalk.u32_in n (by omega)) a b ha hb
theorem sw (x M D s : Nat) (m d : Int) (hd : d = D) (hm : m = M) (hD : D = 2 ^ s) (hx : x < 4294967296) (hM : M * D < 4294967296) (hD1 : 1 ≤ D) :
    bits .or .u32 (bits .and .u32 ((x : Int) / d) m) (bits .and .u32 (x : Int) m * d % 4294967296) = ((swap x s M : Nat) : Int) ∧ swap x s M < 4294967296 := by
  subst hd; subst hm
  have hM1 : M < 4294967296 := by
    have : M * 1 ≤ M * D := Nat.mul_le_mul_left _ hD1
    omega
  have e1 : ((x : Int) / (D : Int)) = ((x / D : Nat) : Int) := by simp
  have hxd : x / D ≤ x := Nat.div_le_self _ _
  have h1 : x / D &&& M < 2 ^ 32 := Nat.and_lt_two_pow _ hM1
  have h2 : (x &&& M) ≤ M := Nat.and_le_right
  have h3 : (x &&& M) * D < 4294967296 := Nat.lt_of_le_of_lt (Nat.mul_le_mul_right _ h2) hM
  rw [e1, (nat32 (x / D) M (by omega) (by omega)).1, (nat32 x M (by omega) (by omega)).1]
  have e2 : (((x &&& M : Nat) : Int) * (D : Int)) % 4294967296 = (((x &&& M) * D : Nat) : Int) := by
    rw [← Int.natCast_mul]; omega
  rw [e2, (nat32 _ _ h1 h3).2]
  unfold swap
  rw [← hD]
  exact ⟨rfl, Nat.or_lt_two_pow (n := 32) h1 h3⟩
theorem sw16 (y : Nat) (hy : y < 4294967296) : bits .or .u32 ((y : Int) / 65536) ((y : Int) * 65536 % 4294967296) = ((swap y 16 65535 : Nat) : Int) := by
  have e1 : ((y : Int) / 65536) = ((y / 65536 : Nat) : Int) := by simp
  have e2 : ((y : Int) * 65536 % 4294967296) = ((y % 65536 * 65536 : Nat) : Int) := by omega
  rw [e1, e2, (nat32 _ _ (by omega) (by omega)).2]
  unfold swap
  have a1 : y / 2 ^ 16 &&& 65535 = y / 65536 := by
    have := Nat.and_two_pow_sub_one_eq_mod (y / 65536) 16
    simp at this ⊢; omega
  have a2 : y &&& 65535 = y % 65536 := by
    have := Nat.and_two_pow_sub_one_eq_mod y 16
    simpa using this
  rw [a1, a2]
theorem bRevBytes (x : Nat) (hx : x < 4294967296) (w : World) : Calls Try.prog 67 #[.int .u32 x] w fun e w' => e = .returned (.int .u32 (swap (swap x 8 16711935) 16 65535 : Nat)) ∧ w' = w := by
  have h1 := sw x 16711935 256 8 16711935 256 rfl rfl rfl hx (by decide) (by decide)
  have h2 := sw16 _ h1.2
  have H1 := Lib.hid h1.1; have H2 := Lib.hid h2
  clear h1 h2
  go_enter Try.func67, Try.ntmps67
  go_wp2
  go_ret
  exact ⟨ret_i (by rw [H1.out, H2.out]), rfl⟩
theorem bRev (x : Nat) (hx : x < 4294967296) (w : World) : Calls Try.prog 47 #[.int .u32 x] w fun e w' => e = .returned (.int .u32 (rev32 x : Nat)) ∧ w' = w := by
  have h1 := sw x 1431655765 2 1 1431655765 2 rfl rfl rfl hx (by decide) (by decide)
  have h2 := sw _ 858993459 4 2 858993459 4 rfl rfl rfl h1.2 (by decide) (by decide)
  have h3 := sw _ 252645135 16 4 252645135 16 rfl rfl rfl h2.2 (by decide) (by decide)
  have C := bRevBytes _ h3.2 w
  rw [← h3.1, ← h2.1, ← h1.1] at C
  have E : Hid ((swap (swap (swap (swap (swap x 1 1431655765) 2 858993459) 4 252645135) 8 16711935) 16 65535 : Nat) = rev32 x) := rfl
  rw [h1.1, h2.1, h3.1] at C
  have H1 := Lib.hid h1.1; have H2 := Lib.hid h2.1; have H3 := Lib.hid h3.1
  have C := Lib.hid C
  clear h1 h2 h3
  go_enter Try.func47, Try.ntmps47
  go_wp2_with fail
  rw [H1.out, H2.out, H3.out]
  refine C.out.mono ?_; rintro e w1 ⟨rfl, rfl⟩
  go_wp2_with fail
  go_ret
  exact ⟨ret_i (by rw [E.out]), rfl⟩
theorem and1 (X : Int) : bits .and .i64 X 1 = X % 2 := by
  have h1 : (BitVec.ofInt IntKind.i64.bits X &&& BitVec.ofInt IntKind.i64.bits 1).toNat = (X % 2).toNat := by
    rw [BitVec.toNat_and]
    have : (BitVec.ofInt IntKind.i64.bits 1).toNat = 1 := by decide
    rw [this, Nat.and_one_is_mod, BitVec.toNat_ofInt]
    show (X % 18446744073709551616).toNat % 2 = _
    omega
  simp only [bits, h1]
  rw [IntWalk.i64_in _ (by omega)]
  omega
theorem turn_next (c : Int) (k : Nat) (hk : k < 32) : ((turn (c % 4294967296).toNat (k + 1) : Nat) : Int) = (turn (c % 4294967296).toNat k : Nat) * 2 + c / 2 ^ k % 2 := by
  simp only [turn]
  have e : (c / 2 ^ k % 2) = (((c % 4294967296).toNat / 2 ^ k % 2 : Nat) : Int) := by
    have hc : ((c % 4294967296).toNat : Int) = c % 4294967296 := by omega
    rw [Int.natCast_emod, Int.natCast_ediv, hc]
    have hp : ((2 ^ k : Nat) : Int) = 2 ^ k := by simp
    rw [hp]
    have hpos : (2 : Int) ^ k ≠ 0 := by rw [← hp]; have : 0 < 2 ^ k := Nat.pow_pos (by decide); omega
    have hs : (4294967296 : Int) = 2 ^ k * (2 ^ (31 - k) * 2) := by
      rw [← Int.mul_assoc, ← Int.pow_add, show k + (31 - k) = 31 from by omega]; rfl
    have hq : c = c % 4294967296 + 2 ^ k * (2 ^ (31 - k) * 2 * (c / 4294967296)) := by
      rw [← Int.mul_assoc, ← hs]; omega
    conv => lhs; rw [hq]
    rw [Int.add_mul_ediv_left _ _ hpos, Int.mul_comm ((2 : Int) ^ (31 - k)) 2, Int.mul_assoc]
    generalize (2 : Int) ^ (31 - k) * (c / 4294967296) = Z
    generalize c % 4294967296 / 2 ^ k = R
    show _ = R % 2
    omega
  rw [e]
  omega
theorem bTurned_out (c n : Int) (hn : n < 0 ∨ 32 < n) (w : World) : Calls Try.prog 28 #[.int .i64 c, .int .i64 n] w fun e w' => e = .returned (.int .i64 0) ∧ w' = w := by
  by_cases h1 : n < 0
  · go_enter Try.func28, Try.ntmps28
    go_wp2
    go_ret
    exact ⟨rfl, rfl⟩
  · have h2 : 32 < n := by omega
    go_enter Try.func28, Try.ntmps28
    go_wp2
    go_ret
    exact ⟨rfl, rfl⟩
theorem bTurned (c : Int) (n : Nat) (hn : n ≤ 32) (w : World) : Calls Try.prog 28 #[.int .i64 c, .int .i64 n] w fun e w' => e = .returned (.int .i64 (turn (c % 4294967296).toNat n : Nat)) ∧ w' = w := by
  have hc : (c % 4294967296) = ((c % 4294967296).toNat : Int) := by omega
  have hm : (c % 4294967296).toNat % 2 ^ 32 = (c % 4294967296).toNat := Nat.mod_eq_of_lt (by omega)
  have ht := rev_turn (c % 4294967296).toNat n hn
  rw [hm] at ht
  have hr := rev_lt (c % 4294967296).toNat (by omega)
  have C := Lib.hid (bRev (c % 4294967296).toNat (by omega) w)
  obtain ⟨X, hX⟩ : ∃ X, (c % 4294967296).toNat = X := ⟨_, rfl⟩
  rw [hX] at hc ht hr C ⊢
  obtain ⟨R, hR⟩ : ∃ R, rev32 X = R := ⟨_, rfl⟩
  rw [hR] at hr ht C
  have HC := Lib.hid hc; have HT := Lib.hid ht
  clear hc hX ht hR hm
  go_enter Try.func28, Try.ntmps28
  go_wp2_with fail
  rw [HC.out]
  refine C.out.mono ?_; rintro e w1 ⟨rfl, rfl⟩
  go_wp2_with fail
  go_ret
  refine ⟨ret_i ?_, rfl⟩
  have e : ((R : Int) / 2 ^ (32 - n)) = ((R / 2 ^ (32 - n) : Nat) : Int) := by simp
  have hl := turn_lt X n
  have hp : 2 ^ n ≤ 2 ^ 32 := Nat.pow_le_pow_right (by decide) hn
  rw [e, HT.out]
  unfold wrap64; omega
end Go.Proofs.Ytopiiickeojpmaa

/- Layer 9, the document's: begins, Bools. -/
namespace Go.Proofs.Ytopiiickeojpmaa
open Go.ChangeShapes Go.WideShapes Go.ChangeAt Go.RowKit
set_option linter.unusedVariables false
set_option maxRecDepth 100000
/-- Does l begin with the row h? -/
def begL (l h : List Bool) : Bool := decide (h.length ≤ l.length) && decide (l.take h.length = h)
/-- The n lowest bits of c, the highest one first. -/
def msb (c : Nat) : Nat → List Bool
  | 0 => []
  | n + 1 => (c / 2 ^ n % 2 == 1) :: msb c n
theorem msb_len (c : Nat) : ∀ n, (msb c n).length = n
  | 0 => rfl
  | n + 1 => by rw [msb, List.length_cons, msb_len c n]
theorem msb_drop (c n : Nat) : ∀ k, k ≤ n → (msb c n).drop (n - k) = msb c k := by
  intro k hk
  induction n with
  | zero => obtain rfl : k = 0 := by omega
            rfl
  | succ n ih =>
    by_cases h : k = n + 1
    · subst h; rw [Nat.sub_self]; rfl
    · rw [show n + 1 - k = (n - k) + 1 by omega, msb, List.drop_succ_cons]
      exact ih (by omega)
theorem shr_and (c k : Nat) (hc : c < 2 ^ 60) (hk : k < 61) : (bits .and .i64 ((c : Int) / 2 ^ k) 1 == 1) = (c / 2 ^ k % 2 == 1) := by
  have e3 : (c : Int) / 2 ^ k = ((c / 2 ^ k : Nat) : Int) := by simp
  rw [and1, e3, Bool.eq_iff_iff, beq_iff_eq, beq_iff_eq]
  omega
set_option maxHeartbeats 1600000 in
theorem dMsb (c n : Nat) (hn : n ≤ 60) (hc : c < 2 ^ 60) (w : World) : Calls Try.prog 50 #[.int .i64 c, .int .i64 n] w fun e w' => ∃ v, e = .returned v ∧ OwnB w.heap.size w' v (msb c n) ∧ Below w.heap.size w w' := by
  have HI := Lib.hid (fun k (hk : k < 61) => shr_and c k hc hk)
  clear hc
  go_enter Try.func50, Try.ntmps50
  go_wp2
  go_loopw [5, 6] (fun u i wr => ∃ k : Nat, k ≤ n ∧ i = .int .i64 ((k : Int) - 1) ∧ OwnB w.heap.size wr u ((msb c n).take (n - k)) ∧ Below w.heap.size w wr) (fun _ i _ => (intOf i + 1).toNat)
  case atStart => exact ⟨n, Nat.le_refl _, rfl, by rw [Nat.sub_self]; exact OwnS.nil, Below.refl _ _⟩
  case round =>
    obtain ⟨k, hk, rfl, hown, hb⟩ := hrel
    have hbs := hb.size
    rcases k with _ | k
    · have HT := Lib.hid (show (msb c n).take (n - 0) = msb c n by rw [List.take_of_length_le (by rw [msb_len]; omega)])
      rw [HT.out] at hown
      have hown_ := Lib.hid hown
      have hb_ := Lib.hid hb
      clear hown hb
      go_wp2_with fail
      go_ret
      exact ⟨_, rfl, hown_.out, hb_.out⟩
    · have HN := Lib.hid (show (msb c n).take (n - (k + 1)) ++ [c / 2 ^ k % 2 == 1] = (msb c n).take (n - k) by
        have h1 := takeB (msb c n) (n - (k + 1)) (by rw [msb_len]; omega)
        rw [show n - (k + 1) + 1 = n - k by omega] at h1
        rw [h1]
        congr 2
        have h2 := msb_drop c n (k + 1) hk
        rw [dropB _ _ (by rw [msb_len]; omega), msb] at h2
        exact (List.cons.inj h2).1.symm)
      have hbit := HI.out k (by omega)
      have HLn := Lib.hid (show ((msb c n).take (n - (k + 1))).length ≤ 1099511627776 by rw [List.length_take, msb_len]; omega)
      have HBs := Lib.hid hbs
      have hk1 : ((k + 1 : Nat) : Int) - 1 = k := by omega
      rw [hk1]
      clear hk1
      obtain ⟨BT, hBT⟩ : ∃ BT, (c / 2 ^ k % 2 == 1) = BT := ⟨_, rfl⟩
      rw [hBT] at HN hbit
      clear hBT
      have hown_ := Lib.hid hown
      have hb_ := Lib.hid hb
      clear hown hb
      go_wp2_with (at_builtin; refine app_bool rfl _ _ rfl _ _ _ _ BT rfl hown_.out _ 1 rfl rfl HLn.out HBs.out ?_; intro v2 w2 hown2 hb2 hg2)
      rw [HN.out] at hown2
      have hb3 := hb_.out.trans hb2
      have hown2_ := Lib.hid hown2
      have hb3_ := Lib.hid hb3
      clear hown2 hb3
      clear hb2 hg2
      go_wp2_with fail
      go_roundw
      case rel => exact ⟨k, by omega, by go_num, hown2_.out, hb3_.out⟩
      case measure => simp [intOf]
end Go.Proofs.Ytopiiickeojpmaa

/- Layer 9: symbol. -/
namespace Go.Proofs.Ytopiiickeojpmaa
open Go.ChangeShapes Go.WideShapes Go.ChangeAt Go.RowKit
set_option linter.unusedVariables false
set_option maxRecDepth 100000
/-- The first symbol with that length and that code; -1: none. -/
def SymR (l c : List Int) (n v R : Int) : Prop :=
  (∃ s : Nat, s < l.length ∧ R = s ∧ l.getD s 0 = n ∧ c.getD s 0 = v ∧ ∀ j, j < s → ¬ (l.getD j 0 = n ∧ c.getD j 0 = v)) ∨ (R = -1 ∧ ∀ j, j < l.length → ¬ (l.getD j 0 = n ∧ c.getD j 0 = v))
end Go.Proofs.Ytopiiickeojpmaa
