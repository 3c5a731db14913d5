/- Layer 9, the document's: begins, Bools. -/
import Derived.Test.YtbdhfmoididkgaaK4
import Derived.Test.YtbdhfmoididkgaaCc
namespace Go.Proofs.Ytbdhfmoididkgaa
open Go.ChangeShapes Go.WideShapes Go.ChangeAt Go.RowKit
set_option linter.unusedVariables false
set_option maxRecDepth 100000
/-- Does l begin with the row h? -/
def begL (l h : List Bool) : Bool := decide (h.length ≤ l.length) && decide (l.take h.length = h)
set_option maxHeartbeats 1600000 in
theorem dBegins (a b : Option Addr) (ca cb : Nat) (l h : List Bool) (w : World) (h1 : IsBoo w a l) (h2 : IsBoo w b h) (hl : l.length ≤ 1000000) (hh : h.length ≤ 1000000) (B : Bool) (hB : begL l h = B) :
    Calls Try.prog 24 #[.slice a l.length ca, .slice b h.length cb] w fun e w' => e = .returned (.bool B) ∧ ∃ k, w' = w.drewN k := by
  by_cases hlen : l.length < h.length
  · have hBf : B = false := by rw [← hB]; unfold begL; rw [decide_eq_false (by omega)]; rfl
    subst hBf
    clear h1 h2 hB
    go_enter Try.func24, Try.ntmps24
    go_wp2
    go_ret
    exact ⟨rfl, 0, rfl⟩
  have HI := Lib.hid h1
  have HJ := Lib.hid h2
  have HB := Lib.hid (show B = decide (l.take h.length = h) by rw [← hB]; unfold begL; rw [decide_eq_true (show h.length ≤ l.length by omega)]; rfl)
  clear h1 h2 hB
  go_enter Try.func24, Try.ntmps24
  go_wp2
  go_loopw [5] (fun i wr => ∃ k : Nat, k ≤ h.length ∧ i = .int .i64 k ∧ Hid (l.take k = h.take k) ∧ ∃ q, wr = w.drewN q) (fun i _ => h.length - (intOf i).toNat)
  case atStart => exact ⟨0, Nat.zero_le _, rfl, Lib.hid (by simp), 0, rfl⟩
  case round =>
    obtain ⟨k, hk, rfl, heq, q, rfl⟩ := hrel
    by_cases hlt : k < h.length
    · obtain ⟨x, rfl, hxb, cx⟩ := HI.out.at k (by omega)
      obtain ⟨y, rfl, hyb, cy⟩ := HJ.out.at k hlt
      have HTl := Lib.hid (takeB l k (by omega))
      have HTh := Lib.hid (takeB h k hlt)
      obtain ⟨X, hX⟩ : ∃ X, l.getD k false = X := ⟨_, rfl⟩
      obtain ⟨Y, hY⟩ : ∃ Y, h.getD k false = Y := ⟨_, rfl⟩
      rw [hX] at cx HTl
      rw [hY] at cy HTh
      clear hX hY
      by_cases hxy : X = Y
      · subst hxy
        have HN := Lib.hid (show l.take (k + 1) = h.take (k + 1) by rw [HTl.out, HTh.out, heq.out])
        go_wp2
        go_region
        all_goals (
          go_wp2
          go_roundw
          case rel => exact ⟨k + 1, by omega, by go_num, HN, _, rfl⟩
          case measure => simp [intOf]; omega)
      · have hne : (X == Y) = false := by simpa using hxy
        have HF := Lib.hid (show B = false by
          rw [HB.out]
          refine decide_eq_false (fun e => hxy ?_)
          have e1 := congrArg (List.take (k + 1)) e
          rw [List.take_take, Nat.min_eq_left (by omega), HTl.out, HTh.out, heq.out] at e1
          simpa using e1)
        go_wp2
        go_region
        all_goals (
          go_wp2
          go_ret
          exact ⟨by rw [HF.out]; rfl, _, rfl⟩)
    · obtain rfl : k = h.length := by omega
      have HT := Lib.hid (show B = true by rw [HB.out]; have h3 := heq.out; rw [List.take_length] at h3; exact decide_eq_true h3)
      go_wp2
      go_ret
      exact ⟨by rw [HT.out]; rfl, _, rfl⟩
/-- The n lowest bits of c, the highest one first. -/
def msb (c : Nat) : Nat → List Bool
  | 0 => []
  | n + 1 => (c / 2 ^ n % 2 == 1) :: msb c n
theorem msb_len (c : Nat) : ∀ n, (msb c n).length = n
  | 0 => rfl
  | n + 1 => by rw [msb, List.length_cons, msb_len c n]
theorem msb_drop (c n : Nat) : ∀ k, k ≤ n → (msb c n).drop (n - k) = msb c k := by
  intro k hk
  induction n with
  | zero => obtain rfl : k = 0 := by omega
            rfl
  | succ n ih =>
    by_cases h : k = n + 1
    · subst h; rw [Nat.sub_self]; rfl
    · rw [show n + 1 - k = (n - k) + 1 by omega, msb, List.drop_succ_cons]
      exact ih (by omega)
theorem shr_and (c k : Nat) (hc : c < 2 ^ 60) (hk : k < 61) : (bits .and .i64 ((c : Int) / 2 ^ k) 1 == 1) = (c / 2 ^ k % 2 == 1) := by
  have e3 : (c : Int) / 2 ^ k = ((c / 2 ^ k : Nat) : Int) := by simp
  rw [and1, e3, Bool.eq_iff_iff, beq_iff_eq, beq_iff_eq]
  omega
set_option maxHeartbeats 1600000 in
theorem dMsb (c n : Nat) (hn : n ≤ 60) (hc : c < 2 ^ 60) (w : World) : Calls Try.prog 23 #[.int .i64 c, .int .i64 n] w fun e w' => ∃ v, e = .returned v ∧ OwnB w.heap.size w' v (msb c n) ∧ Below w.heap.size w w' := by
  have HI := Lib.hid (fun k (hk : k < 61) => shr_and c k hc hk)
  clear hc
  go_enter Try.func23, Try.ntmps23
  go_wp2
  go_loopw [5, 6] (fun u i wr => ∃ k : Nat, k ≤ n ∧ i = .int .i64 ((k : Int) - 1) ∧ OwnB w.heap.size wr u ((msb c n).take (n - k)) ∧ Below w.heap.size w wr) (fun _ i _ => (intOf i + 1).toNat)
  case atStart => exact ⟨n, Nat.le_refl _, rfl, by rw [Nat.sub_self]; exact OwnS.nil, Below.refl _ _⟩
  case round =>
    obtain ⟨k, hk, rfl, hown, hb⟩ := hrel
    have hbs := hb.size
    rcases k with _ | k
    · have HT := Lib.hid (show (msb c n).take (n - 0) = msb c n by rw [List.take_of_length_le (by rw [msb_len]; omega)])
      rw [HT.out] at hown
      have hown_ := Lib.hid hown
      have hb_ := Lib.hid hb
      clear hown hb
      go_wp2_with fail
      go_ret
      exact ⟨_, rfl, hown_.out, hb_.out⟩
    · have HN := Lib.hid (show (msb c n).take (n - (k + 1)) ++ [c / 2 ^ k % 2 == 1] = (msb c n).take (n - k) by
        have h1 := takeB (msb c n) (n - (k + 1)) (by rw [msb_len]; omega)
        rw [show n - (k + 1) + 1 = n - k by omega] at h1
        rw [h1]
        congr 2
        have h2 := msb_drop c n (k + 1) hk
        rw [dropB _ _ (by rw [msb_len]; omega), msb] at h2
        exact (List.cons.inj h2).1.symm)
      have hbit := HI.out k (by omega)
      have HLn := Lib.hid (show ((msb c n).take (n - (k + 1))).length ≤ 1099511627776 by rw [List.length_take, msb_len]; omega)
      have HBs := Lib.hid hbs
      have hk1 : ((k + 1 : Nat) : Int) - 1 = k := by omega
      rw [hk1]
      clear hk1
      obtain ⟨BT, hBT⟩ : ∃ BT, (c / 2 ^ k % 2 == 1) = BT := ⟨_, rfl⟩
      rw [hBT] at HN hbit
      clear hBT
      have hown_ := Lib.hid hown
      have hb_ := Lib.hid hb
      clear hown hb
      go_wp2_with (at_builtin; refine app_bool rfl _ _ rfl _ _ _ _ BT rfl hown_.out _ 1 rfl rfl HLn.out HBs.out ?_; intro v2 w2 hown2 hb2 hg2)
      rw [HN.out] at hown2
      have hb3 := hb_.out.trans hb2
      have hown2_ := Lib.hid hown2
      have hb3_ := Lib.hid hb3
      clear hown2 hb3
      clear hb2 hg2
      go_wp2_with fail
      go_roundw
      case rel => exact ⟨k, by omega, by go_num, hown2_.out, hb3_.out⟩
      case measure => simp [intOf]
end Go.Proofs.Ytbdhfmoididkgaa
