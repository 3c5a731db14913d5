/- Layer 9: symbol. -/
import Derived.Test.YtlampmedeebekaaE1
namespace Go.Proofs.Ytlampmedeebekaa
open Go.ChangeShapes Go.WideShapes Go.ChangeAt Go.RowKit
set_option linter.unusedVariables false
set_option maxRecDepth 100000
/-- The first symbol with that length and that code; -1: none. -/
def SymR (l c : List Int) (n v R : Int) : Prop :=
  (∃ s : Nat, s < l.length ∧ R = s ∧ l.getD s 0 = n ∧ c.getD s 0 = v ∧ ∀ j, j < s → ¬ (l.getD j 0 = n ∧ c.getD j 0 = v)) ∨ (R = -1 ∧ ∀ j, j < l.length → ¬ (l.getD j 0 = n ∧ c.getD j 0 = v))
set_option maxHeartbeats 1600000 in
theorem sSymbol (a b : Option Addr) (ca cb : Nat) (l c : List Int) (n v : Int) (w : World) (h1 : IsInts w a l) (h2 : IsInts w b c) (hlen : c.length = l.length) :
    Calls Try.prog 87 #[.slice a l.length ca, .slice b c.length cb, .int .i64 n, .int .i64 v] w fun e w' => ∃ R, e = .returned (.int .i64 R) ∧ SymR l c n v R ∧ ∃ k, w' = w.drewN k := by
  have HI := Lib.hid h1
  have HJ := Lib.hid h2
  have HL := Lib.hid hlen
  have hb := h1.1
  clear h1 h2 hlen
  go_enter Try.func87, Try.ntmps87
  go_wp2
  go_loopw [12] (fun i wr => ∃ k : Nat, k ≤ l.length ∧ i = .int .i64 k ∧ Hid (∀ j, j < k → ¬ (l.getD j 0 = n ∧ c.getD j 0 = v)) ∧ ∃ q, wr = w.drewN q) (fun i _ => l.length - (intOf i).toNat)
  case atStart => exact ⟨0, Nat.zero_le _, rfl, Lib.hid (fun j hj => by omega), 0, rfl⟩
  case round =>
    obtain ⟨k, hk, rfl, hno, q, rfl⟩ := hrel
    by_cases hlt : k < l.length
    · have hltc : k < c.length := by have := HL.out; omega
      obtain ⟨x, rfl, hxb, cx0⟩ := HI.out.at k hlt
      obtain ⟨y, rfl, hyb, cy0⟩ := HJ.out.at k hltc
      have cx := cx0 k hlt
      have cy := cy0 k hltc
      clear cx0 cy0
      obtain ⟨X, hX⟩ : ∃ X, l.getD k 0 = X := ⟨_, rfl⟩
      obtain ⟨Y, hY⟩ : ∃ Y, c.getD k 0 = Y := ⟨_, rfl⟩
      have HX := Lib.hid hX
      have HY := Lib.hid hY
      rw [hX] at cx
      rw [hY] at cy
      clear hX hY
      by_cases hx : X = n
      · by_cases hy : Y = v
        · have e1 : (X == n) = true := by rw [beq_iff_eq]; exact hx
          have e2 : (Y == v) = true := by rw [beq_iff_eq]; exact hy
          have HR := Lib.hid (show SymR l c n v k from .inl ⟨k, hlt, rfl, by rw [HX.out]; exact hx, by rw [HY.out]; exact hy, hno.out⟩)
          clear hx hy
          go_wp2
          go_ret
          exact ⟨_, rfl, HR.out, _, rfl⟩
        · have e1 : (X == n) = true := by rw [beq_iff_eq]; exact hx
          have e2 : (Y == v) = false := by rw [beq_eq_false_iff_ne]; exact hy
          have HN := Lib.hid (show ∀ j, j < k + 1 → ¬ (l.getD j 0 = n ∧ c.getD j 0 = v) from fun j hj e => by
            by_cases hjk : j = k
            · subst hjk; exact hy (by rw [← HY.out]; exact e.2)
            · exact hno.out j (by omega) e)
          clear hx hy
          go_wp2
          go_roundw
          case rel => exact ⟨k + 1, by omega, by go_num, HN, _, rfl⟩
          case measure => simp [intOf]; omega
      · have e1 : (X == n) = false := by rw [beq_eq_false_iff_ne]; exact hx
        have HN := Lib.hid (show ∀ j, j < k + 1 → ¬ (l.getD j 0 = n ∧ c.getD j 0 = v) from fun j hj e => by
          by_cases hjk : j = k
          · subst hjk; exact hx (by rw [← HX.out]; exact e.1)
          · exact hno.out j (by omega) e)
        clear hx
        go_wp2
        go_roundw
        case rel => exact ⟨k + 1, by omega, by go_num, HN, _, rfl⟩
        case measure => simp [intOf]; omega
    · obtain rfl : k = l.length := by omega
      have HR := Lib.hid (show SymR l c n v (-1) from .inr ⟨rfl, hno.out⟩)
      go_wp2
      go_ret
      exact ⟨_, rfl, HR.out, _, rfl⟩
end Go.Proofs.Ytlampmedeebekaa
