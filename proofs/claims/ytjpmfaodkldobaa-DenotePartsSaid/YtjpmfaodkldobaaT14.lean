/- Layer 18: Copy, by values. -/
import Derived.Test.YtjpmfaodkldobaaT13
namespace Go.Proofs.Ytjpmfaodkldobaa
open Go.ChangeShapes Go.WideShapes Go.ChangeAt Go.RowKit
set_option linter.unusedVariables false
set_option linter.unusedSimpArgs false
set_option maxRecDepth 100000
theorem pCopyV (a : Option Addr) (c : Nat) (l : List UInt8) (n d win : Int) (hl : l.length ≤ 1000000) (R : List UInt8) (E : Int) (hE : errC l.length n d win = E) (hR : copyR l n d win = R) (w : World) (h : IsY w a l) :
    Calls Try.prog 21 #[.slice a l.length c, .int .i64 n, .int .i64 d, .int .i64 win] w fun e w' => ∃ v, e = .returned (.tuple #[v, .int .i64 E]) ∧ OwnY w.heap.size w' v R ∧ Below w.heap.size w w' := by
  unfold copyR at hR
  by_cases h0 : E = 0
  · subst h0
    rw [if_pos hE] at hR
    subst hR
    exact pCopy a c l w n d win hE h hl
  · rw [if_neg (by rw [hE]; exact h0)] at hR
    subst hR
    exact (pCopyBad a c l w n d win E hE h0).mono fun e w' h => ⟨_, h.1, OwnS.nil, by rw [h.2]; exact Below.refl _ _⟩
set_option maxHeartbeats 1600000 in
theorem copies_walk (H : List UInt8) (n d : Int) (w : World) (hH : H.length ≤ 500) :
    Calls Try.prog 4 #[.string (sOf H), .int .i64 n, .int .i64 d] w fun e w' => e = .returned (.bool true) ∧ Below w.heap.size w w' := by
  obtain ⟨g, C, W1, hcv, hM, hb1⟩ := bytes_of w H (by omega)
  obtain ⟨R1, hR1⟩ : ∃ R, copyR H n d 100 = R := ⟨_, rfl⟩
  obtain ⟨E1, hE1⟩ : ∃ E, errC H.length n d 100 = E := ⟨_, rfl⟩
  obtain ⟨R2, hR2⟩ : ∃ R, copyR H n d n = R := ⟨_, rfl⟩
  obtain ⟨E2, hE2⟩ : ∃ E, errC H.length n d n = E := ⟨_, rfl⟩
  have P1 := Lib.hid (fun a c W h => pCopyV a c H n d 100 (by omega) R1 E1 hE1 hR1 W h)
  have P2 := Lib.hid (fun a c W h => pCopyV a c H n d n (by omega) R2 E2 hE2 hR2 W h)
  have D1 := Lib.hid (fun W => dCopyV H n d 100 (by omega) R1 E1 hE1 hR1 W)
  have D2 := Lib.hid (fun W => dCopyV H n d n (by omega) R2 E2 hE2 hR2 W)
  have hN : (sOf H).size = H.length := sOf_sz H
  have HM := Lib.hid hM
  have HB1 := Lib.hid hb1
  have hY : ∀ W, OwnM w.heap.size W (.slice (some ⟨g, 0, none⟩) H.length C) H → IsY W (some ⟨g, 0, none⟩) H := fun W h => by
    obtain ⟨a, c, ev, hY⟩ := m_isY h
    injection ev with e1 e2 e3
    subst e1
    exact hY
  have HY := Lib.hid hY
  clear hE1 hR1 hE2 hR2 hM hb1 hY
  go_enter Try.func4, Try.ntmps4
  go_wp2_with fail
  refine (P1.out _ _ _ (HY.out _ HM.out)).mono ?_; rintro e w2 ⟨v2, rfl, ho2, hb2⟩
  have HM := Lib.hid (HM.out.kept hb2)
  have HB2 := Lib.hid (HB1.out.trans (hb2.mono HB1.out.size))
  have HO := Lib.hid ho2
  clear hb2 ho2 HB1 P1 hcv
  go_wp2_with fail
  refine (D1.out _).mono ?_; rintro e w3 ⟨rfl, hb3⟩
  have HM := Lib.hid (HM.out.kept hb3)
  have HB3 := Lib.hid (HB2.out.trans (hb3.mono HB2.out.size))
  have HO := Lib.hid (HO.out.kept hb3)
  clear hb3 HB2 D1
  go_wp2_with fail
  refine (P2.out _ _ _ (HY.out _ HM.out)).mono ?_; rintro e w4 ⟨v4, rfl, ho4, hb4⟩
  have HM := Lib.hid (HM.out.kept hb4)
  have HB4 := Lib.hid (HB3.out.trans (hb4.mono HB3.out.size))
  have HO := Lib.hid (HO.out.kept hb4)
  clear hb4 ho4 HB3 P2
  go_wp2_with fail
  refine (D2.out _).mono ?_; rintro e w5 ⟨rfl, hb5⟩
  have HM := Lib.hid (HM.out.kept hb5)
  have HB5 := Lib.hid (HB4.out.trans (hb5.mono HB4.out.size))
  have HO := Lib.hid (HO.out.kept hb5)
  clear hb5 HB4 D2
  have q1 : (convert 34 9 v2).run Try.prog w5 = _ := y_conv HO.out
  have q2 : (convert 34 9 (.slice (some ⟨g, 0, none⟩) H.length C)).run Try.prog w5 = _ := conv_marked Try.underlying34 Try.underlying5 Try.underlying9 HM.out
  have hz : decide ((500 : Int) < H.length) = false := decide_eq_false (by omega)
  go_wp2_with fail
  refine (awake18 _).mono ?_; rintro e w6 ⟨rfl, hb6⟩
  go_wp2_with fail
  go_ret
  exact ⟨rfl, HB5.out.trans (hb6.mono HB5.out.size)⟩
end Go.Proofs.Ytjpmfaodkldobaa
