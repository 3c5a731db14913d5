/- Layer 22: BintreeAll. -/
import Derived.Test.YtgoplbngfinbdaaN8
namespace Go.Proofs.Ytgoplbngfinbdaa
open Go.ChangeShapes Go.WideShapes Go.ChangeAt Go.RowKit
set_option linter.unusedVariables false
set_option linter.unusedSimpArgs false
set_option maxRecDepth 100000
set_option maxHeartbeats 3200000 in
theorem tall_walk (L : List UInt8) (win most : Int) (w : World) (hL : L.length ≤ 120) :
    Calls Try.prog 10 #[.string (sM L), .int .i64 win, .int .i64 most] w fun e w' => e = .returned (.bool true) ∧ Below w.heap.size w w' := by
  obtain ⟨NN, hNN⟩ : ∃ NN, NN = 65536 := ⟨_, rfl⟩
  obtain ⟨W, hW⟩ : ∃ W : Nat, min (max win 1) 67108864 = (W : Int) := ⟨(min (max win 1) 67108864).toNat, by omega⟩
  obtain ⟨mo, hmo⟩ : ∃ mo : Nat, min (max most 2) 258 = (mo : Int) := ⟨(min (max most 2) 258).toNat, by omega⟩
  obtain ⟨m, hm⟩ : ∃ m, min L.length (W + 1) = m := ⟨_, rfl⟩
  have hS : (sM L).size = L.length := sM_size L
  have CN := Lib.hid (tNewF NN hNN L win ((L.length : Int) + 1) W (L.length + 1) m w (by omega) hW (by omega) hm)
  have CX := Lib.hid (fun g g1 g2 i W' hF (hi : i < L.length) => tNextF NN W' g g1 g2 L W (L.length + 1) m i mo most hF (by omega) hi (by omega) (by omega) hm (by omega) (by omega) hmo _ rfl)
  have DX := Lib.hid (fun i W' (hi : i < L.length) => dAtIn L i W mo W' (by omega) hi (by omega) (by omega) (by omega) (by omega) _ rfl _ rfl)
  have CA := Lib.hid (fun g g1 g2 i W' hF => tAtF NN W' g g1 g2 L W (L.length + 1) i m hF)
  have CE := Lib.hid (fun g g1 g2 W' hF => tEndF NN W' g g1 g2 L W (L.length + 1) m hF most)
  obtain ⟨A, hA⟩ : ∃ A : Int, (if (67108864 : Int) < win then 67108864 else win) = A := ⟨_, rfl⟩
  have hA2 : (if A < 1 then 1 else A) = (W : Int) := by rw [← hA]; split <;> split <;> omega
  have hA3 : (if 1 < A then A else 1) = (W : Int) := by rw [← hA]; split <;> split <;> omega
  obtain ⟨C, hC⟩ : ∃ C : Int, (if (258 : Int) < most then 258 else most) = C := ⟨_, rfl⟩
  have hC2 : (if C < 2 then 2 else C) = (mo : Int) := by rw [← hC]; split <;> split <;> omega
  have hC3 : (if 2 < C then C else 2) = (mo : Int) := by rw [← hC]; split <;> split <;> omega
  clear hNN hm hW hmo
  go_enter Try.func10, Try.ntmps10
  go_wp2_with fail
  refine CN.out.mono ?_; rintro e w1 ⟨g, g1, g2, rfl, hf1, hb1, hlo⟩
  have F := Lib.hid hf1
  have HB := Lib.hid hb1
  have LO := Lib.hid hlo
  clear hf1 hb1 CN hlo
  go_wp2_with fail
  clear hA hA2 hA3 hC hC2 hC3
  go_loopw [10] (fun u wr => ∃ i : Nat, i ≤ L.length ∧ u = .int .i64 i ∧ Hid (Ft NN wr g g1 g2 L W (L.length + 1) i m) ∧ Hid (Below w.heap.size w wr)) (fun u _ => L.length - (intOf u).toNat)
  case atStart => exact ⟨0, Nat.zero_le _, rfl, F, HB⟩
  case round =>
    obtain ⟨i, hi, rfl, F, HB⟩ := hrel
    by_cases hlt : i < L.length
    · have hlt2 : (i : Int) < L.length := by omega
      have CX1 := CX.out g g1 g2 i wr F.out hlt
      have DX1 := Lib.hid (fun W' => DX.out i W' hlt)
      obtain ⟨R, hR⟩ : ∃ R, (atS L i mo (min i W)).2 = R := ⟨_, rfl⟩
      have hRl : R.length ≤ i := by rw [← hR]; have := (atS_bd L i mo (min i W)).2; omega
      rw [hR] at CX1 DX1
      have CX1' := Lib.hid CX1
      clear CX1 hR
      go_wp2_with fail
      refine (CA.out g g1 g2 i wr F.out).mono ?_; rintro e w8 ⟨rfl, rfl⟩
      go_wp2_with fail
      refine CX1'.out.mono ?_; rintro e w2 ⟨v, B', rfl, ho, hB', hf, hk⟩
      have HB2 := Lib.hid (HB.out.trans (hk.below (fun k hk => ⟨by have := HB.out.size; omega, fun hS => by have := LO.out k hS; omega⟩)))
      have HM := Lib.hid (OwnS.isMv ho (by omega))
      have F2 := Lib.hid hf
      clear ho hB' hf hk CX1' F HB
      go_wp2_with fail
      refine (DX1.out _).mono ?_; rintro e w3 ⟨u, rfl, hu, hb3⟩
      have HB3 := Lib.hid (HB2.out.trans (hb3.mono HB2.out.size))
      have HM3 := Lib.hid (HM.out.kept hb3)
      have HU := Lib.hid (OwnS.isMv hu (by omega))
      have F3 := Lib.hid (F2.out.kept hb3)
      clear hu hb3 HB2 HM F2 DX1
      go_wp2_with fail
      refine (dSameMv HM3.out HU.out true (by simp)).mono ?_; rintro e w4 ⟨rfl, hb4⟩
      have HB4 := Lib.hid (HB3.out.trans (hb4.mono HB3.out.size))
      have F4 := Lib.hid (F3.out.kept hb4)
      clear hb4 HM3 HU F3 HB3
      go_wp2_with fail
      go_roundw
      case rel => exact ⟨i + 1, by omega, by go_num, F4, HB4⟩
      case measure => simp [intOf]; omega
    · obtain rfl : i = L.length := by omega
      go_wp2_with fail
      refine (CE.out g g1 g2 wr F.out).mono ?_; rintro e w4 ⟨rfl, q4, rfl⟩
      have HB4 := Lib.hid (below_dn HB.out q4)
      clear HB F
      go_wp2_with fail
      refine (awake22 _).mono ?_; rintro e w5 ⟨rfl, hb5⟩
      go_wp2_with fail
      go_ret
      exact ⟨rfl, HB4.out.trans (hb5.mono HB4.out.size)⟩
end Go.Proofs.Ytgoplbngfinbdaa
