/- Layer 21: the chapter's examples; NearAll, NearNone. -/
import Derived.Test.YtpkidedepcnoaaaZ10
namespace Go.Proofs.Ytpkidedepcnoaaa
open Go.ChangeShapes Go.WideShapes Go.ChangeAt Go.RowKit
set_option linter.unusedVariables false
set_option linter.unusedSimpArgs false
set_option maxRecDepth 100000
theorem mv_lit {w : World} {g cap : Nat} {a b : Int} {T : TypeId} (h : w.heap[g]? = some (.cells #[.int .i64 a, .int .i64 b] T (0, 0))) : IsMv w (.slice (some ⟨g, 0, none⟩) 1 cap) [(a, b)] := by
  refine ⟨_, cap, rfl, by simp, .inr ⟨_, rfl, fun i hi => ?_⟩⟩
  simp at hi
  subst hi
  have e : (⟨g, 0, none⟩ : Addr).add (0 * 2) = ⟨g, 0, none⟩ := by simp [Addr.add]
  rw [e]
  exact ⟨cell_lit h 0 _ rfl, cell_lit h 1 _ rfl⟩
theorem exN : atZ [97, 98, 99, 97, 98, 97, 98] 5 9 9 = [(2, 2)] ∧ atZ [97, 98, 99, 97, 98, 97, 98] 3 9 9 = [(2, 3)] ∧ atZ [97, 98, 99, 97, 98, 97, 98] 0 9 9 = [] ∧ atZ [97, 98, 99, 97, 98, 97, 98] 5 1 9 = [] ∧ atZ [97, 98, 99, 97, 98, 97, 98] 5 9 1 = [] ∧ atZ [97, 98, 99, 97, 98, 97, 98] 7 9 9 = [] := by decide +kernel
set_option maxHeartbeats 3200000 in
theorem awake21 (w : World) : Calls Try.prog 23 #[] w fun e w' => e = .returned (.bool true) ∧ Below w.heap.size w w' := by
  have CN := Lib.hid (cNew [97, 98, 99, 97, 98, 97, 98] w (by decide))
  have A1 := Lib.hid (fun g a W hF => cAtZ g [97, 98, 99, 97, 98, 97, 98] a 5 9 9 W hF (by decide))
  have A2 := Lib.hid (fun g a W hF => cAtZ g [97, 98, 99, 97, 98, 97, 98] a 3 9 9 W hF (by decide))
  have A3 := Lib.hid (fun g a W hF => cAtZ g [97, 98, 99, 97, 98, 97, 98] a 0 9 9 W hF (by decide))
  have A4 := Lib.hid (fun g a W hF => cAtZ g [97, 98, 99, 97, 98, 97, 98] a 5 1 9 W hF (by decide))
  have A5 := Lib.hid (fun g a W hF => cAtZ g [97, 98, 99, 97, 98, 97, 98] a 5 9 1 W hF (by decide))
  have A6 := Lib.hid (fun g a W hF => cAtZ g [97, 98, 99, 97, 98, 97, 98] a 7 9 9 W hF (by decide))
  rw [exN.1] at A1
  rw [exN.2.1] at A2
  rw [exN.2.2.1] at A3
  rw [exN.2.2.2.1] at A4
  rw [exN.2.2.2.2.1] at A5
  rw [exN.2.2.2.2.2] at A6
  go_enter Try.func23, Try.ntmps23
  go_wp2_with fail
  refine CN.out.mono ?_; rintro e w1 ⟨g, a, rfl, hF, hg, hb⟩
  have HF := Lib.hid hF
  clear hF CN
  go_wp2_with fail
  refine (A1.out g a _ HF.out).mono ?_; rintro e w2 ⟨v, rfl, hv, hb2⟩
  have HF := Lib.hid (HF.out.kept hb2)
  have hb := hb.trans (hb2.mono hb.size)
  have HV := Lib.hid hv
  clear hv hb2 A1
  go_wp2_with fail
  refine (dSameMv (HV.out.alloc _) (mv_lit (heap_alloc_new w2 _)) true (by decide)).mono ?_; rintro e w3 ⟨rfl, hb3⟩
  have hba := (Below.refl w2.heap.size w2).alloc (Nat.le_refl _) (.cells #[.int .i64 2, .int .i64 2] 43)
  have HF := Lib.hid ((HF.out.kept hba).kept hb3)
  have hb := (hb.trans (hba.mono hb.size)).trans (hb3.mono (by have := hb.size; simp; omega))
  clear hba hb3 HV
  go_wp2_with fail
  refine (A2.out g a _ HF.out).mono ?_; rintro e w4 ⟨v2, rfl, hv, hb4⟩
  have HF := Lib.hid (HF.out.kept hb4)
  have hb := hb.trans (hb4.mono hb.size)
  have HV := Lib.hid hv
  clear hv hb4 A2
  go_wp2_with fail
  refine (dSameMv (HV.out.alloc _) (mv_lit (heap_alloc_new w4 _)) true (by decide)).mono ?_; rintro e w5 ⟨rfl, hb5⟩
  have hba := (Below.refl w4.heap.size w4).alloc (Nat.le_refl _) (.cells #[.int .i64 2, .int .i64 3] 43)
  have HF := Lib.hid ((HF.out.kept hba).kept hb5)
  have hb := (hb.trans (hba.mono hb.size)).trans (hb5.mono (by have := hb.size; simp; omega))
  clear hba hb5 HV
  go_wp2_with fail
  refine (A3.out g a _ HF.out).mono ?_; rintro e w6 ⟨v3, rfl, ⟨p3, c3, rfl, -⟩, hb6⟩
  have HF := Lib.hid (HF.out.kept hb6)
  have hb := hb.trans (hb6.mono hb.size)
  clear hb6 A3
  go_wp2_with fail
  refine (A4.out g a _ HF.out).mono ?_; rintro e w7 ⟨v4, rfl, ⟨p4, c4, rfl, -⟩, hb7⟩
  have HF := Lib.hid (HF.out.kept hb7)
  have hb := hb.trans (hb7.mono hb.size)
  clear hb7 A4
  go_wp2_with fail
  refine (A5.out g a _ HF.out).mono ?_; rintro e w8 ⟨v5, rfl, ⟨p5, c5, rfl, -⟩, hb8⟩
  have HF := Lib.hid (HF.out.kept hb8)
  have hb := hb.trans (hb8.mono hb.size)
  clear hb8 A5
  go_wp2_with fail
  refine (A6.out g a _ HF.out).mono ?_; rintro e w9 ⟨v6, rfl, ⟨p6, c6, rfl, -⟩, hb9⟩
  have hb := hb.trans (hb9.mono hb.size)
  clear hb9 A6
  go_wp2_with fail
  go_ret
  exact ⟨rfl, hb⟩
set_option maxHeartbeats 3200000 in
theorem nearall_walk (L : List UInt8) (n : Nat) (win most : Int) (w : World) (hn : L.length = n) (hL : n ≤ 120) (hw : win ≤ 9223372036854775807) (hm : most ≤ 9223372036854775807) :
    Calls Try.prog 7 #[.string (sM L), .int .i64 win, .int .i64 most] w fun e w' => e = .returned (.bool true) ∧ Below w.heap.size w w' := by
  have hS : (sM L).size = n := by rw [sM_size, hn]
  have hl : ¬ (120 : Int) < n := by omega
  have CN := Lib.hid (cNew L w (by omega))
  have CA := Lib.hid (fun g a i W hF => cAtZ g L a i win most W hF (by omega))
  have DA := Lib.hid (fun i W => dAtZ L i win most W (by omega) hw hm)
  clear hw hm hn
  go_enter Try.func7, Try.ntmps7
  go_wp2_with fail
  refine CN.out.mono ?_; rintro e w1 ⟨g, a, rfl, hF, hg, hb⟩
  have HF := Lib.hid hF
  have HB := Lib.hid hb
  clear hF hb hg CN
  go_wp2_with fail
  go_loopw [8] (fun iv wr => ∃ (k : Nat), k ≤ n + 2 ∧ iv = .int .i64 ((k : Int) - 1) ∧ Hid (Below w1.heap.size w1 wr)) (fun iv _ => (n + 2 - (intOf iv + 1).toNat))
  case atStart => exact ⟨0, by omega, rfl, Lib.hid (Below.refl _ _)⟩
  case round =>
    obtain ⟨k, hk, rfl, HQ⟩ := hrel
    obtain ⟨i, hi⟩ : ∃ i : Int, (k : Int) - 1 = i := ⟨_, rfl⟩
    have HI := Lib.hid hi
    rw [hi]
    clear hi
    by_cases hlt : k ≤ n + 1
    · have hin : i ≤ (n : Int) := by have := HI.out; omega
      have hib : -1 ≤ i ∧ i ≤ 120 := by have := HI.out; omega
      go_wp2_with fail
      refine (CA.out g a i _ (HF.out.kept HQ.out)).mono ?_; rintro e w2 ⟨v, rfl, hv, hb2⟩
      have HV := Lib.hid hv
      have HQ2 := Lib.hid (HQ.out.trans (hb2.mono HQ.out.size))
      clear hv hb2
      go_wp2_with fail
      refine (DA.out i _).mono ?_; rintro e w3 ⟨u, rfl, hu, hb3⟩
      have HV := Lib.hid (HV.out.kept hb3)
      have HU := Lib.hid hu
      have HQ3 := Lib.hid (HQ2.out.trans (hb3.mono HQ2.out.size))
      clear hu hb3 HQ2
      go_wp2_with fail
      refine (dSameMv HV.out HU.out true (by simp)).mono ?_; rintro e w4 ⟨rfl, hb4⟩
      have HQ4 := Lib.hid (HQ3.out.trans (hb4.mono HQ3.out.size))
      clear hb4 HQ3
      go_wp2_with fail
      go_roundw
      case rel => exact ⟨k + 1, by omega, by have := HI.out; go_num, HQ4⟩
      case measure => have := HI.out; simp [intOf]; omega
    · have hin : ¬ i ≤ (n : Int) := by have := HI.out; omega
      have HBF := Lib.hid (HB.out.trans (HQ.out.mono HB.out.size))
      go_wp2_with fail
      refine (awake21 _).mono ?_; rintro e w7 ⟨rfl, hb7⟩
      have hb := HBF.out.trans (hb7.mono HBF.out.size)
      clear hb7
      go_wp2_with fail
      go_ret
      exact ⟨rfl, hb⟩
theorem nearnone_walk (i win most : Int) (w : World) : Calls Try.prog 9 #[.int .i64 i, .int .i64 win, .int .i64 most] w fun e w' => e = .returned (.bool true) ∧ Below w.heap.size w w' := by
  have CA := Lib.hid (fun W => cAtNone i win most W)
  go_enter Try.func9, Try.ntmps9
  go_wp2_with fail
  refine (CA.out _).mono ?_; rintro e w1 ⟨rfl, rfl⟩
  go_wp2_with fail
  refine (awake21 _).mono ?_; rintro e w7 ⟨rfl, hb7⟩
  go_wp2_with fail
  go_ret
  exact ⟨rfl, hb7⟩
end Go.Proofs.Ytpkidedepcnoaaa
