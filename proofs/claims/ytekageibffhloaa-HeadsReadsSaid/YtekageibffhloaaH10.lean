/- Layer 31, the document's Read. -/
import Derived.Test.YtekageibffhloaaH7
namespace Go.Proofs.Ytekageibffhloaa
open Go.ChangeShapes Go.WideShapes Go.ChangeAt Go.RowKit
set_option linter.unusedVariables false
set_option maxRecDepth 100000
set_option maxHeartbeats 3200000 in
theorem dReadPre (l : List UInt8) (hl : l.length ≤ 2000) (E : Int) (hp : pre l = E) (h0 : E ≠ 0) (w : World) : Calls Try.prog 41 #[.string (sB l)] w fun e w' => e = .returned (.tuple #[hV 0 false 0, .string (sB []), .int .i64 E]) ∧ Below w.heap.size w w' := by
  have hm : (sB l).size ≤ 2000 := by rw [sB_size]; exact hl
  have HZ := Lib.hid (sB_size l)
  have HG := Lib.hid (fun k h h2 => sB_get l k h h2)
  have HN := Lib.hid name_at
  have HP := Lib.hid hp
  clear hp
  go_enter Try.func41, Try.ntmps41
  go_wp2
  go_loopw [5] (fun i wr => ∃ k : Nat, k ≤ 4 ∧ k ≤ l.length ∧ i = .int .i64 k ∧ Hid (PreR l k) ∧ ∃ q, wr = (w.alloc (.cells #[.int .i64 0, .bool false, .int .u32 0] 53)).drewN q) (fun i _ => 4 - (intOf i).toNat)
  case atStart => exact ⟨0, Nat.zero_le _, Nat.zero_le _, rfl, Lib.hid rfl, 0, rfl⟩
  case round =>
    obtain ⟨k, hk, hkl, rfl, hpr, q, rfl⟩ := hrel
    by_cases hk4 : k < 4
    · by_cases hlt : k < l.length
      · have h2 : k < (sB l).size := by rw [HZ.out]; exact hlt
        have hne : decide ((sB l).size ≤ k) = false := by simp; omega
        have hne2 : ¬ (sB l).size ≤ k := by omega
        have hg := HG.out k hlt h2
        have hgt : ((sB l)[k]'h2).toNat = (l.getD k 0).toNat := by rw [hg]
        have hn4 : k < (ByteArray.mk #[71, 76, 68, 49]).size := hk4
        have hnt : ((ByteArray.mk #[71, 76, 68, 49])[k]'hn4).toNat = (nameB.getD k 0).toNat := by rw [HN.out k hk4 hn4]
        obtain ⟨X, hX⟩ : ∃ X, (l.getD k 0).toNat = X := ⟨_, rfl⟩
        obtain ⟨Y, hY⟩ : ∃ Y, (nameB.getD k 0).toNat = Y := ⟨_, rfl⟩
        rw [hX] at hgt
        rw [hY] at hnt
        by_cases hxy : X = Y
        · have hb : ((X : Int) != (Y : Int)) = false := by rw [bne_eq_false_iff_eq]; omega
          have HS := Lib.hid (pre_step l k hk4 hlt hpr.out (UInt8.toNat_inj.1 (by rw [hX, hY, hxy])))
          clear hX hY hg
          subst hxy
          go_wp2
          go_region
          all_goals
            go_wp2
            go_roundw
            case rel => exact ⟨k + 1, by omega, by omega, by go_num, HS, _, rfl⟩
            case measure => simp [intOf]; omega
        · have hb : ((X : Int) != (Y : Int)) = true := by rw [bne_iff_ne]; omega
          have HS := Lib.hid (show E = 11 by rw [← HP.out]; exact pre_no l k hk4 hlt (fun e => hxy (by rw [← hX, ← hY, e])))
          clear hX hY hg
          go_wp2
          go_region
          all_goals
            go_wp2
            exact bodyPost_ret (v := .tuple #[hV 0 false 0, .string ⟨#[]⟩, .int .i64 11]) (by simp [results, Try.results41, go_sem]) rfl ⟨by rw [HS.out]; rfl, (((below_dn ((Below.refl _ _).alloc (Nat.le_refl _) _) _).setCell (p := ⟨w.heap.size, 0, none⟩) (Nat.le_refl _) _).setCell (p := ⟨w.heap.size, 1, none⟩) (Nat.le_refl _) _).setCell (p := ⟨w.heap.size, 2, none⟩) (Nat.le_refl _) _⟩
      · obtain rfl : k = l.length := by omega
        have hne : decide ((sB l).size ≤ l.length) = true := by have := HZ.out; simp; omega
        have hne2 : (sB l).size ≤ l.length := by have := HZ.out; omega
        have HS := Lib.hid (show E = 3 by rw [← HP.out]; exact pre_short l hk4 hpr.out)
        go_wp2
        exact bodyPost_ret (v := .tuple #[hV 0 false 0, .string ⟨#[]⟩, .int .i64 3]) (by simp [results, Try.results41, go_sem]) rfl ⟨by rw [HS.out]; rfl, (((below_dn ((Below.refl _ _).alloc (Nat.le_refl _) _) _).setCell (p := ⟨w.heap.size, 0, none⟩) (Nat.le_refl _) _).setCell (p := ⟨w.heap.size, 1, none⟩) (Nat.le_refl _) _).setCell (p := ⟨w.heap.size, 2, none⟩) (Nat.le_refl _) _⟩
    · obtain rfl : k = 4 := by omega
      exact absurd (by rw [← HP.out]; exact pre_yes l hpr.out) h0
set_option maxHeartbeats 3200000 in
theorem dReadEnd (r : List UInt8) (hr : r = []) (w : World) : Calls Try.prog 41 #[.string (sB (71 :: 76 :: 68 :: 49 :: r))] w fun e w' => e = .returned (.tuple #[hV 0 false 0, .string (sB []), .int .i64 3]) ∧ Below w.heap.size w w' := by
  have hl : r.length ≤ 1000 := by rw [hr]; simp
  have hm : (sB (71 :: 76 :: 68 :: 49 :: r)).size ≤ 2000 := by rw [sB_size]; simp; omega
  have j4 : 4 ≤ (sB (71 :: 76 :: 68 :: 49 :: r)).size := by rw [sB_size]; simp
  have j0 : 0 < (sB (71 :: 76 :: 68 :: 49 :: r)).size := by omega
  have j1 : 1 < (sB (71 :: 76 :: 68 :: 49 :: r)).size := by omega
  have j2 : 2 < (sB (71 :: 76 :: 68 :: 49 :: r)).size := by omega
  have j3 : 3 < (sB (71 :: 76 :: 68 :: 49 :: r)).size := by omega
  have y0 : decide (((sB (71 :: 76 :: 68 :: 49 :: r)).size : Int) ≤ 0) = false := decide_eq_false (by omega)
  have yn0 : decide ((sB (71 :: 76 :: 68 :: 49 :: r)).size ≤ 0) = false := decide_eq_false (by omega)
  have yp0 : ¬ ((sB (71 :: 76 :: 68 :: 49 :: r)).size : Int) ≤ 0 := by omega
  have y1 : decide (((sB (71 :: 76 :: 68 :: 49 :: r)).size : Int) ≤ 1) = false := decide_eq_false (by omega)
  have yn1 : decide ((sB (71 :: 76 :: 68 :: 49 :: r)).size ≤ 1) = false := decide_eq_false (by omega)
  have yp1 : ¬ ((sB (71 :: 76 :: 68 :: 49 :: r)).size : Int) ≤ 1 := by omega
  have y2 : decide (((sB (71 :: 76 :: 68 :: 49 :: r)).size : Int) ≤ 2) = false := decide_eq_false (by omega)
  have yn2 : decide ((sB (71 :: 76 :: 68 :: 49 :: r)).size ≤ 2) = false := decide_eq_false (by omega)
  have yp2 : ¬ ((sB (71 :: 76 :: 68 :: 49 :: r)).size : Int) ≤ 2 := by omega
  have y3 : decide (((sB (71 :: 76 :: 68 :: 49 :: r)).size : Int) ≤ 3) = false := decide_eq_false (by omega)
  have yn3 : decide ((sB (71 :: 76 :: 68 :: 49 :: r)).size ≤ 3) = false := decide_eq_false (by omega)
  have yp3 : ¬ ((sB (71 :: 76 :: 68 :: 49 :: r)).size : Int) ≤ 3 := by omega
  have ye : decide ((sB (71 :: 76 :: 68 :: 49 :: r)).size = 0) = false := decide_eq_false (by omega)
  have yf : ¬ (sB (71 :: 76 :: 68 :: 49 :: r)).size = 0 := by omega
  have yg : ¬ ((sB (71 :: 76 :: 68 :: 49 :: r)).size : Int) = 0 := by omega
  have u0 : ((sB (71 :: 76 :: 68 :: 49 :: r))[0]'j0).toNat = 71 := by rw [sB_get _ 0 (by simp) j0]; rfl
  have u1 : ((sB (71 :: 76 :: 68 :: 49 :: r))[1]'j1).toNat = 76 := by rw [sB_get _ 1 (by simp) j1]; rfl
  have u2 : ((sB (71 :: 76 :: 68 :: 49 :: r))[2]'j2).toNat = 68 := by rw [sB_get _ 2 (by simp) j2]; rfl
  have u3 : ((sB (71 :: 76 :: 68 :: 49 :: r))[3]'j3).toNat = 49 := by rw [sB_get _ 3 (by simp) j3]; rfl
  have y5 : decide (((sB (71 :: 76 :: 68 :: 49 :: r)).size : Int) < 5) = true := by rw [sB_size, hr]; rfl
  obtain ⟨S, hS⟩ : ∃ S, sB (71 :: 76 :: 68 :: 49 :: r) = S := ⟨_, rfl⟩
  simp only [hS] at *
  clear hS
  clear hr hl
  go_enter Try.func41, Try.ntmps41
  go_wp2
  refine wp_loop_rounds 5 ?_
  rw [rounds_succ]
  go_wp2
  go_region
  go_wp2
  rw [rounds_succ]
  go_wp2
  go_region
  go_wp2
  rw [rounds_succ]
  go_wp2
  go_region
  go_wp2
  rw [rounds_succ]
  go_wp2
  go_region
  go_wp2
  rw [rounds_succ]
  go_wp2
  exact bodyPost_ret (v := .tuple #[hV 0 false 0, .string ⟨#[]⟩, .int .i64 3]) (by simp [results, Try.results41, go_sem]) rfl ⟨rfl, ((Below.refl _ _).alloc (Nat.le_refl _) _).drew.drew.drew.drew⟩
set_option maxHeartbeats 3200000 in
theorem dReadWin (a : UInt8) (A : Nat) (hA : a.toNat = A) (t r : List UInt8) (hr : r = a :: t) (ht : t.length ≤ 996) (h : 64 ≤ A ∨ A % 32 < 15 ∨ 26 < A % 32) (w : World) : Calls Try.prog 41 #[.string (sB (71 :: 76 :: 68 :: 49 :: r))] w fun e w' => e = .returned (.tuple #[hV 0 false 0, .string (sB []), .int .i64 12]) ∧ Below w.heap.size w w' := by
  have hl : r.length ≤ 1000 := by rw [hr]; simp; omega
  have hm : (sB (71 :: 76 :: 68 :: 49 :: r)).size ≤ 2000 := by rw [sB_size]; simp; omega
  have j4 : 4 ≤ (sB (71 :: 76 :: 68 :: 49 :: r)).size := by rw [sB_size]; simp
  have j0 : 0 < (sB (71 :: 76 :: 68 :: 49 :: r)).size := by omega
  have j1 : 1 < (sB (71 :: 76 :: 68 :: 49 :: r)).size := by omega
  have j2 : 2 < (sB (71 :: 76 :: 68 :: 49 :: r)).size := by omega
  have j3 : 3 < (sB (71 :: 76 :: 68 :: 49 :: r)).size := by omega
  have y0 : decide (((sB (71 :: 76 :: 68 :: 49 :: r)).size : Int) ≤ 0) = false := decide_eq_false (by omega)
  have yn0 : decide ((sB (71 :: 76 :: 68 :: 49 :: r)).size ≤ 0) = false := decide_eq_false (by omega)
  have yp0 : ¬ ((sB (71 :: 76 :: 68 :: 49 :: r)).size : Int) ≤ 0 := by omega
  have y1 : decide (((sB (71 :: 76 :: 68 :: 49 :: r)).size : Int) ≤ 1) = false := decide_eq_false (by omega)
  have yn1 : decide ((sB (71 :: 76 :: 68 :: 49 :: r)).size ≤ 1) = false := decide_eq_false (by omega)
  have yp1 : ¬ ((sB (71 :: 76 :: 68 :: 49 :: r)).size : Int) ≤ 1 := by omega
  have y2 : decide (((sB (71 :: 76 :: 68 :: 49 :: r)).size : Int) ≤ 2) = false := decide_eq_false (by omega)
  have yn2 : decide ((sB (71 :: 76 :: 68 :: 49 :: r)).size ≤ 2) = false := decide_eq_false (by omega)
  have yp2 : ¬ ((sB (71 :: 76 :: 68 :: 49 :: r)).size : Int) ≤ 2 := by omega
  have y3 : decide (((sB (71 :: 76 :: 68 :: 49 :: r)).size : Int) ≤ 3) = false := decide_eq_false (by omega)
  have yn3 : decide ((sB (71 :: 76 :: 68 :: 49 :: r)).size ≤ 3) = false := decide_eq_false (by omega)
  have yp3 : ¬ ((sB (71 :: 76 :: 68 :: 49 :: r)).size : Int) ≤ 3 := by omega
  have ye : decide ((sB (71 :: 76 :: 68 :: 49 :: r)).size = 0) = false := decide_eq_false (by omega)
  have yf : ¬ (sB (71 :: 76 :: 68 :: 49 :: r)).size = 0 := by omega
  have yg : ¬ ((sB (71 :: 76 :: 68 :: 49 :: r)).size : Int) = 0 := by omega
  have u0 : ((sB (71 :: 76 :: 68 :: 49 :: r))[0]'j0).toNat = 71 := by rw [sB_get _ 0 (by simp) j0]; rfl
  have u1 : ((sB (71 :: 76 :: 68 :: 49 :: r))[1]'j1).toNat = 76 := by rw [sB_get _ 1 (by simp) j1]; rfl
  have u2 : ((sB (71 :: 76 :: 68 :: 49 :: r))[2]'j2).toNat = 68 := by rw [sB_get _ 2 (by simp) j2]; rfl
  have u3 : ((sB (71 :: 76 :: 68 :: 49 :: r))[3]'j3).toNat = 49 := by rw [sB_get _ 3 (by simp) j3]; rfl
  have y5 : decide (((sB (71 :: 76 :: 68 :: 49 :: r)).size : Int) < 5) = false := by rw [sB_size, hr]; simp; omega
  have j5 : 4 < (sB (71 :: 76 :: 68 :: 49 :: r)).size := by rw [sB_size, hr]; simp
  have j5b : 4 < (sB (71 :: 76 :: 68 :: 49 :: r)).size := j5
  have j5c : 5 ≤ (sB (71 :: 76 :: 68 :: 49 :: r)).size := j5
  have mA : ((sB (71 :: 76 :: 68 :: 49 :: r))[4]'j5).toNat = A := by rw [sB_get _ 4 (by rw [hr]; simp) j5, hr, ← hA]; rfl
  have mT : (sB (71 :: 76 :: 68 :: 49 :: r)).extract 5 (sB (71 :: 76 :: 68 :: 49 :: r)).size = sB t := by rw [sB_drop, hr]; rfl
  have hA8 : A < 256 := by rw [← hA]; exact a.toNat_lt
  obtain ⟨S, hS⟩ : ∃ S, sB (71 :: 76 :: 68 :: 49 :: r) = S := ⟨_, rfl⟩
  simp only [hS] at *
  clear hS
  clear hA hr hl
  clear ht
  by_cases c1 : 64 ≤ A
  · have d1 : decide (64 ≤ (A : Int)) = true := by simp; omega
    clear h
    go_enter Try.func41, Try.ntmps41
    go_wp2
    refine wp_loop_rounds 5 ?_
    rw [rounds_succ]
    go_wp2
    go_region
    go_wp2
    rw [rounds_succ]
    go_wp2
    go_region
    go_wp2
    rw [rounds_succ]
    go_wp2
    go_region
    go_wp2
    rw [rounds_succ]
    go_wp2
    go_region
    go_wp2
    rw [rounds_succ]
    go_wp2
    all_goals exact bodyPost_ret (v := .tuple #[hV 0 false 0, .string ⟨#[]⟩, .int .i64 12]) (by simp [results, Try.results41, go_sem]) rfl ⟨rfl, ((Below.refl _ _).alloc (Nat.le_refl _) _).drew.drew.drew.drew⟩
  · have d1 : decide (64 ≤ (A : Int)) = false := by simp; omega
    by_cases c2 : A % 32 < 15
    · have d3 : decide ((A : Int) % 32 < 15) = true := by simp; omega
      clear h
      go_enter Try.func41, Try.ntmps41
      go_wp2
      refine wp_loop_rounds 5 ?_
      rw [rounds_succ]
      go_wp2
      go_region
      go_wp2
      rw [rounds_succ]
      go_wp2
      go_region
      go_wp2
      rw [rounds_succ]
      go_wp2
      go_region
      go_wp2
      rw [rounds_succ]
      go_wp2
      go_region
      go_wp2
      rw [rounds_succ]
      go_wp2
      all_goals exact bodyPost_ret (v := .tuple #[hV 0 false 0, .string ⟨#[]⟩, .int .i64 12]) (by simp [results, Try.results41, go_sem]) rfl ⟨rfl, ((Below.refl _ _).alloc (Nat.le_refl _) _).drew.drew.drew.drew⟩
    · have c3 : 26 < A % 32 := by omega
      have d3 : decide ((A : Int) % 32 < 15) = false := by simp; omega
      have d4 : decide (26 < (A : Int) % 32) = true := by simp; omega
      clear h
      go_enter Try.func41, Try.ntmps41
      go_wp2
      refine wp_loop_rounds 5 ?_
      rw [rounds_succ]
      go_wp2
      go_region
      go_wp2
      rw [rounds_succ]
      go_wp2
      go_region
      go_wp2
      rw [rounds_succ]
      go_wp2
      go_region
      go_wp2
      rw [rounds_succ]
      go_wp2
      go_region
      go_wp2
      rw [rounds_succ]
      go_wp2
      all_goals exact bodyPost_ret (v := .tuple #[hV 0 false 0, .string ⟨#[]⟩, .int .i64 12]) (by simp [results, Try.results41, go_sem]) rfl ⟨rfl, ((Below.refl _ _).alloc (Nat.le_refl _) _).drew.drew.drew.drew⟩
set_option maxHeartbeats 3200000 in
theorem dReadNo (a : UInt8) (A : Nat) (hA : a.toNat = A) (t r : List UInt8) (hr : r = a :: t) (ht : t.length ≤ 996) (h : A < 32 ∧ 15 ≤ A % 32 ∧ A % 32 ≤ 26) (w : World) : Calls Try.prog 41 #[.string (sB (71 :: 76 :: 68 :: 49 :: r))] w fun e w' => e = .returned (.tuple #[hV ((A : Int) % 32) false 0, .string (sB t), .int .i64 0]) ∧ Below w.heap.size w w' := by
  have hl : r.length ≤ 1000 := by rw [hr]; simp; omega
  have hm : (sB (71 :: 76 :: 68 :: 49 :: r)).size ≤ 2000 := by rw [sB_size]; simp; omega
  have j4 : 4 ≤ (sB (71 :: 76 :: 68 :: 49 :: r)).size := by rw [sB_size]; simp
  have j0 : 0 < (sB (71 :: 76 :: 68 :: 49 :: r)).size := by omega
  have j1 : 1 < (sB (71 :: 76 :: 68 :: 49 :: r)).size := by omega
  have j2 : 2 < (sB (71 :: 76 :: 68 :: 49 :: r)).size := by omega
  have j3 : 3 < (sB (71 :: 76 :: 68 :: 49 :: r)).size := by omega
  have y0 : decide (((sB (71 :: 76 :: 68 :: 49 :: r)).size : Int) ≤ 0) = false := decide_eq_false (by omega)
  have yn0 : decide ((sB (71 :: 76 :: 68 :: 49 :: r)).size ≤ 0) = false := decide_eq_false (by omega)
  have yp0 : ¬ ((sB (71 :: 76 :: 68 :: 49 :: r)).size : Int) ≤ 0 := by omega
  have y1 : decide (((sB (71 :: 76 :: 68 :: 49 :: r)).size : Int) ≤ 1) = false := decide_eq_false (by omega)
  have yn1 : decide ((sB (71 :: 76 :: 68 :: 49 :: r)).size ≤ 1) = false := decide_eq_false (by omega)
  have yp1 : ¬ ((sB (71 :: 76 :: 68 :: 49 :: r)).size : Int) ≤ 1 := by omega
  have y2 : decide (((sB (71 :: 76 :: 68 :: 49 :: r)).size : Int) ≤ 2) = false := decide_eq_false (by omega)
  have yn2 : decide ((sB (71 :: 76 :: 68 :: 49 :: r)).size ≤ 2) = false := decide_eq_false (by omega)
  have yp2 : ¬ ((sB (71 :: 76 :: 68 :: 49 :: r)).size : Int) ≤ 2 := by omega
  have y3 : decide (((sB (71 :: 76 :: 68 :: 49 :: r)).size : Int) ≤ 3) = false := decide_eq_false (by omega)
  have yn3 : decide ((sB (71 :: 76 :: 68 :: 49 :: r)).size ≤ 3) = false := decide_eq_false (by omega)
  have yp3 : ¬ ((sB (71 :: 76 :: 68 :: 49 :: r)).size : Int) ≤ 3 := by omega
  have ye : decide ((sB (71 :: 76 :: 68 :: 49 :: r)).size = 0) = false := decide_eq_false (by omega)
  have yf : ¬ (sB (71 :: 76 :: 68 :: 49 :: r)).size = 0 := by omega
  have yg : ¬ ((sB (71 :: 76 :: 68 :: 49 :: r)).size : Int) = 0 := by omega
  have u0 : ((sB (71 :: 76 :: 68 :: 49 :: r))[0]'j0).toNat = 71 := by rw [sB_get _ 0 (by simp) j0]; rfl
  have u1 : ((sB (71 :: 76 :: 68 :: 49 :: r))[1]'j1).toNat = 76 := by rw [sB_get _ 1 (by simp) j1]; rfl
  have u2 : ((sB (71 :: 76 :: 68 :: 49 :: r))[2]'j2).toNat = 68 := by rw [sB_get _ 2 (by simp) j2]; rfl
  have u3 : ((sB (71 :: 76 :: 68 :: 49 :: r))[3]'j3).toNat = 49 := by rw [sB_get _ 3 (by simp) j3]; rfl
  have y5 : decide (((sB (71 :: 76 :: 68 :: 49 :: r)).size : Int) < 5) = false := by rw [sB_size, hr]; simp; omega
  have j5 : 4 < (sB (71 :: 76 :: 68 :: 49 :: r)).size := by rw [sB_size, hr]; simp
  have j5b : 4 < (sB (71 :: 76 :: 68 :: 49 :: r)).size := j5
  have j5c : 5 ≤ (sB (71 :: 76 :: 68 :: 49 :: r)).size := j5
  have mA : ((sB (71 :: 76 :: 68 :: 49 :: r))[4]'j5).toNat = A := by rw [sB_get _ 4 (by rw [hr]; simp) j5, hr, ← hA]; rfl
  have mT : (sB (71 :: 76 :: 68 :: 49 :: r)).extract 5 (sB (71 :: 76 :: 68 :: 49 :: r)).size = sB t := by rw [sB_drop, hr]; rfl
  have hA8 : A < 256 := by rw [← hA]; exact a.toNat_lt
  obtain ⟨S, hS⟩ : ∃ S, sB (71 :: 76 :: 68 :: 49 :: r) = S := ⟨_, rfl⟩
  simp only [hS] at *
  clear hS
  clear hA hr hl
  clear ht
  obtain ⟨h1, h2, h3⟩ := h
  have d1 : decide (64 ≤ (A : Int)) = false := by simp; omega
  have d3 : decide ((A : Int) % 32 < 15) = false := by simp; omega
  have d4 : decide (26 < (A : Int) % 32) = false := by simp; omega
  have d5 : decide ((A : Int) < 32) = true := by simp; omega
  go_enter Try.func41, Try.ntmps41
  go_wp2
  refine wp_loop_rounds 5 ?_
  rw [rounds_succ]
  go_wp2
  go_region
  go_wp2
  rw [rounds_succ]
  go_wp2
  go_region
  go_wp2
  rw [rounds_succ]
  go_wp2
  go_region
  go_wp2
  rw [rounds_succ]
  go_wp2
  go_region
  go_wp2
  rw [rounds_succ]
  go_wp2
  go_region
  all_goals go_wp2
  all_goals exact bodyPost_ret (v := .tuple #[hV ((A : Int) % 32) false 0, .string (sB t), .int .i64 0]) (by simp [results, Try.results41, go_sem]) rfl ⟨rfl, ((Below.refl _ _).alloc (Nat.le_refl _) _).drew.drew.drew.drew.drew⟩
set_option maxHeartbeats 3200000 in
theorem dReadShort (a : UInt8) (A : Nat) (hA : a.toNat = A) (t r : List UInt8) (hr : r = a :: t) (ht : t.length < 4) (h : 32 ≤ A ∧ A < 64 ∧ 15 ≤ A % 32 ∧ A % 32 ≤ 26) (w : World) : Calls Try.prog 41 #[.string (sB (71 :: 76 :: 68 :: 49 :: r))] w fun e w' => e = .returned (.tuple #[hV 0 false 0, .string (sB []), .int .i64 3]) ∧ Below w.heap.size w w' := by
  have hl : r.length ≤ 1000 := by rw [hr]; simp; omega
  have y9 : decide (((sB (71 :: 76 :: 68 :: 49 :: r)).size : Int) < 9) = true := by rw [sB_size, hr]; simp; omega
  have hm : (sB (71 :: 76 :: 68 :: 49 :: r)).size ≤ 2000 := by rw [sB_size]; simp; omega
  have j4 : 4 ≤ (sB (71 :: 76 :: 68 :: 49 :: r)).size := by rw [sB_size]; simp
  have j0 : 0 < (sB (71 :: 76 :: 68 :: 49 :: r)).size := by omega
  have j1 : 1 < (sB (71 :: 76 :: 68 :: 49 :: r)).size := by omega
  have j2 : 2 < (sB (71 :: 76 :: 68 :: 49 :: r)).size := by omega
  have j3 : 3 < (sB (71 :: 76 :: 68 :: 49 :: r)).size := by omega
  have y0 : decide (((sB (71 :: 76 :: 68 :: 49 :: r)).size : Int) ≤ 0) = false := decide_eq_false (by omega)
  have yn0 : decide ((sB (71 :: 76 :: 68 :: 49 :: r)).size ≤ 0) = false := decide_eq_false (by omega)
  have yp0 : ¬ ((sB (71 :: 76 :: 68 :: 49 :: r)).size : Int) ≤ 0 := by omega
  have y1 : decide (((sB (71 :: 76 :: 68 :: 49 :: r)).size : Int) ≤ 1) = false := decide_eq_false (by omega)
  have yn1 : decide ((sB (71 :: 76 :: 68 :: 49 :: r)).size ≤ 1) = false := decide_eq_false (by omega)
  have yp1 : ¬ ((sB (71 :: 76 :: 68 :: 49 :: r)).size : Int) ≤ 1 := by omega
  have y2 : decide (((sB (71 :: 76 :: 68 :: 49 :: r)).size : Int) ≤ 2) = false := decide_eq_false (by omega)
  have yn2 : decide ((sB (71 :: 76 :: 68 :: 49 :: r)).size ≤ 2) = false := decide_eq_false (by omega)
  have yp2 : ¬ ((sB (71 :: 76 :: 68 :: 49 :: r)).size : Int) ≤ 2 := by omega
  have y3 : decide (((sB (71 :: 76 :: 68 :: 49 :: r)).size : Int) ≤ 3) = false := decide_eq_false (by omega)
  have yn3 : decide ((sB (71 :: 76 :: 68 :: 49 :: r)).size ≤ 3) = false := decide_eq_false (by omega)
  have yp3 : ¬ ((sB (71 :: 76 :: 68 :: 49 :: r)).size : Int) ≤ 3 := by omega
  have ye : decide ((sB (71 :: 76 :: 68 :: 49 :: r)).size = 0) = false := decide_eq_false (by omega)
  have yf : ¬ (sB (71 :: 76 :: 68 :: 49 :: r)).size = 0 := by omega
  have yg : ¬ ((sB (71 :: 76 :: 68 :: 49 :: r)).size : Int) = 0 := by omega
  have u0 : ((sB (71 :: 76 :: 68 :: 49 :: r))[0]'j0).toNat = 71 := by rw [sB_get _ 0 (by simp) j0]; rfl
  have u1 : ((sB (71 :: 76 :: 68 :: 49 :: r))[1]'j1).toNat = 76 := by rw [sB_get _ 1 (by simp) j1]; rfl
  have u2 : ((sB (71 :: 76 :: 68 :: 49 :: r))[2]'j2).toNat = 68 := by rw [sB_get _ 2 (by simp) j2]; rfl
  have u3 : ((sB (71 :: 76 :: 68 :: 49 :: r))[3]'j3).toNat = 49 := by rw [sB_get _ 3 (by simp) j3]; rfl
  have y5 : decide (((sB (71 :: 76 :: 68 :: 49 :: r)).size : Int) < 5) = false := by rw [sB_size, hr]; simp; omega
  have j5 : 4 < (sB (71 :: 76 :: 68 :: 49 :: r)).size := by rw [sB_size, hr]; simp
  have j5b : 4 < (sB (71 :: 76 :: 68 :: 49 :: r)).size := j5
  have j5c : 5 ≤ (sB (71 :: 76 :: 68 :: 49 :: r)).size := j5
  have mA : ((sB (71 :: 76 :: 68 :: 49 :: r))[4]'j5).toNat = A := by rw [sB_get _ 4 (by rw [hr]; simp) j5, hr, ← hA]; rfl
  have mT : (sB (71 :: 76 :: 68 :: 49 :: r)).extract 5 (sB (71 :: 76 :: 68 :: 49 :: r)).size = sB t := by rw [sB_drop, hr]; rfl
  have hA8 : A < 256 := by rw [← hA]; exact a.toNat_lt
  obtain ⟨S, hS⟩ : ∃ S, sB (71 :: 76 :: 68 :: 49 :: r) = S := ⟨_, rfl⟩
  simp only [hS] at *
  clear hS
  clear hA hr hl
  clear ht
  obtain ⟨h0, h1, h2, h3⟩ := h
  have d1 : decide (64 ≤ (A : Int)) = false := by simp; omega
  have d3 : decide ((A : Int) % 32 < 15) = false := by simp; omega
  have d4 : decide (26 < (A : Int) % 32) = false := by simp; omega
  have d5 : decide ((A : Int) < 32) = false := by simp; omega
  go_enter Try.func41, Try.ntmps41
  go_wp2
  refine wp_loop_rounds 5 ?_
  rw [rounds_succ]
  go_wp2
  go_region
  go_wp2
  rw [rounds_succ]
  go_wp2
  go_region
  go_wp2
  rw [rounds_succ]
  go_wp2
  go_region
  go_wp2
  rw [rounds_succ]
  go_wp2
  go_region
  go_wp2
  rw [rounds_succ]
  go_wp2
  all_goals exact bodyPost_ret (v := .tuple #[hV 0 false 0, .string ⟨#[]⟩, .int .i64 3]) (by simp [results, Try.results41, go_sem]) rfl ⟨rfl, ((Below.refl _ _).alloc (Nat.le_refl _) _).drew.drew.drew.drew⟩
set_option maxHeartbeats 3200000 in
theorem dReadYes (a : UInt8) (A : Nat) (hA : a.toNat = A) (b c d f : UInt8) (B C D F : Nat) (hB : b.toNat = B) (hC : c.toNat = C) (hD : d.toNat = D) (hF : f.toNat = F) (u t r : List UInt8) (htt : t = b :: c :: d :: f :: u) (hr : r = a :: t) (ht : t.length ≤ 996) (h : 32 ≤ A ∧ A < 64 ∧ 15 ≤ A % 32 ∧ A % 32 ≤ 26) (w : World) : Calls Try.prog 41 #[.string (sB (71 :: 76 :: 68 :: 49 :: r))] w fun e w' => e = .returned (.tuple #[hV ((A : Int) % 32) true ((B + C * 256 + D * 65536 + F * 16777216 : Nat) : Int), .string (sB u), .int .i64 0]) ∧ Below w.heap.size w w' := by
  have hl : r.length ≤ 1000 := by rw [hr]; simp; omega
  have y9 : decide (((sB (71 :: 76 :: 68 :: 49 :: r)).size : Int) < 9) = false := by rw [sB_size, hr, htt]; simp; omega
  have j9 : 9 ≤ (sB (71 :: 76 :: 68 :: 49 :: r)).size := by rw [sB_size, hr, htt]; simp
  have j9i : (9 : Int) ≤ ((sB (71 :: 76 :: 68 :: 49 :: r)).size : Int) := by omega
  have mN : (sB (71 :: 76 :: 68 :: 49 :: r)).extract 5 9 = sB [b, c, d, f] := by rw [sB_cut, hr, htt]; rfl
  have mU : (sB (71 :: 76 :: 68 :: 49 :: r)).extract 9 (sB (71 :: 76 :: 68 :: 49 :: r)).size = sB u := by rw [sB_drop, hr, htt]; rfl
  have N1 : Hid (∀ W, Calls Try.prog 72 #[.string (sB [b, c, d, f])] W fun e w' => e = .returned (.int .i64 ((B + C * 256 + D * 65536 + F * 16777216 : Nat) : Int)) ∧ w' = W) := Lib.hid (fun W => by
    have := dNumber [b, c, d, f] (by simp) W
    rw [show num [b, c, d, f] = B + C * 256 + D * 65536 + F * 16777216 by simp [num, hB, hC, hD, hF]; omega] at this
    exact this)
  have hB8 : B < 256 := by rw [← hB]; exact b.toNat_lt
  have hC8 : C < 256 := by rw [← hC]; exact c.toNat_lt
  have hD8 : D < 256 := by rw [← hD]; exact d.toNat_lt
  have hF8 : F < 256 := by rw [← hF]; exact f.toNat_lt
  have hm : (sB (71 :: 76 :: 68 :: 49 :: r)).size ≤ 2000 := by rw [sB_size]; simp; omega
  have j4 : 4 ≤ (sB (71 :: 76 :: 68 :: 49 :: r)).size := by rw [sB_size]; simp
  have j0 : 0 < (sB (71 :: 76 :: 68 :: 49 :: r)).size := by omega
  have j1 : 1 < (sB (71 :: 76 :: 68 :: 49 :: r)).size := by omega
  have j2 : 2 < (sB (71 :: 76 :: 68 :: 49 :: r)).size := by omega
  have j3 : 3 < (sB (71 :: 76 :: 68 :: 49 :: r)).size := by omega
  have y0 : decide (((sB (71 :: 76 :: 68 :: 49 :: r)).size : Int) ≤ 0) = false := decide_eq_false (by omega)
  have yn0 : decide ((sB (71 :: 76 :: 68 :: 49 :: r)).size ≤ 0) = false := decide_eq_false (by omega)
  have yp0 : ¬ ((sB (71 :: 76 :: 68 :: 49 :: r)).size : Int) ≤ 0 := by omega
  have y1 : decide (((sB (71 :: 76 :: 68 :: 49 :: r)).size : Int) ≤ 1) = false := decide_eq_false (by omega)
  have yn1 : decide ((sB (71 :: 76 :: 68 :: 49 :: r)).size ≤ 1) = false := decide_eq_false (by omega)
  have yp1 : ¬ ((sB (71 :: 76 :: 68 :: 49 :: r)).size : Int) ≤ 1 := by omega
  have y2 : decide (((sB (71 :: 76 :: 68 :: 49 :: r)).size : Int) ≤ 2) = false := decide_eq_false (by omega)
  have yn2 : decide ((sB (71 :: 76 :: 68 :: 49 :: r)).size ≤ 2) = false := decide_eq_false (by omega)
  have yp2 : ¬ ((sB (71 :: 76 :: 68 :: 49 :: r)).size : Int) ≤ 2 := by omega
  have y3 : decide (((sB (71 :: 76 :: 68 :: 49 :: r)).size : Int) ≤ 3) = false := decide_eq_false (by omega)
  have yn3 : decide ((sB (71 :: 76 :: 68 :: 49 :: r)).size ≤ 3) = false := decide_eq_false (by omega)
  have yp3 : ¬ ((sB (71 :: 76 :: 68 :: 49 :: r)).size : Int) ≤ 3 := by omega
  have ye : decide ((sB (71 :: 76 :: 68 :: 49 :: r)).size = 0) = false := decide_eq_false (by omega)
  have yf : ¬ (sB (71 :: 76 :: 68 :: 49 :: r)).size = 0 := by omega
  have yg : ¬ ((sB (71 :: 76 :: 68 :: 49 :: r)).size : Int) = 0 := by omega
  have u0 : ((sB (71 :: 76 :: 68 :: 49 :: r))[0]'j0).toNat = 71 := by rw [sB_get _ 0 (by simp) j0]; rfl
  have u1 : ((sB (71 :: 76 :: 68 :: 49 :: r))[1]'j1).toNat = 76 := by rw [sB_get _ 1 (by simp) j1]; rfl
  have u2 : ((sB (71 :: 76 :: 68 :: 49 :: r))[2]'j2).toNat = 68 := by rw [sB_get _ 2 (by simp) j2]; rfl
  have u3 : ((sB (71 :: 76 :: 68 :: 49 :: r))[3]'j3).toNat = 49 := by rw [sB_get _ 3 (by simp) j3]; rfl
  have y5 : decide (((sB (71 :: 76 :: 68 :: 49 :: r)).size : Int) < 5) = false := by rw [sB_size, hr]; simp; omega
  have j5 : 4 < (sB (71 :: 76 :: 68 :: 49 :: r)).size := by rw [sB_size, hr]; simp
  have j5b : 4 < (sB (71 :: 76 :: 68 :: 49 :: r)).size := j5
  have j5c : 5 ≤ (sB (71 :: 76 :: 68 :: 49 :: r)).size := j5
  have mA : ((sB (71 :: 76 :: 68 :: 49 :: r))[4]'j5).toNat = A := by rw [sB_get _ 4 (by rw [hr]; simp) j5, hr, ← hA]; rfl
  have mT : (sB (71 :: 76 :: 68 :: 49 :: r)).extract 5 (sB (71 :: 76 :: 68 :: 49 :: r)).size = sB t := by rw [sB_drop, hr]; rfl
  have hA8 : A < 256 := by rw [← hA]; exact a.toNat_lt
  obtain ⟨S, hS⟩ : ∃ S, sB (71 :: 76 :: 68 :: 49 :: r) = S := ⟨_, rfl⟩
  simp only [hS] at *
  clear hS
  clear hA hr hl
  clear ht htt hB hC hD hF
  obtain ⟨Q, hQ⟩ : ∃ Q, sB [b, c, d, f] = Q := ⟨_, rfl⟩
  rw [hQ] at mN N1
  clear hQ
  obtain ⟨NN, hNN⟩ : ∃ NN, B + C * 256 + D * 65536 + F * 16777216 = NN := ⟨_, rfl⟩
  rw [hNN] at N1 ⊢
  have hNb : NN < 4294967296 := by omega
  have wN : IntKind.u32.wrap (NN : Int) = NN := IntWalk.u32_in _ (by omega)
  obtain ⟨h0, h1, h2, h3⟩ := h
  have d1 : decide (64 ≤ (A : Int)) = false := by simp; omega
  have d3 : decide ((A : Int) % 32 < 15) = false := by simp; omega
  have d4 : decide (26 < (A : Int) % 32) = false := by simp; omega
  have d5 : decide ((A : Int) < 32) = false := by simp; omega
  clear hNN hB8 hC8 hD8 hF8
  go_enter Try.func41, Try.ntmps41
  go_wp2
  refine wp_loop_rounds 5 ?_
  rw [rounds_succ]
  go_wp2
  go_region
  go_wp2
  rw [rounds_succ]
  go_wp2
  go_region
  go_wp2
  rw [rounds_succ]
  go_wp2
  go_region
  go_wp2
  rw [rounds_succ]
  go_wp2
  go_region
  go_wp2
  rw [rounds_succ]
  go_wp2
  go_region_with (go_at_call 72; (with_reducible refine (N1.out _).mono ?_); rintro e w3 ⟨rfl, rfl⟩)
  all_goals go_wp2_with fail
  all_goals exact bodyPost_ret (v := .tuple #[hV ((A : Int) % 32) true (NN : Int), .string (sB u), .int .i64 0]) (by simp [results, Try.results41, go_sem]) rfl ⟨rfl, ((Below.refl _ _).alloc (Nat.le_refl _) _).drew.drew.drew.drew.drew⟩
end Go.Proofs.Ytekageibffhloaa
