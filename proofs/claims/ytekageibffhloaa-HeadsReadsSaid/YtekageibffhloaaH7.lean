/- Layer 31: Read, of a head with a dictionary. -/
import Derived.Test.YtekageibffhloaaH5
namespace Go.Proofs.Ytekageibffhloaa
open Go.ChangeShapes Go.WideShapes Go.ChangeAt Go.RowKit
set_option linter.unusedVariables false
set_option maxRecDepth 100000
theorem or_hi (x y k : Nat) (hx : x < 2 ^ k) (hk : k < 32) (h : y * 2 ^ k < 4294967296) (z : Int) (hz : z = ((y * 2 ^ k : Nat) : Int)) : bits .or .u32 (x : Int) z = ((x + y * 2 ^ k : Nat) : Int) := by
  subst hz
  have hx2 : x < 2 ^ 32 := Nat.lt_of_lt_of_le hx (Nat.pow_le_pow_right (by decide) (by omega))
  have h1 := (bits_nat .u32 32 (by decide) (fun n h1 h2 => by first | exact IntWalk.u32_in n (by omega) | (unfold IntKind.wrap; simp; omega)) x (y * 2 ^ k) hx2 h).2
  rw [h1]
  congr 1
  have h2 := Nat.two_pow_add_eq_or_of_lt hx y
  rw [Nat.or_comm, Nat.mul_comm y, ← h2]; omega
theorem or_four (B C D F : Nat) (hB : B < 256) (hC : C < 256) (hD : D < 256) (hF : F < 256) :
    bits .or .u32 (bits .or .u32 (bits .or .u32 (B : Int) ((C : Int) * 256)) ((D : Int) * 65536)) ((F : Int) * 16777216) = ((B + C * 256 + D * 65536 + F * 16777216 : Nat) : Int) := by
  rw [or_hi B C 8 (by omega) (by decide) (by omega) _ (by simp)]
  rw [or_hi (B + C * 2 ^ 8) D 16 (by omega) (by decide) (by omega) _ (by simp)]
  rw [or_hi (B + C * 2 ^ 8 + D * 2 ^ 16) F 24 (by omega) (by decide) (by omega) _ (by simp)]
set_option maxHeartbeats 3200000 in
theorem hReadYes (a : UInt8) (A : Nat) (hA : a.toNat = A) (b c d f : UInt8) (B C D F : Nat) (hB : b.toNat = B) (hC : c.toNat = C) (hD : d.toNat = D) (hF : f.toNat = F) (u t r : List UInt8) (htt : t = b :: c :: d :: f :: u) (hr : r = a :: t) (ht : t.length ≤ 996) (h : 32 ≤ A ∧ A < 64 ∧ 15 ≤ A % 32 ∧ A % 32 ≤ 26) (w : World) : Calls Try.prog 40 #[.string (sB (71 :: 76 :: 68 :: 49 :: r))] w fun e w' => e = .returned (.tuple #[hV ((A : Int) % 32) true ((B + C * 256 + D * 65536 + F * 16777216 : Nat) : Int), .string (sB u), .int .i64 0]) ∧ Below w.heap.size w w' := by
  have hl : r.length ≤ 1000 := by rw [hr]; simp; omega
  have n0 : 0 < (sB t).size := by rw [sB_size, htt]; simp
  have n1 : 1 < (sB t).size := by rw [sB_size, htt]; simp
  have n2 : 2 < (sB t).size := by rw [sB_size, htt]; simp
  have n3 : 3 < (sB t).size := by rw [sB_size, htt]; simp
  have n4 : 4 ≤ (sB t).size := by rw [sB_size, htt]; simp
  have n5 : (sB t).size ≤ 2000 := by rw [sB_size]; omega
  have i0 : ((sB t)[0]'n0).toNat = B := by rw [sB_get _ 0 (by rw [htt]; simp) n0, htt, ← hB]; rfl
  have i1 : ((sB t)[1]'n1).toNat = C := by rw [sB_get _ 1 (by rw [htt]; simp) n1, htt, ← hC]; rfl
  have i2 : ((sB t)[2]'n2).toNat = D := by rw [sB_get _ 2 (by rw [htt]; simp) n2, htt, ← hD]; rfl
  have i3 : ((sB t)[3]'n3).toNat = F := by rw [sB_get _ 3 (by rw [htt]; simp) n3, htt, ← hF]; rfl
  have mU : (sB t).extract 4 (sB t).size = sB u := by rw [sB_drop, htt]; rfl
  have hT4 : decide (((sB t).size : Int) < 4) = false := by simp; omega
  have hB8 : B < 256 := by rw [← hB]; exact b.toNat_lt
  have hC8 : C < 256 := by rw [← hC]; exact c.toNat_lt
  have hD8 : D < 256 := by rw [← hD]; exact d.toNat_lt
  have hF8 : F < 256 := by rw [← hF]; exact f.toNat_lt
  have hm : (sB (71 :: 76 :: 68 :: 49 :: r)).size ≤ 2000 := by rw [sB_size]; simp; omega
  have j4 : 4 ≤ (sB (71 :: 76 :: 68 :: 49 :: r)).size := by rw [sB_size]; simp
  have j0 : 0 < (sB (71 :: 76 :: 68 :: 49 :: r)).size := by omega
  have j1 : 1 < (sB (71 :: 76 :: 68 :: 49 :: r)).size := by omega
  have j2 : 2 < (sB (71 :: 76 :: 68 :: 49 :: r)).size := by omega
  have j3 : 3 < (sB (71 :: 76 :: 68 :: 49 :: r)).size := by omega
  have y0 : ((0 : Int) == ((sB (71 :: 76 :: 68 :: 49 :: r)).size : Int)) = false := by rw [beq_eq_false_iff_ne]; omega
  have y1 : ((1 : Int) == ((sB (71 :: 76 :: 68 :: 49 :: r)).size : Int)) = false := by rw [beq_eq_false_iff_ne]; omega
  have y2 : ((2 : Int) == ((sB (71 :: 76 :: 68 :: 49 :: r)).size : Int)) = false := by rw [beq_eq_false_iff_ne]; omega
  have y3 : ((3 : Int) == ((sB (71 :: 76 :: 68 :: 49 :: r)).size : Int)) = false := by rw [beq_eq_false_iff_ne]; omega
  have u0 : ((sB (71 :: 76 :: 68 :: 49 :: r))[0]'j0).toNat = 71 := by rw [sB_get _ 0 (by simp) j0]; rfl
  have u1 : ((sB (71 :: 76 :: 68 :: 49 :: r))[1]'j1).toNat = 76 := by rw [sB_get _ 1 (by simp) j1]; rfl
  have u2 : ((sB (71 :: 76 :: 68 :: 49 :: r))[2]'j2).toNat = 68 := by rw [sB_get _ 2 (by simp) j2]; rfl
  have u3 : ((sB (71 :: 76 :: 68 :: 49 :: r))[3]'j3).toNat = 49 := by rw [sB_get _ 3 (by simp) j3]; rfl
  have hT : (sB (71 :: 76 :: 68 :: 49 :: r)).extract 4 (sB (71 :: 76 :: 68 :: 49 :: r)).size = sB r := by rw [sB_drop]; rfl
  obtain ⟨S, hS⟩ : ∃ S, sB (71 :: 76 :: 68 :: 49 :: r) = S := ⟨_, rfl⟩
  simp only [hS] at *
  clear hS
  subst hr
  clear hl
  have m0 : 0 < (sB (a :: t)).size := by rw [sB_size]; simp
  have m0b : 0 < (sB (a :: t)).size := m0
  have m0c : 1 ≤ (sB (a :: t)).size := m0
  have mm : (sB (a :: t)).size ≤ 2000 := by rw [sB_size]; simp; omega
  have me := sB_ne a t
  have mT : (sB (a :: t)).extract 1 (sB (a :: t)).size = sB t := by rw [sB_drop]; rfl
  have mA : ((sB (a :: t))[0]'m0).toNat = A := by rw [sB_get _ 0 (by simp) m0, ← hA]; rfl
  have hA8 : A < 256 := by rw [← hA]; exact a.toNat_lt
  have z1 : IntKind.i64.wrap ((A : Int) % 32) = (A : Int) % 32 := IntWalk.i64_in _ (by omega)
  obtain ⟨R, hR⟩ : ∃ R, sB (a :: t) = R := ⟨_, rfl⟩
  simp only [hR] at *
  clear hR hA
  clear ht htt hB hC hD hF
  obtain ⟨T, hTt⟩ : ∃ T, sB t = T := ⟨_, rfl⟩
  have n0' := n0; have n1' := n1; have n2' := n2; have n3' := n3
  simp only [hTt] at *
  clear hTt
  obtain ⟨h0, h1, h2, h3⟩ := h
  have d1 : decide (64 ≤ (A : Int)) = false := by simp; omega
  have d3 : decide ((A : Int) % 32 < 15) = false := by simp; omega
  have d4 : decide (26 < (A : Int) % 32) = false := by simp; omega
  have d5 : ((A : Int) / 32 == 1) = true := by rw [beq_iff_eq]; omega
  have e8 : IntKind.i64.wrap 8 = 8 := by decide
  have e0 : IntKind.i64.wrap 0 = 0 := by decide
  have e16 : IntKind.i64.wrap 16 = 16 := by decide
  have e24 : IntKind.i64.wrap 24 = 24 := by decide
  have HOR := Lib.hid (or_four B C D F hB8 hC8 hD8 hF8)
  have o1 : bits .or .u32 0 (B : Int) = B := by
    have h := (bits_nat .u32 32 (by decide) (fun n h1 h2 => by first | exact IntWalk.u32_in n (by omega) | (unfold IntKind.wrap; simp; omega)) 0 B (by omega) (by omega)).2
    simpa using h
  go_enter Try.func40, Try.ntmps40
  go_wp2
  refine wp_loop_rounds 5 ?_
  rw [rounds_succ]
  go_wp2
  go_region
  go_wp2
  rw [rounds_succ]
  go_wp2
  go_region
  go_wp2
  rw [rounds_succ]
  go_wp2
  go_region
  go_wp2
  rw [rounds_succ]
  go_wp2
  go_region
  go_wp2
  rw [rounds_succ]
  go_wp2
  go_region
  go_wp2
  refine wp_loop_rounds 5 ?_
  rw [rounds_succ]
  go_wp2
  go_region
  go_wp2
  rw [rounds_succ]
  go_wp2
  go_region
  go_wp2
  rw [rounds_succ]
  go_wp2
  go_region
  go_wp2
  rw [rounds_succ]
  go_wp2
  go_region
  go_wp2
  rw [rounds_succ]
  go_wp2
  go_region
  go_wp2
  rw [HOR.out]
  exact bodyPost_ret (v := .tuple #[hV ((A : Int) % 32) true ((B + C * 256 + D * 65536 + F * 16777216 : Nat) : Int), .string (sB u), .int .i64 0]) (by simp [results, Try.results40, go_sem]) rfl ⟨rfl, (((((((((((Below.refl _ _).alloc (Nat.le_refl _) _).alloc (by simp) _).drew).drew).drew).drew).drew).drew).drew).drew).drew.drew⟩
end Go.Proofs.Ytekageibffhloaa
