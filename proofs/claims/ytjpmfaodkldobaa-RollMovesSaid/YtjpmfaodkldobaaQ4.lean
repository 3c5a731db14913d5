/- Layer 42: the sum that moves along; what chapter 42 shows. -/
import Derived.Test.YtjpmfaodkldobaaQ3
namespace Go.Proofs.Ytjpmfaodkldobaa
open Go.ChangeShapes Go.WideShapes Go.ChangeAt Go.RowKit
set_option linter.unusedVariables false
set_option maxRecDepth 100000
open RollMath
def rollV (h a c : Int) (n : Nat) : Int := (257 * ((h + 2147483647 - (a + 1) * ((257 ^ (n - 1) % 2147483647 : Nat) : Int)) % 2147483647) + c + 1) % 2147483647
set_option maxHeartbeats 1600000 in
theorem rRoll (h : Nat) (a c : Int) (n : Nat) (hn : 1 ≤ n ∧ n ≤ 1048576) (hh : h < 2147483647) (ha : 0 ≤ a ∧ a < 256) (hc : 0 ≤ c ∧ c < 256) (w : World) :
    Calls Try.prog 39 #[.int .i64 h, .int .u8 a, .int .u8 c, .int .i64 n] w fun e w' => e = .returned (.tuple #[.int .i64 (rollV h a c n), .int .i64 0]) ∧ w' = w := by
  have CP := rPower (n - 1) (by omega) w
  have hPw : (257 ^ (n - 1) % 2147483647 : Nat) < 2147483647 := Nat.mod_lt _ (by decide)
  have HV : Hid (rollV h a c n = (257 * ((h + 2147483647 - (a + 1) * ((257 ^ (n - 1) % 2147483647 : Nat) : Int)) % 2147483647) + c + 1) % 2147483647) := rfl
  obtain ⟨Q, hQ⟩ : ∃ Q, 257 ^ (n - 1) % 2147483647 = Q := ⟨_, rfl⟩
  rw [hQ] at CP hPw HV
  have hm : 0 ≤ (a + 1) * (Q : Int) ∧ (a + 1) * (Q : Int) ≤ 549755813632 := by
    have h1 : (a + 1) * (Q : Int) ≤ 256 * (Q : Int) := Int.mul_le_mul_of_nonneg_right (by omega) (by omega)
    have h2 : 0 ≤ (a + 1) * (Q : Int) := Int.mul_nonneg (by omega) (by omega)
    omega
  have hn1 : ((n : Int) - 1) = ((n - 1 : Nat) : Int) := by omega
  obtain ⟨M, hM⟩ : ∃ M, (a + 1) * (Q : Int) = M := ⟨_, rfl⟩
  have HM := Lib.hid hM
  rw [hM] at hm HV
  have e2 : ((h : Int) + 2147483647 - M) % 2147483647 = ((((h : Int) + 2147483647 - M) % 2147483647).toNat : Int) := by omega
  have CW := rWith (((h : Int) + 2147483647 - M) % 2147483647).toNat c (by omega) hc w
  rw [← e2] at CW
  have hn2 : decide ((n : Int) < 1) = false := by simp; omega
  have CP_ := Lib.hid CP
  have CW_ := Lib.hid CW
  have hn1_ := Lib.hid hn1
  have e2_ := Lib.hid e2
  clear CP CW hn1 e2
  clear hQ hM
  go_enter Try.func39, Try.ntmps39
  go_wp2_with fail
  rw [hn1_.out]
  refine CP_.out.mono ?_; rintro e w1 ⟨rfl, rfl⟩
  rw [← hn1_.out]
  have hm2 := HM.out
  go_wp2_with fail
  refine CW_.out.mono ?_; rintro e w2 ⟨rfl, rfl⟩
  go_wp2_with fail
  go_ret2
  refine ⟨?_, rfl⟩
  show Ending.returned (.tuple #[.int .i64 _, .int .i64 0]) = _
  rw [HV.out]
theorem rRoll_neg (h a c n : Int) (hn : h < 0) (hn1 : 1 ≤ n ∧ n ≤ 1048576) (w : World) : Calls Try.prog 39 #[.int .i64 h, .int .u8 a, .int .u8 c, .int .i64 n] w fun e w' => e = .returned (.tuple #[.int .i64 0, .int .i64 1]) ∧ w' = w := by
  have h1 : decide (n < 1) = false := by simp; omega
  have h2 : decide (1048576 < n) = false := by simp; omega
  go_enter Try.func39, Try.ntmps39
  go_wp2
  go_ret2
  exact ⟨rfl, rfl⟩
theorem rollV_eq (a c : UInt8) (l : List UInt8) : rollV (hashL (a :: l)) a.toNat c.toNat (l.length + 1) = (hashL (l ++ [c]) : Nat) := by
  have h := roll_eq a c l _ rfl
  have hb := hashL_lt (a :: l)
  unfold rollV
  rw [← h, Nat.add_sub_cancel]
  have hP : P = 2147483647 := rfl
  rw [hP] at *
  generalize hashL (a :: l) = H at *
  generalize 257 ^ l.length % 2147483647 = Q at *
  have e : ((a.toNat : Int) + 1) * (Q : Int) = (((a.toNat + 1) * Q : Nat) : Int) := by
    rw [Int.natCast_mul]; rfl
  rw [e]
  generalize (a.toNat + 1) * Q = F at *
  omega
theorem hashT (s : ByteArray) (v : Int) (hs : s.size ≤ 1099511627776) (hv : (hashL s.data.toList : Nat) = v) (w : World) : Calls Try.prog 38 #[.string s] w fun e w' => e = .returned (.int .i64 v) ∧ w' = w := by subst hv; exact rHash s hs w
def TellsI (r : List Int) (w : World) (e : Ending) (w' : World) : Prop := ∃ v', e = .returned v' ∧ IsL w' v' r ∧ Below w.heap.size w w'
theorem findV_len (s p : ByteArray) (hs : s.size ≤ 1048576) : (findV s p).length ≤ 70368744177664 := by
  unfold findV findL
  split
  · have := findTo_len s.data.toList p.data.toList (s.data.toList.length + 1 - p.data.toList.length)
    rw [L_len] at this ⊢; omega
  · simp
theorem findT (s p : ByteArray) (r : List Int) (hs : s.size ≤ 1048576) (hp : p.size ≤ 1048576) (hr : findV s p = r) (w : World) : Calls Try.prog 41 #[.string s, .string p] w (TellsI r w) := by
  subst hr
  exact (rFind s p hs hp w).mono fun _ _ ⟨v', h1, h2, h3⟩ => ⟨v', h1, h2.isL (findV_len s p hs), h3⟩
theorem dfindT (s p : ByteArray) (r : List Int) (hs : s.size ≤ 1048576) (hp : p.size ≤ 1048576) (hr : findV s p = r) (w : World) : Calls Try.prog 42 #[.string s, .string p] w (TellsI r w) := by
  subst hr
  exact (dFind s p hs hp w).mono fun _ _ ⟨v', h1, h2, h3⟩ => ⟨v', h1, h2.isL (findV_len s p hs), h3⟩
theorem litI (w : World) (zs : List Int) (t : Nat) (hl : zs.length ≤ 70368744177664) : IsInts (w.alloc (.cells (zs.map (Value.int .i64 ·)).toArray t)) (some ⟨w.heap.size, 0, none⟩) zs := IsInts.new w zs t (0, 0) hl
theorem litL (w : World) (zs : List Int) (t c : Nat) (hl : zs.length ≤ 70368744177664) : IsL (w.alloc (.cells (zs.map (Value.int .i64 ·)).toArray t)) (.slice (some ⟨w.heap.size, 0, none⟩) zs.length c) zs := ⟨_, _, rfl, litI w zs t hl⟩
theorem intsB {v u : Value} {l m : List Int} {w : World} (h1 : IsL w v l) (h2 : IsL w u m) (B : Bool) (hB : B = decide (l = m)) :
    Calls Try.prog 40 #[v, u] w fun e w' => e = .returned (.bool B) ∧ Below w.heap.size w w' :=
  (intsL h1 h2 B hB).mono fun _ _ ⟨h, n, hw⟩ => ⟨h, by rw [hw]; exact below_dn (Below.refl _ _) n⟩
def sB (l : List UInt8) : ByteArray := ⟨l.toArray⟩
theorem rollT (h a c n v : Int) (hv : rollV h a c n.toNat = v) (hn : 1 ≤ n ∧ n ≤ 1048576) (hh : 0 ≤ h ∧ h < 2147483647) (ha : 0 ≤ a ∧ a < 256) (hc : 0 ≤ c ∧ c < 256) (w : World) :
    Calls Try.prog 39 #[.int .i64 h, .int .u8 a, .int .u8 c, .int .i64 n] w fun e w' => e = .returned (.tuple #[.int .i64 v, .int .i64 0]) ∧ w' = w := by
  obtain ⟨H, rfl⟩ : ∃ H : Nat, h = H := ⟨h.toNat, by omega⟩
  obtain ⟨N, rfl⟩ : ∃ N : Nat, n = N := ⟨n.toNat, by omega⟩
  subst hv
  exact rRoll H a c N (by omega) (by omega) ha hc w
set_option maxHeartbeats 1600000 in
theorem awake42 (w : World) : Calls Try.prog 37 #[] w fun e w' => e = .returned (.bool true) ∧ Below w.heap.size w w' := by
  go_enter Try.func37, Try.ntmps37
  go_wp2_with fail
  refine (hashT _ 25285 (by decide) (by decide +kernel) _).mono ?_; rintro e w1 ⟨rfl, rfl⟩
  go_wp2_with fail
  refine (rollT _ 97 99 2 25543 (by decide +kernel) (by decide) (by decide) (by decide) (by decide) _).mono ?_; rintro e w2 ⟨rfl, rfl⟩
  go_wp2_with fail
  refine (rRoll_neg (-1) 97 99 2 (by decide) (by decide) _).mono ?_; rintro e w3 ⟨rfl, rfl⟩
  go_wp2_with fail
  refine (hashT _ 0 (by decide) (by decide +kernel) _).mono ?_; rintro e w4 ⟨rfl, rfl⟩
  go_wp2_with fail
  refine (hashT _ 98 (by decide) (by decide +kernel) _).mono ?_; rintro e w5 ⟨rfl, rfl⟩
  go_wp2_with fail
  refine (hashT _ 25543 (by decide) (by decide +kernel) _).mono ?_; rintro e w6 ⟨rfl, rfl⟩
  go_wp2_with fail
  refine (findT _ _ [0, 1] (by decide) (by decide) (by decide +kernel) _).mono ?_; rintro e w7 ⟨v7, rfl, h7, hb⟩
  have h7_ := Lib.hid h7
  clear h7
  go_wp2_with fail
  refine (intsB (h7_.out.alloc _) (litL _ [0, 1] _ _ (by decide)) true (by decide)).mono ?_; rintro e w8 ⟨rfl, hb8⟩
  have hb := (hb.alloc hb.size (.cells #[.int .i64 0, .int .i64 1] 3)).trans (hb8.mono (by have := hb.size; simp; omega))
  clear hb8 h7_
  go_wp2_with fail
  refine (findT _ _ [0, 1] (by decide) (by decide) (by decide +kernel) _).mono ?_; rintro e w9 ⟨v9, rfl, h9, hb2⟩
  have hb := hb.trans (hb2.mono hb.size)
  have h9_ := Lib.hid h9
  clear h9
  clear hb2
  go_wp2_with fail
  refine (intsB (h9_.out.alloc _) (litL _ [0, 1] _ _ (by decide)) true (by decide)).mono ?_; rintro e w10 ⟨rfl, hb8⟩
  have hb := (hb.alloc hb.size (.cells #[.int .i64 0, .int .i64 1] 3)).trans (hb8.mono (by have := hb.size; simp; omega))
  clear hb8 h9_
  go_wp2_with fail
  refine (findT _ _ [] (by decide) (by decide) (by decide +kernel) _).mono ?_; rintro e w11 ⟨v11, rfl, h11, hb2⟩
  have hb := hb.trans (hb2.mono hb.size)
  obtain ⟨a11, c11, rfl, -⟩ := h11
  clear hb2
  go_wp2_with fail
  go_ret
  exact ⟨rfl, hb⟩
end Go.Proofs.Ytjpmfaodkldobaa
