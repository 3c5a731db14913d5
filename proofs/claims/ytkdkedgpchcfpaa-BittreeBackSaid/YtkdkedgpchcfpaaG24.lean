/- Layer 46 by values; the chapter's example. -/
import Derived.Test.YtkdkedgpchcfpaaG21
import Derived.Test.YtkdkedgpchcfpaaG22
import Derived.Test.YtkdkedgpchcfpaaG23
import Derived.Test.YtkdkedgpchcfpaaG12
namespace Go.Proofs.Ytkdkedgpchcfpaa
open Go.ChangeShapes Go.WideShapes Go.ChangeAt Go.RowKit
set_option linter.unusedVariables false
set_option maxRecDepth 100000
open Range
theorem tDecArg (s : ByteArray) (many n : Int) (h : n < 1 ∨ 9 < n ∨ many < 0 ∨ 1048576 < many) (w : World) : Calls Try.prog 27 #[.string s, .int .i64 many, .int .i64 n] w fun e w' => e = .returned (.tuple #[.slice none 0 0, .int .i64 1]) ∧ w' = w := by
  by_cases h1 : n < 1
  · have hd : decide (n < 1) = true := by simpa using h1
    go_enter Try.func27, Try.ntmps27
    go_wp2_with fail
    go_ret2
    exact ⟨rfl, rfl⟩
  · have hd1 : decide (n < 1) = false := by simpa using h1
    by_cases h2 : 9 < n
    · have hd : decide (9 < n) = true := by simpa using h2
      go_enter Try.func27, Try.ntmps27
      go_wp2_with fail
      go_ret2
      exact ⟨rfl, rfl⟩
    · have hd2 : decide (9 < n) = false := by simpa using h2
      by_cases h3 : many < 0
      · have hd : decide (many < 0) = true := by simpa using h3
        go_enter Try.func27, Try.ntmps27
        go_wp2_with fail
        go_ret2
        exact ⟨rfl, rfl⟩
      · have hd3 : decide (many < 0) = false := by simpa using h3
        have hd : decide (1048576 < many) = true := by simp; omega
        go_enter Try.func27, Try.ntmps27
        go_wp2_with fail
        go_ret2
        exact ⟨rfl, rfl⟩
theorem bDecArg (s : ByteArray) (many n : Int) (h : n < 1 ∨ 9 < n ∨ many < 0 ∨ 1048576 < many) (w : World) : Calls Try.prog 28 #[.string s, .int .i64 many, .int .i64 n] w fun e w' => e = .returned (.tuple #[.slice none 0 0, .int .i64 1]) ∧ w' = w := by
  by_cases h1 : n < 1
  · have hd : decide (n < 1) = true := by simpa using h1
    go_enter Try.func28, Try.ntmps28
    go_wp2_with fail
    go_ret2
    exact ⟨rfl, rfl⟩
  · have hd1 : decide (n < 1) = false := by simpa using h1
    by_cases h2 : 9 < n
    · have hd : decide (9 < n) = true := by simpa using h2
      go_enter Try.func28, Try.ntmps28
      go_wp2_with fail
      go_ret2
      exact ⟨rfl, rfl⟩
    · have hd2 : decide (9 < n) = false := by simpa using h2
      by_cases h3 : many < 0
      · have hd : decide (many < 0) = true := by simpa using h3
        go_enter Try.func28, Try.ntmps28
        go_wp2_with fail
        go_ret2
        exact ⟨rfl, rfl⟩
      · have hd3 : decide (many < 0) = false := by simpa using h3
        have hd : decide (1048576 < many) = true := by simp; omega
        go_enter Try.func28, Try.ntmps28
        go_wp2_with fail
        go_ret2
        exact ⟨rfl, rfl⟩
theorem tEncodeT {w : World} {v : Value} {l : List Int} (h : IsL w v l) (hl : l.length ≤ 10000) (n : Int) (S : List UInt8) (E : Int) (hr : encB l n = (S, E)) :
    Calls Try.prog 25 #[v, .int .i64 n] w fun e w' => e = .returned (.tuple #[.string (sB S), .int .i64 E]) ∧ Below w.heap.size w w' := by
  by_cases hn : n < 1 ∨ 9 < n
  · unfold encB at hr
    rw [if_pos hn] at hr
    obtain ⟨rfl, rfl⟩ := hr
    refine (tEncodeArg v n hn w).mono ?_
    rintro e w' ⟨rfl, rfl⟩
    exact ⟨rfl, Below.refl _ _⟩
  · obtain ⟨m, rfl⟩ : ∃ m : Nat, n = m := ⟨n.toNat, by omega⟩
    obtain ⟨a, c, rfl, h⟩ := h
    exact tEncode a c l m (by omega) (by omega) hl w h S E hr
theorem bEncodeT {w : World} {v : Value} {l : List Int} (h : IsL w v l) (hl : l.length ≤ 10000) (n : Int) (S : List UInt8) (E : Int) (hr : encB l n = (S, E)) :
    Calls Try.prog 26 #[v, .int .i64 n] w fun e w' => e = .returned (.tuple #[.string (sB S), .int .i64 E]) ∧ Below w.heap.size w w' := by
  by_cases hn : n < 1 ∨ 9 < n
  · unfold encB at hr
    rw [if_pos hn] at hr
    obtain ⟨rfl, rfl⟩ := hr
    refine (bEncArg v n hn w).mono ?_
    rintro e w' ⟨rfl, rfl⟩
    exact ⟨rfl, Below.refl _ _⟩
  · obtain ⟨m, rfl⟩ : ∃ m : Nat, n = m := ⟨n.toNat, by omega⟩
    obtain ⟨a, c, rfl, h⟩ := h
    exact bEncode a c l m (by omega) (by omega) hl w h S E hr
theorem tDecodeT {w : World} (s : ByteArray) (hs : s.size ≤ 1000000) (many n : Int) (L : List Int) (E : Int) (hr : decB s.data.toList many n = (L, E)) :
    Calls Try.prog 27 #[.string s, .int .i64 many, .int .i64 n] w fun e w' => ∃ v, e = .returned (.tuple #[v, .int .i64 E]) ∧ IsL w' v L ∧ Below w.heap.size w w' := by
  by_cases hn : n < 1 ∨ 9 < n ∨ many < 0 ∨ 1048576 < many
  · unfold decB at hr
    rw [if_pos hn] at hr
    obtain ⟨rfl, rfl⟩ := hr
    refine (tDecArg s many n hn w).mono ?_
    rintro e w' ⟨rfl, rfl⟩
    exact ⟨_, rfl, IsL.nil _, Below.refl _ _⟩
  · unfold decB at hr
    rw [if_neg hn] at hr
    obtain ⟨rfl, rfl⟩ := hr
    obtain ⟨m, rfl⟩ : ∃ m : Nat, n = m := ⟨n.toNat, by omega⟩
    obtain ⟨k, rfl⟩ : ∃ k : Nat, many = k := ⟨many.toNat, by omega⟩
    refine (tDecode s hs k m (by omega) (by omega) (by omega) w).mono ?_
    rintro e w' ⟨v, rfl, h1, h2⟩
    exact ⟨v, rfl, by rw [Int.toNat_natCast, Int.toNat_natCast]; exact h1.isL (by rw [outD_len]; omega), h2⟩
theorem bDecodeT {w : World} (s : List UInt8) (hs : s.length ≤ 1000000) (many n : Int) (L : List Int) (E : Int) (hr : decB s many n = (L, E)) :
    Calls Try.prog 28 #[.string (sB s), .int .i64 many, .int .i64 n] w fun e w' => ∃ v, e = .returned (.tuple #[v, .int .i64 E]) ∧ IsL w' v L ∧ Below w.heap.size w w' := by
  by_cases hn : n < 1 ∨ 9 < n ∨ many < 0 ∨ 1048576 < many
  · unfold decB at hr
    rw [if_pos hn] at hr
    obtain ⟨rfl, rfl⟩ := hr
    refine (bDecArg (sB s) many n hn w).mono ?_
    rintro e w' ⟨rfl, rfl⟩
    exact ⟨_, rfl, IsL.nil _, Below.refl _ _⟩
  · unfold decB at hr
    rw [if_neg hn] at hr
    obtain ⟨rfl, rfl⟩ := hr
    obtain ⟨m, rfl⟩ : ∃ m : Nat, n = m := ⟨n.toNat, by omega⟩
    obtain ⟨k, rfl⟩ : ∃ k : Nat, many = k := ⟨many.toNat, by omega⟩
    refine (bDecodeD s hs k m (by omega) (by omega) (by omega) w).mono ?_
    rintro e w' ⟨v, rfl, h1, h2⟩
    exact ⟨v, rfl, by rw [Int.toNat_natCast, Int.toNat_natCast]; exact h1.isL (by rw [outD_len]; omega), h2⟩
theorem litI (w : World) (is : List Int) (t2 c2 : Nat) (hl : is.length ≤ 70368744177664) : IsL (w.alloc (.cells (is.map (Value.int .i64 ·)).toArray t2)) (.slice (some ⟨w.heap.size, 0, none⟩) is.length c2) is := lit1 w is t2 c2 hl
set_option maxHeartbeats 3200000 in
theorem awake46 (w : World) : Calls Try.prog 24 #[] w fun e w' => e = .returned (.bool true) ∧ Below w.heap.size w w' := by
  obtain ⟨⟨T, E3⟩, hT⟩ : ∃ r, encB [5, 5, 7] 3 = r := ⟨_, rfl⟩
  have hE3 : E3 = 0 := by
    have h1 : (encB [5, 5, 7] 3).2 = 0 := by decide +kernel
    rw [hT] at h1; exact h1
  subst hE3
  have hD : decB T 3 3 = ([5, 5, 7], 0) := by
    have h1 : decB (encB [5, 5, 7] 3).1 3 3 = ([5, 5, 7], 0) := by decide +kernel
    rw [hT] at h1; exact h1
  have hl : T.length ≤ 100 := by
    have h1 : (encB [5, 5, 7] 3).1.length ≤ 100 := by decide +kernel
    rw [hT] at h1; exact h1
  have HT := Lib.hid hT; have HD := Lib.hid hD
  clear hT hD
  go_enter Try.func24, Try.ntmps24
  go_wp2_with fail
  have x2 := litI w [5, 5, 7] 3 3 (by decide)
  refine (tEncodeT x2 (by decide) 3 T 0 HT.out).mono ?_; rintro e w1 ⟨rfl, hb1⟩
  have hb := step1 (Below.refl w.heap.size w) hb1
  clear x2 hb1
  go_wp2_with fail
  refine (tDecodeT (sB T) (by rw [sB_size]; omega) 3 3 [5, 5, 7] 0 (by rw [sB_list]; exact HD.out)).mono ?_; rintro e w2 ⟨v2, rfl, i2, hb2⟩
  have hb := hb.trans (hb2.mono hb.size)
  have I2 := Lib.hid i2
  clear i2 hb2
  go_wp2_with fail
  have x2 := litI w2 [8] 3 1 (by decide)
  refine (tEncodeT x2 (by decide) 3 [] 2 (by decide +kernel)).mono ?_; rintro e w3 ⟨rfl, hb3⟩
  have hb := step1 hb hb3
  have I3 := Lib.hid ((I2.out.alloc _).kept hb3)
  clear hb3 I2 x2
  go_wp2_with fail
  refine (tEncodeT (IsL.nil _) (by decide) 10 [] 1 (by decide +kernel)).mono ?_; rintro e w4 ⟨rfl, hb4⟩
  have hb := hb.trans (hb4.mono hb.size)
  have I4 := Lib.hid (I3.out.kept hb4)
  clear hb4 I3
  go_wp2_with fail
  refine (tDecodeT ⟨#[]⟩ (by decide) (-1) 3 [] 1 (by decide +kernel)).mono ?_; rintro e w5 ⟨v5, rfl, i5, hb5⟩
  have hb := hb.trans (hb5.mono hb.size)
  have I5 := Lib.hid (I4.out.kept hb5)
  clear hb5 I4 i5
  go_wp2_with fail
  refine (tEncodeT (IsL.nil _) (by decide) 3 [] 0 (by decide +kernel)).mono ?_; rintro e w6 ⟨rfl, hb6⟩
  have hb := hb.trans (hb6.mono hb.size)
  have I6 := Lib.hid (I5.out.kept hb6)
  clear hb6 I5
  go_wp2_with fail
  have x2 := litI w6 [5, 5, 7] 3 3 (by decide)
  refine (intsL (I6.out.alloc _) x2 true (by decide)).mono ?_; rintro e w7 ⟨rfl, k7, rfl⟩
  have hb := below_dn (hb.alloc hb.size (.cells #[.int .i64 5, .int .i64 5, .int .i64 7] 3)) k7
  clear x2 I6
  have hsb : (sB []).toList = [] := by rw [ByteArray.toList_eq]; rfl
  go_wp2_with fail
  go_ret
  exact ⟨rfl, hb⟩
end Go.Proofs.Ytkdkedgpchcfpaa
