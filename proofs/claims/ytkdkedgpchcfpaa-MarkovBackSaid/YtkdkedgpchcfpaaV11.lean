/- Layer 61 by values; the chapter's example. -/
import Derived.Test.YtkdkedgpchcfpaaV10
namespace Go.Proofs.Ytkdkedgpchcfpaa
open Go.ChangeShapes Go.WideShapes Go.ChangeAt Go.RowKit
set_option linter.unusedVariables false
set_option maxRecDepth 100000
open Range
theorem mDecArg (s : ByteArray) (many : Int) (h : many < 0 ∨ 16777216 < many) (w : World) : Calls Try.prog 38 #[.string s, .int .i64 many] w fun e w' => e = .returned (.tuple #[.string (sB []), .int .i64 1]) ∧ Below w.heap.size w w' := by
  by_cases h3 : many < 0
  · have hd : decide (many < 0) = true := by simpa using h3
    go_enter Try.func38, Try.ntmps38
    go_wp2_with fail
    go_ret2
    exact ⟨rfl, Below.refl _ _⟩
  · have hd3 : decide (many < 0) = false := by simpa using h3
    have hd : decide (16777216 < many) = true := by simp; omega
    go_enter Try.func38, Try.ntmps38
    go_wp2_with fail
    go_ret2
    exact ⟨rfl, Below.refl _ _⟩
theorem bDecMArg (s : ByteArray) (many : Int) (h : many < 0 ∨ 16777216 < many) (w : World) : Calls Try.prog 39 #[.string s, .int .i64 many] w fun e w' => e = .returned (.tuple #[.string (sB []), .int .i64 1]) ∧ Below w.heap.size w w' := by
  by_cases h3 : many < 0
  · have hd : decide (many < 0) = true := by simpa using h3
    go_enter Try.func39, Try.ntmps39
    go_wp2_with fail
    go_ret2
    exact ⟨rfl, Below.refl _ _⟩
  · have hd3 : decide (many < 0) = false := by simpa using h3
    have hd : decide (16777216 < many) = true := by simp; omega
    go_enter Try.func39, Try.ntmps39
    go_wp2_with fail
    go_ret2
    exact ⟨rfl, Below.refl _ _⟩
def decMT (N : Nat) (s : List UInt8) (many : Int) : List UInt8 × Int := if many < 0 ∨ 16777216 < many then ([], 1) else (decM N s many.toNat, 0)
theorem mDecodeT (N : Nat) (hN : N = 65536) (s : ByteArray) (hs : s.size ≤ 1000000) (many : Int) (S : List UInt8) (E : Int) (hr : decMT N s.data.toList many = (S, E)) (w : World) :
    Calls Try.prog 38 #[.string s, .int .i64 many] w fun e w' => e = .returned (.tuple #[.string (sB S), .int .i64 E]) ∧ Below w.heap.size w w' := by
  unfold decMT at hr
  by_cases h : many < 0 ∨ 16777216 < many
  · rw [if_pos h] at hr
    obtain ⟨rfl, rfl⟩ := hr
    exact mDecArg s many h w
  · rw [if_neg h] at hr
    obtain ⟨rfl, rfl⟩ := hr
    obtain ⟨k, rfl⟩ : ∃ k : Nat, many = k := ⟨many.toNat, by omega⟩
    rw [Int.toNat_natCast]
    exact mDecode N hN s hs k (by omega) w
theorem bDecodeMT (N : Nat) (hN : N = 65536) (s : List UInt8) (hs : s.length ≤ 1000000) (many : Int) (hm : many ≤ 1000000 ∨ 16777216 < many) (S : List UInt8) (E : Int) (hr : decMT N s many = (S, E)) (w : World) :
    Calls Try.prog 39 #[.string (sB s), .int .i64 many] w fun e w' => e = .returned (.tuple #[.string (sB S), .int .i64 E]) ∧ Below w.heap.size w w' := by
  unfold decMT at hr
  by_cases h : many < 0 ∨ 16777216 < many
  · rw [if_pos h] at hr
    obtain ⟨rfl, rfl⟩ := hr
    exact bDecMArg (sB s) many h w
  · rw [if_neg h] at hr
    obtain ⟨rfl, rfl⟩ := hr
    obtain ⟨k, rfl⟩ : ∃ k : Nat, many = k := ⟨many.toNat, by omega⟩
    rw [Int.toNat_natCast]
    exact bDecodeM N hN s hs k (by omega) w
theorem mSize (N : Nat) (hN : N = 65536) (s : ByteArray) (hs : s.size ≤ 10000) (S : List UInt8) (hS : encM N s.data.toList = S) (w : World) :
    Calls Try.prog 40 #[.string s] w fun e w' => e = .returned (.int .i64 (sB S).size) ∧ Below w.heap.size w w' := by
  have C := Lib.hid (fun W => mEncode N hN s hs W)
  rw [hS] at C
  clear hS hN
  go_enter Try.func40, Try.ntmps40
  go_wp2_with fail
  refine (C.out _).mono ?_; rintro e w1 ⟨rfl, hb1⟩
  have HB := Lib.hid hb1
  clear hb1
  go_wp2_with fail
  go_ret
  exact ⟨rfl, HB.out⟩
def txt : List UInt8 := [97, 98, 97, 98, 97, 98, 97, 98, 97, 98, 97, 98, 97, 98, 97, 98, 97, 98, 97, 98, 97, 98, 97, 98, 97, 98, 97, 98, 97, 98, 97, 98]
set_option maxHeartbeats 3200000 in
theorem awake61 (w : World) : Calls Try.prog 35 #[] w fun e w' => e = .returned (.bool true) ∧ Below w.heap.size w w' := by
  obtain ⟨N, hN⟩ : ∃ N, N = 65536 := ⟨_, rfl⟩
  obtain ⟨S, hS⟩ : ∃ S, encM N txt = S := ⟨_, rfl⟩
  obtain ⟨hD, hl⟩ := back61 hN txt []
  rw [hS, List.append_nil] at hD
  rw [hS] at hl
  have hl2 : S.length ≤ 2000 := by have : txt.length = 32 := rfl; omega
  have h0 : encM N [] = [] := rfl
  have C1 := Lib.hid (fun W => mEncode N hN (sB txt) (by decide) W)
  have C2 := Lib.hid (fun W => mDecodeT (w := W) N hN (sB S) (by rw [sB_size]; omega) 32 txt 0 (by rw [sB_list]; unfold decMT; rw [if_neg (by decide)]; exact congrArg (·, (0 : Int)) hD))
  have C3 := Lib.hid (fun W => mEncode N hN (sB []) (by decide) W)
  have C4 := Lib.hid (fun W => mDecodeT (w := W) N hN (sB S) (by rw [sB_size]; omega) (-1) [] 1 rfl)
  have C5 := Lib.hid (fun W => mSize N hN (sB []) (by decide) [] h0 W)
  have C6 := Lib.hid (fun W => mSize N hN (sB txt) (by decide) S (by rw [sB_list]; exact hS) W)
  rw [sB_list, hS] at C1
  rw [sB_list, h0] at C3
  have HN := Lib.hid hN
  clear hN hS hD hl h0 hl2 HN
  go_enter Try.func35, Try.ntmps35
  go_wp2_with fail
  refine (C1.out _).mono ?_; rintro e w1 ⟨rfl, hb⟩
  go_wp2_with fail
  refine (C2.out _).mono ?_; rintro e w2 ⟨rfl, hb2⟩
  have hb := hb.trans (hb2.mono hb.size)
  clear hb2
  go_wp2_with fail
  refine (C3.out _).mono ?_; rintro e w3 ⟨rfl, hb2⟩
  have hb := hb.trans (hb2.mono hb.size)
  clear hb2
  go_wp2_with fail
  refine (C4.out _).mono ?_; rintro e w4 ⟨rfl, hb2⟩
  have hb := hb.trans (hb2.mono hb.size)
  clear hb2
  have hsb : (sB []).toList = [] := by rw [ByteArray.toList_eq]; rfl
  have hsz : (sB []).size = 0 := rfl
  have htx : sB txt = ⟨#[97, 98, 97, 98, 97, 98, 97, 98, 97, 98, 97, 98, 97, 98, 97, 98, 97, 98, 97, 98, 97, 98, 97, 98, 97, 98, 97, 98, 97, 98, 97, 98]⟩ := rfl
  go_wp2_with fail
  refine (C5.out _).mono ?_; rintro e w5 ⟨rfl, hb2⟩
  have hb := hb.trans (hb2.mono hb.size)
  clear hb2
  go_wp2_with fail
  refine (C6.out _).mono ?_; rintro e w6 ⟨rfl, hb2⟩
  have hb := hb.trans (hb2.mono hb.size)
  clear hb2
  go_wp2_with fail
  go_ret
  exact ⟨rfl, hb⟩
end Go.Proofs.Ytkdkedgpchcfpaa
