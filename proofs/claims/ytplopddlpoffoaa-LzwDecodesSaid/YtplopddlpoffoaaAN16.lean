/- Layer 60: the chapter's example. -/
import Derived.Test.YtplopddlpoffoaaAN15
namespace Go.Proofs.Ytplopddlpoffoaa
open Go.ChangeShapes Go.WideShapes Go.ChangeAt Go.RowKit
set_option linter.unusedVariables false
set_option linter.unusedSimpArgs false
set_option maxRecDepth 100000
open Bits
theorem v60a : enc60 [97, 97, 97] 9 = [97, 0, 2] := by decide +kernel
theorem v60b : decZ (spread [97, 0, 2]) 3 9 3 freshR [] [] 0 = ([97, 97, 97], 0) := by decide +kernel
theorem v60c : decZ (spread [97, 0, 2]) 4 9 4 freshR [] [] 0 = ([], 3) := by decide +kernel
theorem v60d : decZ (spread [97, 0, 2]) 2 9 2 freshR [] [] 0 = ([], 4) := by decide +kernel
set_option maxHeartbeats 3200000 in
theorem awake60 (w : World) : Calls Try.prog 18 #[] w fun e w' => e = .returned (.bool true) ∧ Below w.heap.size w w' := by
  have CE := Lib.hid (fun W => show Calls Try.prog 19 #[.string ⟨#[97, 97, 97]⟩, .int .i64 9] W fun e w' => e = .returned (.tuple #[.string ⟨#[97, 0, 2]⟩, .int .i64 0]) ∧ Below W.heap.size W w' from by
    have := cEncode [97, 97, 97] 9 (by decide) (by decide) (by decide) W
    rw [v60a] at this
    exact this)
  have CD3 := Lib.hid (fun W => show Calls Try.prog 21 #[.string ⟨#[97, 0, 2]⟩, .int .i64 3, .int .i64 9] W fun e w' => e = .returned (.tuple #[.string ⟨#[97, 97, 97]⟩, .int .i64 0]) ∧ Below W.heap.size W w' from
    cDecode ⟨#[97, 0, 2]⟩ 3 9 (by decide) (by decide) (by decide) (by decide) _ v60b W)
  have CD4 := Lib.hid (fun W => show Calls Try.prog 21 #[.string ⟨#[97, 0, 2]⟩, .int .i64 4, .int .i64 9] W fun e w' => e = .returned (.tuple #[.string ⟨#[]⟩, .int .i64 3]) ∧ Below W.heap.size W w' from
    cDecode ⟨#[97, 0, 2]⟩ 4 9 (by decide) (by decide) (by decide) (by decide) _ v60c W)
  have CD2 := Lib.hid (fun W => show Calls Try.prog 21 #[.string ⟨#[97, 0, 2]⟩, .int .i64 2, .int .i64 9] W fun e w' => e = .returned (.tuple #[.string ⟨#[]⟩, .int .i64 4]) ∧ Below W.heap.size W w' from
    cDecode ⟨#[97, 0, 2]⟩ 2 9 (by decide) (by decide) (by decide) (by decide) _ v60d W)
  have CO := Lib.hid (fun W => cEncodeOut ⟨#[97]⟩ 8 (by decide) W)
  go_enter Try.func18, Try.ntmps18
  go_wp2_with fail
  refine (CE.out _).mono ?_; rintro e w1 ⟨rfl, hb1⟩
  have HB1 := Lib.hid hb1
  clear hb1
  go_wp2_with fail
  refine (CD3.out _).mono ?_; rintro e w2 ⟨rfl, hb2⟩
  have HB2 := Lib.hid (HB1.out.trans (hb2.mono HB1.out.size))
  clear hb2
  go_wp2_with fail
  refine (CO.out _).mono ?_; rintro e w3 ⟨rfl, rfl⟩
  go_wp2_with fail
  refine (CD4.out _).mono ?_; rintro e w4 ⟨rfl, hb4⟩
  have HB4 := Lib.hid (HB2.out.trans (hb4.mono HB2.out.size))
  clear hb4
  go_wp2_with fail
  refine (CD2.out _).mono ?_; rintro e w5 ⟨rfl, hb5⟩
  have HB5 := Lib.hid (HB4.out.trans (hb5.mono HB4.out.size))
  clear hb5
  go_wp2_with fail
  go_ret
  exact ⟨rfl, HB5.out⟩
end Go.Proofs.Ytplopddlpoffoaa
