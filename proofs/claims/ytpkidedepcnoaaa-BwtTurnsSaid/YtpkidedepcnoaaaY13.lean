/- Layer 48: Back by values, both. -/
import Derived.Test.YtpkidedepcnoaaaY12
namespace Go.Proofs.Ytpkidedepcnoaaa
open Go.ChangeShapes Go.WideShapes Go.ChangeAt Go.RowKit
set_option linter.unusedVariables false
set_option linter.unusedSimpArgs false
set_option maxRecDepth 100000
theorem argNeg (s : ByteArray) (z : Int) (w : World) (h : z < 0) : Calls Try.prog 31 #[.string s, .int .i64 z] w (fun e w' => e = .returned (.tuple #[.string ⟨#[]⟩, .int .i64 2]) ∧ Below w.heap.size w w') ∧ Calls Try.prog 32 #[.string s, .int .i64 z] w (fun e w' => e = .returned (.tuple #[.string ⟨#[]⟩, .int .i64 2]) ∧ Below w.heap.size w w') := by
  constructor
  · go_enter Try.func31, Try.ntmps31
    go_wp2_with fail
    go_ret2
    exact ⟨rfl, Below.refl _ _⟩
  · go_enter Try.func32, Try.ntmps32
    go_wp2_with fail
    go_ret2
    exact ⟨rfl, Below.refl _ _⟩
theorem argFar (s : ByteArray) (z : Int) (w : World) (h : (s.size : Int) < z) : Calls Try.prog 31 #[.string s, .int .i64 z] w (fun e w' => e = .returned (.tuple #[.string ⟨#[]⟩, .int .i64 2]) ∧ Below w.heap.size w w') ∧ Calls Try.prog 32 #[.string s, .int .i64 z] w (fun e w' => e = .returned (.tuple #[.string ⟨#[]⟩, .int .i64 2]) ∧ Below w.heap.size w w') := by
  have h0 : ¬ z < 0 := by omega
  constructor
  · go_enter Try.func31, Try.ntmps31
    go_wp2_with fail
    go_ret2
    exact ⟨rfl, Below.refl _ _⟩
  · go_enter Try.func32, Try.ntmps32
    go_wp2_with fail
    go_ret2
    exact ⟨rfl, Below.refl _ _⟩
theorem argNil (s : ByteArray) (w : World) (h : ¬ s.toList = []) : Calls Try.prog 31 #[.string s, .int .i64 0] w (fun e w' => e = .returned (.tuple #[.string ⟨#[]⟩, .int .i64 2]) ∧ Below w.heap.size w w') ∧ Calls Try.prog 32 #[.string s, .int .i64 0] w (fun e w' => e = .returned (.tuple #[.string ⟨#[]⟩, .int .i64 2]) ∧ Below w.heap.size w w') := by
  have h0 : ¬ (s.size : Int) < 0 := by omega
  have h5 : s.toList.isEmpty = false := by
    cases hh : s.toList with
    | nil => exact absurd hh h
    | cons => rfl
  constructor
  · go_enter Try.func31, Try.ntmps31
    go_wp2_with fail
    go_ret2
    exact ⟨rfl, Below.refl _ _⟩
  · go_enter Try.func32, Try.ntmps32
    go_wp2_with fail
    go_ret2
    exact ⟨rfl, Below.refl _ _⟩
set_option maxHeartbeats 3200000 in
theorem dBackNil (w : World) :
    Calls Try.prog 32 #[.string ⟨#[]⟩, .int .i64 0] w fun e w' => e = .returned (.tuple #[.string ⟨#[]⟩, .int .i64 0]) ∧ Below w.heap.size w w' := by
  have CT := Lib.hid (fun W => dTurnB [] W (by decide))
  rw [show sM [] = (⟨#[]⟩ : ByteArray) from rfl] at CT
  go_enter Try.func32, Try.ntmps32
  go_wp2_with fail
  go_loopw [6, 7, 8] (fun ov rv iv wr => ov = .string ⟨#[]⟩ ∧ rv = .int .i64 0 ∧ iv = .int .i64 0 ∧ wr = w) (fun _ _ _ _ => 0)
  case atStart => exact ⟨rfl, rfl, rfl, rfl⟩
  case round =>
    obtain ⟨rfl, rfl, rfl, rfl⟩ := hrel
    go_wp2_with fail
    refine (CT.out _).mono ?_; rintro e w5 ⟨a, b, rfl, hs, hbl, h0, hb5⟩
    obtain rfl : b = 0 := by simpa using hbl
    rw [show sM (tB [] a 0) = (⟨#[]⟩ : ByteArray) from rfl]
    go_wp2_with fail
    go_ret2
    exact ⟨rfl, hb5⟩
/-- Back, by both, of whatever is given. -/
theorem backs (T : List UInt8) (z : Int) (hT : T.length ≤ 1000) : ∃ (s : ByteArray) (k : Int), ∀ w, Calls Try.prog 31 #[.string (sM T), .int .i64 z] w (fun e w' => e = .returned (.tuple #[.string s, .int .i64 k]) ∧ Below w.heap.size w w') ∧ Calls Try.prog 32 #[.string (sM T), .int .i64 z] w (fun e w' => e = .returned (.tuple #[.string s, .int .i64 k]) ∧ Below w.heap.size w w') := by
  have hS : (sM T).size = T.length := sM_size T
  by_cases h1 : z < 0
  · exact ⟨_, _, fun w => argNeg _ z w h1⟩
  · by_cases h2 : (T.length : Int) < z
    · exact ⟨_, _, fun w => argFar _ z w (by rw [hS]; exact h2)⟩
    · by_cases h3 : z = 0
      · subst h3
        by_cases h4 : T = []
        · subst h4
          exact ⟨_, _, fun w => ⟨cBackNil w, dBackNil w⟩⟩
        · exact ⟨_, _, fun w => argNil _ w (by rw [sM_toList]; exact h4)⟩
      · obtain ⟨n, rfl⟩ : ∃ n : Nat, z = n := ⟨z.toNat, by omega⟩
        obtain ⟨R, hR⟩ : ∃ R, bk T n T.length 0 [] = R := ⟨_, rfl⟩
        have c1 := fun w => cBackB T n w (by omega) (by omega) (by omega) R hR
        have c2 := fun w => dBackB T n w hT (by omega) (by omega) R hR
        cases R with
        | none => exact ⟨_, _, fun w => ⟨c1 w, c2 w⟩⟩
        | some S => exact ⟨_, _, fun w => ⟨c1 w, c2 w⟩⟩
end Go.Proofs.Ytpkidedepcnoaaa
