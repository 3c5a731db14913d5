/- Layer 48: Back of nothing, Back too far; the document's examples. -/
import Derived.Test.YtpkidedepcnoaaaY5
namespace Go.Proofs.Ytpkidedepcnoaaa
open Go.ChangeShapes Go.WideShapes Go.ChangeAt Go.RowKit
set_option linter.unusedVariables false
set_option linter.unusedSimpArgs false
set_option maxRecDepth 100000
theorem cBackFar (T : List UInt8) (at_ : Nat) (w : World) (ha : T.length < at_) :
    Calls Try.prog 31 #[.string (sM T), .int .i64 at_] w fun e w' => e = .returned (.tuple #[.string ⟨#[]⟩, .int .i64 2]) ∧ Below w.heap.size w w' := by
  have hS : (sM T).size = T.length := sM_size T
  have h1 : (T.length : Int) < at_ := by omega
  have h2 : ¬ (at_ : Int) < 0 := by omega
  go_enter Try.func31, Try.ntmps31
  go_wp2_with fail
  go_ret2
  exact ⟨rfl, Below.refl _ _⟩
set_option maxHeartbeats 3200000 in
theorem cBackNil (w : World) :
    Calls Try.prog 31 #[.string ⟨#[]⟩, .int .i64 0] w fun e w' => e = .returned (.tuple #[.string ⟨#[]⟩, .int .i64 0]) ∧ Below w.heap.size w w' := by
  have CA := Lib.hid (fun W => cAhead [] 0 W (by decide) (Nat.le_refl _))
  rw [show sM [] = (⟨#[]⟩ : ByteArray) from rfl] at CA
  go_enter Try.func31, Try.ntmps31
  go_wp2_with fail
  refine (CA.out _).mono ?_; rintro e w1 ⟨g, ah, rfl, ho, hol, hah, hb⟩
  have HB := Lib.hid hb
  clear ho hol hah hb CA
  go_wp2_with (refine make_u8 rfl _ _ rfl .i64 .i64 0 0 0 rfl rfl rfl rfl (by omega) ?_; intro w2 ho2 hb2 hs2)
  have HB := Lib.hid (HB.out.trans (hb2.mono HB.out.size))
  have hcv := (show OwnY w1.heap.size w2 (.slice (some ⟨w1.heap.size, 0, none⟩) 0 0) [] from ho2).convY
  clear ho2 hb2 hs2
  go_loopw [9] (fun kv wr => kv = .int .i64 (-1) ∧ wr = w2) (fun _ _ => 0)
  case atStart => exact ⟨rfl, rfl⟩
  case round =>
    obtain ⟨rfl, rfl⟩ := hrel
    go_wp2_with fail
    go_ret2
    exact ⟨rfl, HB.out⟩
theorem banana_turned (a : List Nat) (at_ : Nat) (hs : IsSuf [98, 97, 110, 97, 110, 97] a) (ha : at_ ≤ ([98, 97, 110, 97, 110, 97] : List UInt8).length) (h0 : Pr a ([98, 97, 110, 97, 110, 97] : List UInt8).length at_ = 0) : at_ = 4 ∧ tB [98, 97, 110, 97, 110, 97] a at_ = [97, 110, 110, 98, 97, 97] := by
  obtain rfl := hs.unique banana
  obtain rfl := Pr_inj banana at_ 4 ha (by decide) (by rw [h0]; decide)
  exact ⟨rfl, by decide⟩
set_option maxHeartbeats 3200000 in
theorem awake48 (w : World) : Calls Try.prog 28 #[] w fun e w' => e = .returned (.bool true) ∧ Below w.heap.size w w' := by
  have y1 := sM_toList [97, 110, 110, 98, 97, 97]
  have y2 := sM_toList [98, 97, 110, 97, 110, 97]
  go_enter Try.func28, Try.ntmps28
  go_wp2_with fail
  refine (cTurnB [98, 97, 110, 97, 110, 97] w (by decide)).mono ?_; rintro e w1 ⟨a, at_, rfl, hs, ha, h0, hb⟩
  obtain ⟨rfl, e1⟩ := banana_turned a at_ hs ha h0
  rw [e1]
  clear hs ha h0 e1
  go_wp2_with fail
  refine (cBackB [97, 110, 110, 98, 97, 97] 4 w1 (by decide) (by decide) (by decide) (some [98, 97, 110, 97, 110, 97]) (by decide +kernel)).mono ?_; rintro e w2 ⟨rfl, hb2⟩
  have hb := hb.trans (hb2.mono hb.size)
  clear hb2
  unfold resB
  go_wp2_with fail
  refine (cBackFar [97, 110, 110, 98, 97, 97] 7 w2 (by decide)).mono ?_; rintro e w3 ⟨rfl, hb3⟩
  have hb := hb.trans (hb3.mono hb.size)
  clear hb3
  go_wp2_with fail
  refine (cBackB [97, 110, 110, 98, 97, 97] 3 w3 (by decide) (by decide) (by decide) none (by decide +kernel)).mono ?_; rintro e w4 ⟨rfl, hb4⟩
  have hb := hb.trans (hb4.mono hb.size)
  clear hb4
  unfold resB
  go_wp2_with fail
  refine (cBackNil w4).mono ?_; rintro e w5 ⟨rfl, hb5⟩
  have hb := hb.trans (hb5.mono hb.size)
  clear hb5
  go_wp2_with fail
  go_ret
  exact ⟨rfl, hb⟩
end Go.Proofs.Ytpkidedepcnoaaa
