import Derived.Test.YtopiiickeojpmaaJ22
/- Layer 13: Size, and what the example reads. -/
namespace Go.Proofs.Ytopiiickeojpmaa
open Go.ChangeShapes Go.WideShapes Go.ChangeAt Go.RowKit
set_option linter.unusedVariables false
set_option linter.unusedSimpArgs false
set_option maxRecDepth 100000
open Bits hiding packF pack_length
open RunsMath KraftMath CanonMath TurnMath Pm
/-- A writer of the call's own. -/
structure Wr (N : Nat) (w0 w : World) (g B : Nat) (bits : List Bool) : Prop where
  wr : IsWriter w g B bits
  old : Below N w0 w
  feet : ∀ k, foot w g k → N ≤ k
theorem Wr.pen {N : Nat} {w0 w w' : World} {g B : Nat} {b1 b2 : List Bool} (h : Wr N w0 w g B b1) (p : PenW w w' g B b2) (hN : N ≤ w.heap.size) : Wr N w0 w' g B b2 :=
  ⟨p.1, h.old.trans (p.2.1.below (fun k hk => ⟨by omega, fun e => by have := h.feet k e; omega⟩)), fun k hk => by
    rcases p.2.2 k hk with e | e
    · exact h.feet k e
    · omega⟩
theorem Wr.below {N : Nat} {w0 w w' : World} {g B : Nat} {b1 : List Bool} (h : Wr N w0 w g B b1) (hb : Below w.heap.size w w') (hN : N ≤ w.heap.size) : Wr N w0 w' g B b1 := by
  obtain ⟨h1, h2⟩ := IsWriter.keep (S := fun _ => False) h.wr (Keeps.of_below hb) (fun _ _ h => h)
  exact ⟨h1, h.old.trans (hb.mono hN), fun k hk => h.feet k ((h2 k).1 hk)⟩
theorem cSizeOk (a : Option Addr) (c : Nat) (l : List Int) (h0 : l ≠ []) (hl : l.length ≤ 1024) (hok : okB l = true) (w : World) (hi : IsInts w a l) :
    Calls Try.prog 10 #[.slice a l.length c] w fun e w' => e = .returned (.int .i64 (writeB (packL l) (ofR (packL l))).length) ∧ Below w.heap.size w w' := by
  have HI := Lib.hid hi
  have CN := Lib.hid (wNew w)
  have CP := Lib.hid (fun W g B (h : IsWriter W g B []) (hi : IsInts W a l) => cPutOk W g B [] h (by simp) a c l hi h0 hl hok)
  have CL := Lib.hid (fun W g B bits (h : IsWriter W g B bits) => wLen W g B bits h)
  obtain ⟨b, hb⟩ : ∃ b, writeB (packL l) (ofR (packL l)) = b := ⟨_, rfl⟩
  rw [hb] at CP ⊢
  clear hi hb h0 hl hok
  go_enter Try.func10, Try.ntmps10
  go_wp2_with fail
  refine CN.out.mono ?_; rintro e w1 ⟨rfl, hw, hbw, hz, hf⟩
  have HW := Lib.hid (show Wr w.heap.size w w1 w.heap.size w.heap.size [] from ⟨hw, hbw, hf⟩)
  have hsz := hbw.size
  have C := Lib.hid (CP.out w1 _ _ hw (HI.out.kept hbw))
  clear hw hbw hz hf CN CP HI
  go_wp2_with fail
  refine C.out.mono ?_; rintro e w2 ⟨rfl, hp⟩
  rw [List.nil_append] at hp
  have HW2 := Lib.hid (HW.out.pen hp hsz)
  clear hp C HW
  go_wp2_with fail
  refine (CL.out _ _ _ _ HW2.out.wr).mono ?_; rintro e w3 ⟨rfl, k, rfl⟩
  go_wp2_with fail
  go_ret
  exact ⟨rfl, below_dn HW2.out.old k⟩
theorem cSizeBad (v : Value) (E : Int) (hE : E ≠ 0) (C : ∀ W, ∀ w : World, Below w.heap.size w W → Calls Try.prog 23 #[v] W fun e w' => e = .returned (.int .i64 E) ∧ w' = W) (w : World) :
    Calls Try.prog 10 #[v] w fun e w' => e = .returned (.int .i64 0) ∧ Below w.heap.size w w' := by
  have CN := Lib.hid (wNew w)
  have CP := Lib.hid (fun (W : World) (g : Nat) (h : Below w.heap.size w W) => cPutBad ⟨g, 0, none⟩ v E hE W (C W w h))
  have CL := Lib.hid (fun W g B bits (h : IsWriter W g B bits) => wLen W g B bits h)
  clear hE C
  go_enter Try.func10, Try.ntmps10
  go_wp2_with fail
  refine CN.out.mono ?_; rintro e w1 ⟨rfl, hw, hbw, hz, hf⟩
  have HW := Lib.hid (show Wr w.heap.size w w1 w.heap.size w.heap.size [] from ⟨hw, hbw, hf⟩)
  have C := Lib.hid (CP.out w1 w.heap.size hbw)
  clear hw hbw hz hf CN CP
  go_wp2_with fail
  refine C.out.mono ?_; rintro e w2 ⟨rfl, h2⟩; rw [h2]; clear h2 w2
  go_wp2_with fail
  refine (CL.out _ _ _ _ HW.out.wr).mono ?_; rintro e w3 ⟨rfl, k, rfl⟩
  go_wp2_with fail
  go_ret
  exact ⟨rfl, below_dn HW.out.old k⟩
/-- What was written is read. -/
theorem cReadOk (w : World) (g : Nat) (s : List UInt8) (l : List Int) (h0 : l ≠ []) (hl : l.length ≤ 1024) (hok : okB l = true) (rest : List Bool) (hs : spread s = writeB (packL l) (ofR (packL l)) ++ rest) (hr : IsReader w g s 0) :
    Calls Try.prog 17 #[.pointer (some ⟨g, 0, none⟩), .int .i64 l.length] w fun e w' => ∃ v, e = .returned (.tuple #[v, .int .i64 0]) ∧ Keeps (fun k => k = g) w w' ∧ OwnI w.heap.size w' v l ∧ IsReader w' g s (writeB (packL l) (ofR (packL l))).length := by
  obtain ⟨r, hr'⟩ : ∃ r, packL l = r := ⟨_, rfl⟩
  have hR : RunsOk r := by rw [← hr']; exact pack_ok h0 hl hok
  obtain ⟨h1, h2, h3, h4, h5⟩ := read_back h0 hl hok rest r hr'
  rw [hr'] at hs ⊢
  rw [← hs] at h1 h2 h4
  have hlen : (spread s).length = 8 * s.length := spread_length s
  rw [hs, List.length_append] at hlen
  have hl1 : 1 ≤ l.length := List.length_pos_iff.2 h0
  refine (cReadAll w g 0 s hr l.length hl1 hl _ (fun W hW => cRead W g 0 s hW l.length hl1 hl _ h1 (by omega) (ofR r) h2 hR.chk7 _ h4 (fun r' t e _ => by injection e with e _; rw [← e, h5]))).mono ?_
  rintro e w' ⟨v, E, rfl, hk, rfl, ho, hrd⟩
  rw [h5] at ho
  exact ⟨v, rfl, hk, ho, hrd⟩
theorem cRead7 (w : World) (g : Nat) (hr : IsReader w g (pack (writeB [(1, 0), (1, 0)] O11)) 0) :
    Calls Try.prog 17 #[.pointer (some ⟨g, 0, none⟩), .int .i64 7] w fun e w' => e = .returned (.tuple #[.slice none 0 0, .int .i64 3]) ∧ Keeps (fun k => k = g) w w' := by
  have hlen : 0 + 4 + 3 * 18 ≤ 8 * (pack (writeB [(1, 0), (1, 0)] O11)).length := by rw [← spread_length, s11]; decide
  refine (cReadAll w g 0 _ hr 7 (by decide) (by decide) _ (fun W hW => cRead W g 0 _ hW 7 (by decide) (by decide) 18 k11 hlen O11 h11 c11 _ r11 (fun r' t e _ => by cases e))).mono ?_
  rintro e w' ⟨v, E, rfl, hk, rfl, rfl⟩
  exact ⟨rfl, hk⟩
end Go.Proofs.Ytopiiickeojpmaa
