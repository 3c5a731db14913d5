/- Contracts of layer 16's Of, the program's and the document's; the chapter's examples. -/
import Derived.Test.YtmpmioffngonjaaTq
namespace Go.Proofs.Ytmpmioffngonjaa
open Go.ChangeShapes Go.WideShapes Go.ChangeAt Go.RowKit
set_option linter.unusedVariables false
set_option maxRecDepth 100000

/-- What a symbol is. -/
def ofK (s : Int) : Int := if s < 0 ∨ 400 < s then 0 else if s < 256 then 0 else if s < 285 then 1 else 2
def ofB (s : Int) : Int := if s < 0 ∨ 400 < s then 0 else if s < 256 then s else 0
def ofR (s : Int) : Int := if s < 0 ∨ 400 < s then 0 else if s < 285 then 0 else (s - 285) / 29
def ofS (s : Int) : Int := if s < 0 ∨ 400 < s then 0 else if s < 256 then 0 else if s < 285 then s - 256 else (s - 285) % 29
def ofE (s : Int) : Int := if s < 0 ∨ 400 < s then 2 else 0
theorem ret5_i {a b c d e a' b' c' d' e' : Int} (h1 : a = a') (h2 : b = b') (h3 : c = c') (h4 : d = d') (h5 : e = e') : Ending.returned (.tuple #[.int .i64 a, .int .i64 b, .int .i64 c, .int .i64 d, .int .i64 e]) = .returned (.tuple #[.int .i64 a', .int .i64 b', .int .i64 c', .int .i64 d', .int .i64 e']) := by rw [h1, h2, h3, h4, h5]

set_option maxHeartbeats 800000 in
theorem Of_any (s : Int) (w : World) : Calls Try.prog 26 #[.int .i64 s] w fun e w' =>
    e = .returned (.tuple #[.int .i64 (ofK s), .int .i64 (ofB s), .int .i64 (ofR s), .int .i64 (ofS s), .int .i64 (ofE s)]) ∧ w = w' := by
  by_cases h1 : s < 0
  · go_enter Try.func26, Try.ntmps26
    go_wp2
    exact bodyPost_ret (v := .tuple #[.int .i64 0, .int .i64 0, .int .i64 0, .int .i64 0, .int .i64 2]) (by simp [results, Try.results26, go_sem]) rfl ⟨ret5_i (by unfold ofK; rw [if_pos (.inl h1)]) (by unfold ofB; rw [if_pos (.inl h1)]) (by unfold ofR; rw [if_pos (.inl h1)]) (by unfold ofS; rw [if_pos (.inl h1)]) (by unfold ofE; rw [if_pos (.inl h1)]), rfl⟩
  · by_cases h2 : 400 < s
    · go_enter Try.func26, Try.ntmps26
      go_wp2
      exact bodyPost_ret (v := .tuple #[.int .i64 0, .int .i64 0, .int .i64 0, .int .i64 0, .int .i64 2]) (by simp [results, Try.results26, go_sem]) rfl ⟨ret5_i (by unfold ofK; rw [if_pos (.inr h2)]) (by unfold ofB; rw [if_pos (.inr h2)]) (by unfold ofR; rw [if_pos (.inr h2)]) (by unfold ofS; rw [if_pos (.inr h2)]) (by unfold ofE; rw [if_pos (.inr h2)]), rfl⟩
    · have hn : ¬ (s < 0 ∨ 400 < s) := by omega
      by_cases h3 : s < 256
      · have h4 : s < 285 := by omega
        have e1 : ofK s = 0 := by unfold ofK; rw [if_neg hn, if_pos h3]
        have e2 : ofB s = s := by unfold ofB; rw [if_neg hn, if_pos h3]
        have e3 : ofR s = 0 := by unfold ofR; rw [if_neg hn, if_pos h4]
        have e4 : ofS s = 0 := by unfold ofS; rw [if_neg hn, if_pos h3]
        have e5 : ofE s = 0 := by unfold ofE; rw [if_neg hn]
        rw [e1, e2, e3, e4, e5]; clear e1 e2 e3 e4 e5 hn
        go_enter Try.func26, Try.ntmps26
        go_wp2
        exact bodyPost_ret (v := .tuple #[.int .i64 0, .int .i64 s, .int .i64 0, .int .i64 0, .int .i64 0]) (by simp [results, Try.results26, go_sem]) rfl ⟨rfl, rfl⟩
      · by_cases h4 : s < 285
        · have e1 : ofK s = 1 := by unfold ofK; rw [if_neg hn, if_neg h3, if_pos h4]
          have e2 : ofB s = 0 := by unfold ofB; rw [if_neg hn, if_neg h3]
          have e3 : ofR s = 0 := by unfold ofR; rw [if_neg hn, if_pos h4]
          have e4 : ofS s = s - 256 := by unfold ofS; rw [if_neg hn, if_neg h3, if_pos h4]
          have e5 : ofE s = 0 := by unfold ofE; rw [if_neg hn]
          rw [e1, e2, e3, e4, e5]; clear e1 e2 e3 e4 e5 hn
          go_enter Try.func26, Try.ntmps26
          go_wp2
          exact bodyPost_ret (v := .tuple #[.int .i64 1, .int .i64 0, .int .i64 0, .int .i64 (s - 256), .int .i64 0]) (by simp [results, Try.results26, go_sem]) rfl ⟨rfl, rfl⟩
        · have e1 : ofK s = 2 := by unfold ofK; rw [if_neg hn, if_neg h3, if_neg h4]
          have e2 : ofB s = 0 := by unfold ofB; rw [if_neg hn, if_neg h3]
          have e3 : ofR s = (s - 285) / 29 := by unfold ofR; rw [if_neg hn, if_neg h4]
          have e4 : ofS s = (s - 285) % 29 := by unfold ofS; rw [if_neg hn, if_neg h3, if_neg h4]
          have e5 : ofE s = 0 := by unfold ofE; rw [if_neg hn]
          rw [e1, e2, e3, e4, e5]; clear e1 e2 e3 e4 e5 hn
          go_enter Try.func26, Try.ntmps26
          go_wp2
          exact bodyPost_ret (v := .tuple #[.int .i64 2, .int .i64 0, .int .i64 ((s - 285) / 29), .int .i64 ((s - 285) % 29), .int .i64 0]) (by simp [results, Try.results26, go_sem]) rfl ⟨rfl, rfl⟩

set_option maxHeartbeats 800000 in
theorem refOf_any (s : Int) (w : World) : Calls Try.prog 27 #[.int .i64 s] w fun e w' =>
    e = .returned (.tuple #[.int .i64 (ofK s), .int .i64 (ofB s), .int .i64 (ofR s), .int .i64 (ofS s), .int .i64 (ofE s)]) ∧ w = w' := by
  by_cases h1 : s < 0
  · go_enter Try.func27, Try.ntmps27
    go_wp2
    exact bodyPost_ret (v := .tuple #[.int .i64 0, .int .i64 0, .int .i64 0, .int .i64 0, .int .i64 2]) (by simp [results, Try.results27, go_sem]) rfl ⟨ret5_i (by unfold ofK; rw [if_pos (.inl h1)]) (by unfold ofB; rw [if_pos (.inl h1)]) (by unfold ofR; rw [if_pos (.inl h1)]) (by unfold ofS; rw [if_pos (.inl h1)]) (by unfold ofE; rw [if_pos (.inl h1)]), rfl⟩
  · by_cases h2 : 400 < s
    · go_enter Try.func27, Try.ntmps27
      go_wp2
      exact bodyPost_ret (v := .tuple #[.int .i64 0, .int .i64 0, .int .i64 0, .int .i64 0, .int .i64 2]) (by simp [results, Try.results27, go_sem]) rfl ⟨ret5_i (by unfold ofK; rw [if_pos (.inr h2)]) (by unfold ofB; rw [if_pos (.inr h2)]) (by unfold ofR; rw [if_pos (.inr h2)]) (by unfold ofS; rw [if_pos (.inr h2)]) (by unfold ofE; rw [if_pos (.inr h2)]), rfl⟩
    · have hn : ¬ (s < 0 ∨ 400 < s) := by omega
      by_cases h3 : s < 256
      · have h4 : s < 285 := by omega
        have e1 : ofK s = 0 := by unfold ofK; rw [if_neg hn, if_pos h3]
        have e2 : ofB s = s := by unfold ofB; rw [if_neg hn, if_pos h3]
        have e3 : ofR s = 0 := by unfold ofR; rw [if_neg hn, if_pos h4]
        have e4 : ofS s = 0 := by unfold ofS; rw [if_neg hn, if_pos h3]
        have e5 : ofE s = 0 := by unfold ofE; rw [if_neg hn]
        rw [e1, e2, e3, e4, e5]; clear e1 e2 e3 e4 e5 hn
        go_enter Try.func27, Try.ntmps27
        go_wp2
        exact bodyPost_ret (v := .tuple #[.int .i64 0, .int .i64 s, .int .i64 0, .int .i64 0, .int .i64 0]) (by simp [results, Try.results27, go_sem]) rfl ⟨rfl, rfl⟩
      · by_cases h4 : s < 285
        · have e1 : ofK s = 1 := by unfold ofK; rw [if_neg hn, if_neg h3, if_pos h4]
          have e2 : ofB s = 0 := by unfold ofB; rw [if_neg hn, if_neg h3]
          have e3 : ofR s = 0 := by unfold ofR; rw [if_neg hn, if_pos h4]
          have e4 : ofS s = s - 256 := by unfold ofS; rw [if_neg hn, if_neg h3, if_pos h4]
          have e5 : ofE s = 0 := by unfold ofE; rw [if_neg hn]
          rw [e1, e2, e3, e4, e5]; clear e1 e2 e3 e4 e5 hn
          go_enter Try.func27, Try.ntmps27
          go_wp2
          exact bodyPost_ret (v := .tuple #[.int .i64 1, .int .i64 0, .int .i64 0, .int .i64 (s - 256), .int .i64 0]) (by simp [results, Try.results27, go_sem]) rfl ⟨rfl, rfl⟩
        · have e1 : ofK s = 2 := by unfold ofK; rw [if_neg hn, if_neg h3, if_neg h4]
          have e2 : ofB s = 0 := by unfold ofB; rw [if_neg hn, if_neg h3]
          have e3 : ofR s = (s - 285) / 29 := by unfold ofR; rw [if_neg hn, if_neg h4]
          have e4 : ofS s = (s - 285) % 29 := by unfold ofS; rw [if_neg hn, if_neg h3, if_neg h4]
          have e5 : ofE s = 0 := by unfold ofE; rw [if_neg hn]
          rw [e1, e2, e3, e4, e5]; clear e1 e2 e3 e4 e5 hn
          go_enter Try.func27, Try.ntmps27
          go_wp2
          exact bodyPost_ret (v := .tuple #[.int .i64 2, .int .i64 0, .int .i64 ((s - 285) / 29), .int .i64 ((s - 285) % 29), .int .i64 0]) (by simp [results, Try.results27, go_sem]) rfl ⟨rfl, rfl⟩

theorem box_start {w w1 : World} {c0 c1 c2 c3 c4 : Value} {t : TypeId} (hb : Below (w.alloc (.cells #[c0, c1, c2, c3, c4] t)).heap.size (w.alloc (.cells #[c0, c1, c2, c3, c4] t)) w1) :
    w1.cell? ⟨w.heap.size, 0, none⟩ = some c0 ∧ w1.cell? ⟨w.heap.size, 1, none⟩ = some c1 ∧ w1.cell? ⟨w.heap.size, 2, none⟩ = some c2 ∧ w1.cell? ⟨w.heap.size, 3, none⟩ = some c3 ∧ w1.cell? ⟨w.heap.size, 4, none⟩ = some c4 ∧ w.heap.size < w1.heap.size := by
  obtain ⟨⟨q0, q1, q2⟩, q3, q4⟩ := boxed5 hb
  exact ⟨q0, q1, q2, q3, q4, by have := hb.size; simp at this; omega⟩
theorem box_keep {w1 w2 : World} {g : Nat} {c0 c1 c2 c3 c4 : Value} (hb : Below w1.heap.size w1 w2)
    (h : w1.cell? ⟨g, 0, none⟩ = some c0 ∧ w1.cell? ⟨g, 1, none⟩ = some c1 ∧ w1.cell? ⟨g, 2, none⟩ = some c2 ∧ w1.cell? ⟨g, 3, none⟩ = some c3 ∧ w1.cell? ⟨g, 4, none⟩ = some c4 ∧ g < w1.heap.size) :
    w2.cell? ⟨g, 0, none⟩ = some c0 ∧ w2.cell? ⟨g, 1, none⟩ = some c1 ∧ w2.cell? ⟨g, 2, none⟩ = some c2 ∧ w2.cell? ⟨g, 3, none⟩ = some c3 ∧ w2.cell? ⟨g, 4, none⟩ = some c4 ∧ g < w2.heap.size := by
  obtain ⟨q0, q1, q2, q3, q4, hlt⟩ := h
  have k (j : Nat) := hb.cell (p := ⟨g, j, none⟩) hlt
  exact ⟨(k 0).trans q0, (k 1).trans q1, (k 2).trans q2, (k 3).trans q3, (k 4).trans q4, Nat.lt_of_lt_of_le hlt hb.size⟩

set_option maxHeartbeats 800000 in
theorem awake16 (w : World) : Calls Try.prog 32 #[] w fun e w' => e = .returned (.bool true) ∧ Below w.heap.size w w' := by
  have s1 := sym_any 2 0 2 0 1
  rw [show symTok 2 0 2 0 1 = 314 from by decide, show chk 2 0 2 0 1 = 0 from by decide] at s1
  have o1 := Of_any 314
  rw [show ofK 314 = 2 from by decide, show ofB 314 = 0 from by decide, show ofR 314 = 1 from by decide, show ofS 314 = 0 from by decide, show ofE 314 = 0 from by decide] at o1
  have s2 := sym_any 3 0 0 0 0
  rw [show symTok 3 0 0 0 0 = 0 from by decide, show chk 3 0 0 0 0 = 10 from by decide] at s2
  have o2 := Of_any 401
  rw [show ofK 401 = 0 from by decide, show ofB 401 = 0 from by decide, show ofR 401 = 0 from by decide, show ofS 401 = 0 from by decide, show ofE 401 = 2 from by decide] at o2
  have z1 := size_any 2 0 2 0 1
  rw [show szTok 2 0 2 0 1 = 2 from by decide] at z1
  have z2 := size_any 0 7 0 0 0
  rw [show szTok 0 7 0 0 0 = 1 from by decide] at z2
  have c1 := check_any 0 7 1 0 0
  rw [show chk 0 7 1 0 0 = 10 from by decide] at c1
  have S1 := Lib.hid s1; have O1 := Lib.hid o1; have S2 := Lib.hid s2; have O2 := Lib.hid o2; have Z1 := Lib.hid z1; have Z2 := Lib.hid z2; have C1 := Lib.hid c1
  clear s1 o1 s2 o2 z1 z2 c1
  go_enter Try.func32, Try.ntmps32
  go_wp2_with fail
  refine (S1.out _).mono ?_; rintro e w1 ⟨rfl, hb1⟩
  obtain ⟨q0, q1, q2, q3, q4, hlt⟩ := box_start hb1
  have hc1 := below_box hb1; clear hb1
  go_wp2_with fail
  refine (O1.out _).mono ?_; rintro e w' ⟨rfl, rfl⟩
  go_wp2_with fail
  refine (S2.out _).mono ?_; rintro e w2 ⟨rfl, hb2⟩
  obtain ⟨r0, r1, r2, r3, r4, hlt2⟩ := box_keep hb2 ⟨q0, q1, q2, q3, q4, hlt⟩
  have hc2 := hc1.trans (hb2.mono hc1.size); clear hc1 hb2 q0 q1 q2 q3 q4 hlt
  go_wp2_with fail
  refine (O2.out _).mono ?_; rintro e w' ⟨rfl, rfl⟩
  go_wp2_with fail
  refine (Z1.out _).mono ?_; rintro e w3 ⟨rfl, hb3⟩
  have hc3 := hc2.trans (hb3.mono hc2.size); clear hc2 hb3 r0 r1 r2 r3 r4 hlt2
  go_wp2_with fail
  refine (Z2.out _).mono ?_; rintro e w4 ⟨rfl, hb4⟩
  have hc4 := hc3.trans (hb4.mono hc3.size); clear hc3 hb4
  go_wp2_with fail
  refine (C1.out _).mono ?_; rintro e w5 ⟨rfl, hb5⟩
  have hc5 := hc4.trans (hb5.mono hc4.size); clear hc4 hb5
  go_wp2_with fail
  go_ret
  exact ⟨rfl, hc5⟩
end Go.Proofs.Ytmpmioffngonjaa
