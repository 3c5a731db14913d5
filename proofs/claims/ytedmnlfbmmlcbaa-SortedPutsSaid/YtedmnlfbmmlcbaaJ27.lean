import Derived.Test.YtedmnlfbmmlcbaaJ26
import Derived.Test.YtedmnlfbmmlcbaaJ15
import Derived.Test.YtedmnlfbmmlcbaaJ02
/- Layer 50: Read. -/
namespace Go.Proofs.Ytedmnlfbmmlcbaa
open Go.ChangeShapes Go.WideShapes Go.ChangeAt Go.RowKit
set_option linter.unusedVariables false
set_option linter.unusedSimpArgs false
set_option maxRecDepth 100000
def Is3 (w : World) (g : Nat) (a b c : Int) : Prop := w.heap[g]? = some (.cells #[.int .i64 a, .int .i64 b, .int .i64 c] 39 (0, 0))
theorem Is3.c0 {w : World} {g : Nat} {a b c : Int} (h : Is3 w g a b c) : w.cell? ⟨g, 0, none⟩ = some (.int .i64 a) := cell_lit h 0 _ rfl
theorem Is3.c1 {w : World} {g : Nat} {a b c : Int} (h : Is3 w g a b c) : w.cell? ⟨g, 1, none⟩ = some (.int .i64 b) := cell_lit h 1 _ rfl
theorem Is3.c2 {w : World} {g : Nat} {a b c : Int} (h : Is3 w g a b c) : w.cell? ⟨g, 2, none⟩ = some (.int .i64 c) := cell_lit h 2 _ rfl
theorem Is3.free {w : World} {g : Nat} {a b c : Int} (h : Is3 w g a b c) (j : Nat) : w.frozen? ⟨g, j, none⟩ = false := free_in h j
theorem Is3.s0 {w : World} {g : Nat} {a b c : Int} (h : Is3 w g a b c) (x : Int) : Is3 (w.setCell ⟨g, 0, none⟩ (.int .i64 x)) g x b c := block_set h 0 (.int .i64 x)
theorem Is3.s1 {w : World} {g : Nat} {a b c : Int} (h : Is3 w g a b c) (x : Int) : Is3 (w.setCell ⟨g, 1, none⟩ (.int .i64 x)) g a x c := block_set h 1 (.int .i64 x)
theorem Is3.s2 {w : World} {g : Nat} {a b c : Int} (h : Is3 w g a b c) (x : Int) : Is3 (w.setCell ⟨g, 2, none⟩ (.int .i64 x)) g a b x := block_set h 2 (.int .i64 x)
theorem Is3.kept {w w' : World} {g : Nat} {a b c : Int} (h : Is3 w g a b c) (hb : Below w.heap.size w w') : Is3 w' g a b c := (hb.block _ (block_lt h)).trans h
set_option maxHeartbeats 3200000 in
theorem cReadOk (L R r : List UInt8) (w : World) (hL : L.length ≤ 1500) (hP : PutV L R) (hr : r.length ≤ 10) (hr0 : r = []) :
    Calls Try.prog 8 #[.string (sM (R ++ r))] w fun e w' => e = .returned (.tuple #[.string (sM L), .int .i64 0]) ∧ Below w.heap.size w w' := by
  have CP := Lib.hid (fun W => cPut L W hL)
  have HP := Lib.hid hP
  obtain ⟨a, at_, S, hs, ha, h0, hS, hR⟩ := hP
  have CX := Lib.hid (fun W => cText L L.length _ a at_ S r W rfl hL hs ha h0 hS rfl hr)
  have hzl := zp_len (tB L a at_)
  rw [tB_len] at hzl
  obtain ⟨x, hS', -, hSl⟩ := enc_ok (tB L a at_) (by rw [tB_len]; omega) []
  rw [hS] at hS'
  cases hS'
  obtain ⟨m, hm⟩ : ∃ m, (zp (tB L a at_)).length = m := ⟨_, rfl⟩
  obtain ⟨n, hn⟩ : ∃ n, L.length = n := ⟨_, rfl⟩
  rw [hm] at hR hzl hSl CX
  rw [hn] at hR hzl CX ha hL
  have hm5 := Vi.vb_len5 m (by omega)
  have ha5 := Vi.vb_len5 at_ (by omega)
  have C1 := Lib.hid (fun W => kRead n (Vi.vb at_ ++ (Vi.vb m ++ (S ++ r))) W (by omega) (by simp only [List.length_append]; omega))
  have C2 := Lib.hid (fun W => kRead at_ (Vi.vb m ++ (S ++ r)) W (by omega) (by simp only [List.length_append]; omega))
  have C3 := Lib.hid (fun W => kRead m (S ++ r) W (by omega) (by simp only [List.length_append]; omega))
  have e1 : R ++ r = Vi.vb n ++ (Vi.vb at_ ++ (Vi.vb m ++ (S ++ r))) := by rw [hR]; simp only [List.append_assoc]
  rw [← e1] at C1
  obtain ⟨B2, hB2⟩ : ∃ B, sM (Vi.vb at_ ++ (Vi.vb m ++ (S ++ r))) = B := ⟨_, rfl⟩
  obtain ⟨B3, hB3⟩ : ∃ B, sM (Vi.vb m ++ (S ++ r)) = B := ⟨_, rfl⟩
  obtain ⟨B4, hB4⟩ : ∃ B, sM (S ++ r) = B := ⟨_, rfl⟩
  rw [hB2] at C1 C2
  rw [hB3] at C2 C3
  rw [hB4] at C3 CX
  have hne : ((sM R).toList == (sM (R ++ r)).toList) = true := by rw [hr0, List.append_nil]; simp
  obtain ⟨B1, hB1⟩ : ∃ B, sM (R ++ r) = B := ⟨_, rfl⟩
  rw [hB1] at C1 hne ⊢
  obtain ⟨BR, hBR⟩ : ∃ B, sM R = B := ⟨_, rfl⟩
  rw [hBR] at hne
  have HR := Lib.hid (show ∀ R', PutV L R' → sM R' = BR from fun R' h => by rw [h.unique HP.out]; exact hBR)
  have n1 : decide ((65536 : Int) < n) = false := decide_eq_false (by omega)
  have n2 : decide (65536 < n) = false := decide_eq_false (by omega)
  have n3 : decide ((1048576 : Int) < m) = false := decide_eq_false (by omega)
  have n4 : decide (1048576 < m) = false := decide_eq_false (by omega)
  have hat : at_ ≤ 1500 := by omega
  have hm3 : m ≤ 1500 := by omega
  have H3 := Lib.hid (show Is3 (w.alloc (.cells #[.int .i64 0, .int .i64 0, .int .i64 0] 39)) w.heap.size 0 0 0 from by
    exact heap_alloc_new w _)
  have HB := Lib.hid ((Below.refl w.heap.size w).alloc (Nat.le_refl _) (.cells #[.int .i64 0, .int .i64 0, .int .i64 0] 39))
  clear hs ha h0 hS hR hzl hSl hm hm5 ha5 e1 hB2 hB3 hB4 hB1 hBR HP hn hr hr0
  go_enter Try.func8, Try.ntmps8
  go_wp2_with fail
  obtain ⟨g, hg⟩ : ∃ g, w.heap.size = g := ⟨_, rfl⟩
  rw [hg] at H3
  generalize w.alloc (.cells #[.int .i64 0, .int .i64 0, .int .i64 0] 39) = W0 at *
  have hgw : w.heap.size ≤ g := by omega
  rw [hg]
  clear hg
  refine wp_loop_rounds 4 ?_
  rw [rounds_succ]
  go_wp2_with fail
  refine (C1.out _).mono ?_; rintro e w1 ⟨rfl, hb⟩
  have H3 := Lib.hid (H3.out.kept hb)
  have HB := Lib.hid (HB.out.trans (hb.mono HB.out.size))
  clear hb C1
  have c := H3.out.c0
  have f := H3.out.free 0
  have H3 := Lib.hid (H3.out.s0 n)
  have HB := Lib.hid (HB.out.setCell (p := ⟨g, 0, none⟩) hgw (.int .i64 n))
  go_wp2_with fail
  clear c f
  generalize w1.setCell ⟨g, 0, none⟩ (.int .i64 (n : Int)) = W1 at *
  rw [rounds_succ]
  go_wp2_with fail
  refine (C2.out _).mono ?_; rintro e w2 ⟨rfl, hb⟩
  have H3 := Lib.hid (H3.out.kept hb)
  have HB := Lib.hid (HB.out.trans (hb.mono HB.out.size))
  clear hb C2
  have c := H3.out.c1
  have f := H3.out.free 1
  have H3 := Lib.hid (H3.out.s1 at_)
  have HB := Lib.hid (HB.out.setCell (p := ⟨g, 1, none⟩) hgw (.int .i64 at_))
  go_wp2_with fail
  clear c f
  generalize w2.setCell ⟨g, 1, none⟩ (.int .i64 (at_ : Int)) = W2 at *
  rw [rounds_succ]
  go_wp2_with fail
  refine (C3.out _).mono ?_; rintro e w3 ⟨rfl, hb⟩
  have H3 := Lib.hid (H3.out.kept hb)
  have HB := Lib.hid (HB.out.trans (hb.mono HB.out.size))
  clear hb C3
  have c := H3.out.c2
  have f := H3.out.free 2
  have H3 := Lib.hid (H3.out.s2 m)
  have HB := Lib.hid (HB.out.setCell (p := ⟨g, 2, none⟩) hgw (.int .i64 m))
  go_wp2_with fail
  clear c f
  generalize w3.setCell ⟨g, 2, none⟩ (.int .i64 (m : Int)) = W3 at *
  have c0 := H3.out.c0
  have c1 := H3.out.c1
  have c2 := H3.out.c2
  rw [rounds_succ]
  go_wp2_with fail
  refine (CX.out _).mono ?_; rintro e w4 ⟨rfl, hb⟩
  have HB := Lib.hid (HB.out.trans (hb.mono HB.out.size))
  clear hb CX c0 c1 c2
  go_wp2_with fail
  refine (CP.out _).mono ?_; rintro e w5 ⟨R', rfl, hP', hb⟩
  have hR' := HR.out R' hP'
  rw [hR']
  have HB := Lib.hid (HB.out.trans (hb.mono HB.out.size))
  clear hb CP hP' hR' HR
  go_wp2_with fail
  all_goals go_ret2
  exact ⟨rfl, HB.out⟩
set_option maxHeartbeats 3200000 in
theorem cReadLong (L R r : List UInt8) (w : World) (hL : L.length ≤ 1500) (hP : PutV L R) (hr : r.length ≤ 10) (hr0 : r = [121]) :
    Calls Try.prog 8 #[.string (sM (R ++ r))] w fun e w' => e = .returned (.tuple #[.string ⟨#[]⟩, .int .i64 4]) ∧ Below w.heap.size w w' := by
  have CP := Lib.hid (fun W => cPut L W hL)
  have HP := Lib.hid hP
  obtain ⟨a, at_, S, hs, ha, h0, hS, hR⟩ := hP
  have CX := Lib.hid (fun W => cText L L.length _ a at_ S r W rfl hL hs ha h0 hS rfl hr)
  have hzl := zp_len (tB L a at_)
  rw [tB_len] at hzl
  obtain ⟨x, hS', -, hSl⟩ := enc_ok (tB L a at_) (by rw [tB_len]; omega) []
  rw [hS] at hS'
  cases hS'
  obtain ⟨m, hm⟩ : ∃ m, (zp (tB L a at_)).length = m := ⟨_, rfl⟩
  obtain ⟨n, hn⟩ : ∃ n, L.length = n := ⟨_, rfl⟩
  rw [hm] at hR hzl hSl CX
  rw [hn] at hR hzl CX ha hL
  have hm5 := Vi.vb_len5 m (by omega)
  have ha5 := Vi.vb_len5 at_ (by omega)
  have C1 := Lib.hid (fun W => kRead n (Vi.vb at_ ++ (Vi.vb m ++ (S ++ r))) W (by omega) (by simp only [List.length_append]; omega))
  have C2 := Lib.hid (fun W => kRead at_ (Vi.vb m ++ (S ++ r)) W (by omega) (by simp only [List.length_append]; omega))
  have C3 := Lib.hid (fun W => kRead m (S ++ r) W (by omega) (by simp only [List.length_append]; omega))
  have e1 : R ++ r = Vi.vb n ++ (Vi.vb at_ ++ (Vi.vb m ++ (S ++ r))) := by rw [hR]; simp only [List.append_assoc]
  rw [← e1] at C1
  obtain ⟨B2, hB2⟩ : ∃ B, sM (Vi.vb at_ ++ (Vi.vb m ++ (S ++ r))) = B := ⟨_, rfl⟩
  obtain ⟨B3, hB3⟩ : ∃ B, sM (Vi.vb m ++ (S ++ r)) = B := ⟨_, rfl⟩
  obtain ⟨B4, hB4⟩ : ∃ B, sM (S ++ r) = B := ⟨_, rfl⟩
  rw [hB2] at C1 C2
  rw [hB3] at C2 C3
  rw [hB4] at C3 CX
  have hne : ((sM R).toList == (sM (R ++ r)).toList) = false := by rw [hr0, sM_toList, sM_toList, beq_eq_false_iff_ne]; intro h; have := congrArg List.length h; simp at this
  obtain ⟨B1, hB1⟩ : ∃ B, sM (R ++ r) = B := ⟨_, rfl⟩
  rw [hB1] at C1 hne ⊢
  obtain ⟨BR, hBR⟩ : ∃ B, sM R = B := ⟨_, rfl⟩
  rw [hBR] at hne
  have HR := Lib.hid (show ∀ R', PutV L R' → sM R' = BR from fun R' h => by rw [h.unique HP.out]; exact hBR)
  have n1 : decide ((65536 : Int) < n) = false := decide_eq_false (by omega)
  have n2 : decide (65536 < n) = false := decide_eq_false (by omega)
  have n3 : decide ((1048576 : Int) < m) = false := decide_eq_false (by omega)
  have n4 : decide (1048576 < m) = false := decide_eq_false (by omega)
  have hat : at_ ≤ 1500 := by omega
  have hm3 : m ≤ 1500 := by omega
  have H3 := Lib.hid (show Is3 (w.alloc (.cells #[.int .i64 0, .int .i64 0, .int .i64 0] 39)) w.heap.size 0 0 0 from by
    exact heap_alloc_new w _)
  have HB := Lib.hid ((Below.refl w.heap.size w).alloc (Nat.le_refl _) (.cells #[.int .i64 0, .int .i64 0, .int .i64 0] 39))
  clear hs ha h0 hS hR hzl hSl hm hm5 ha5 e1 hB2 hB3 hB4 hB1 hBR HP hn hr hr0
  go_enter Try.func8, Try.ntmps8
  go_wp2_with fail
  obtain ⟨g, hg⟩ : ∃ g, w.heap.size = g := ⟨_, rfl⟩
  rw [hg] at H3
  generalize w.alloc (.cells #[.int .i64 0, .int .i64 0, .int .i64 0] 39) = W0 at *
  have hgw : w.heap.size ≤ g := by omega
  rw [hg]
  clear hg
  refine wp_loop_rounds 4 ?_
  rw [rounds_succ]
  go_wp2_with fail
  refine (C1.out _).mono ?_; rintro e w1 ⟨rfl, hb⟩
  have H3 := Lib.hid (H3.out.kept hb)
  have HB := Lib.hid (HB.out.trans (hb.mono HB.out.size))
  clear hb C1
  have c := H3.out.c0
  have f := H3.out.free 0
  have H3 := Lib.hid (H3.out.s0 n)
  have HB := Lib.hid (HB.out.setCell (p := ⟨g, 0, none⟩) hgw (.int .i64 n))
  go_wp2_with fail
  clear c f
  generalize w1.setCell ⟨g, 0, none⟩ (.int .i64 (n : Int)) = W1 at *
  rw [rounds_succ]
  go_wp2_with fail
  refine (C2.out _).mono ?_; rintro e w2 ⟨rfl, hb⟩
  have H3 := Lib.hid (H3.out.kept hb)
  have HB := Lib.hid (HB.out.trans (hb.mono HB.out.size))
  clear hb C2
  have c := H3.out.c1
  have f := H3.out.free 1
  have H3 := Lib.hid (H3.out.s1 at_)
  have HB := Lib.hid (HB.out.setCell (p := ⟨g, 1, none⟩) hgw (.int .i64 at_))
  go_wp2_with fail
  clear c f
  generalize w2.setCell ⟨g, 1, none⟩ (.int .i64 (at_ : Int)) = W2 at *
  rw [rounds_succ]
  go_wp2_with fail
  refine (C3.out _).mono ?_; rintro e w3 ⟨rfl, hb⟩
  have H3 := Lib.hid (H3.out.kept hb)
  have HB := Lib.hid (HB.out.trans (hb.mono HB.out.size))
  clear hb C3
  have c := H3.out.c2
  have f := H3.out.free 2
  have H3 := Lib.hid (H3.out.s2 m)
  have HB := Lib.hid (HB.out.setCell (p := ⟨g, 2, none⟩) hgw (.int .i64 m))
  go_wp2_with fail
  clear c f
  generalize w3.setCell ⟨g, 2, none⟩ (.int .i64 (m : Int)) = W3 at *
  have c0 := H3.out.c0
  have c1 := H3.out.c1
  have c2 := H3.out.c2
  rw [rounds_succ]
  go_wp2_with fail
  refine (CX.out _).mono ?_; rintro e w4 ⟨rfl, hb⟩
  have HB := Lib.hid (HB.out.trans (hb.mono HB.out.size))
  clear hb CX c0 c1 c2
  go_wp2_with fail
  refine (CP.out _).mono ?_; rintro e w5 ⟨R', rfl, hP', hb⟩
  have hR' := HR.out R' hP'
  rw [hR']
  have HB := Lib.hid (HB.out.trans (hb.mono HB.out.size))
  clear hb CP hP' hR' HR
  go_wp2_with fail
  all_goals go_ret2
  exact ⟨rfl, HB.out⟩
end Go.Proofs.Ytedmnlfbmmlcbaa

/- Layer 50: the chapter's example. -/
namespace Go.Proofs.Ytedmnlfbmmlcbaa
open Go.ChangeShapes Go.WideShapes Go.ChangeAt Go.RowKit
set_option linter.unusedVariables false
set_option linter.unusedSimpArgs false
set_option maxRecDepth 100000
def banL : List UInt8 := [98, 97, 110, 97, 110, 97, 32, 98, 97, 110, 97, 110, 97, 32, 98, 97, 110, 97, 110, 97, 32, 98, 97, 110, 97, 110, 97, 32, 98, 97, 110, 97, 110, 97, 32, 98, 97, 110, 97, 110, 97]
def banA : List Nat := [34, 27, 20, 13, 6, 40, 33, 26, 19, 12, 5, 38, 31, 24, 17, 10, 3, 36, 29, 22, 15, 8, 1, 35, 28, 21, 14, 7, 0, 39, 32, 25, 18, 11, 4, 37, 30, 23, 16, 9, 2]
theorem ban_suf : IsSuf banL banA := ⟨by decide +kernel, by decide +kernel, by decide +kernel⟩
theorem ban_put : ∃ R, PutV banL R ∧ R.length < 41 := by
  obtain ⟨S, h1, -, -⟩ := enc_ok (tB banL banA 29) (by rw [tB_len]; decide) []
  refine ⟨_, ⟨banA, 29, S, ban_suf, by decide, by decide, h1, rfl⟩, ?_⟩
  have h2 : (encB (zp (tB banL banA 29)) 9).1.length + ((Vi.vb banL.length).length + ((Vi.vb 29).length + (Vi.vb (zp (tB banL banA 29)).length).length)) < 41 := by decide +kernel
  rw [h1] at h2
  dsimp only at h2
  simp only [List.length_append]
  omega
theorem nil_put : PutV [] [0, 0, 0] := ⟨[], 0, [], ⟨by decide, by decide, by decide⟩, by decide, by decide, by decide +kernel, by decide +kernel⟩
theorem kRead0 (W : World) : Calls Try.prog 19 #[.string ⟨#[]⟩] W fun e w' => e = .returned (.tuple #[.int .i64 0, .string ⟨#[]⟩, .int .i64 3]) ∧ Below W.heap.size W w' := by
  refine (Vi.read_any (sM []) (by decide) W).mono ?_
  rintro e w' ⟨⟨q, rfl⟩, rfl⟩
  exact ⟨rfl, below_dn (Below.refl _ _) q⟩
set_option maxHeartbeats 3200000 in
theorem cReadShort (w : World) :
    Calls Try.prog 8 #[.string ⟨#[0, 0]⟩] w fun e w' => e = .returned (.tuple #[.string ⟨#[]⟩, .int .i64 3]) ∧ Below w.heap.size w w' := by
  have C1 := Lib.hid (show ∀ W, Calls Try.prog 19 #[.string ⟨#[0, 0]⟩] W fun e w' => e = .returned (.tuple #[.int .i64 0, .string ⟨#[0]⟩, .int .i64 0]) ∧ Below W.heap.size W w' from fun W => kRead 0 [0] W (by decide) (by decide))
  have C2 := Lib.hid (show ∀ W, Calls Try.prog 19 #[.string ⟨#[0]⟩] W fun e w' => e = .returned (.tuple #[.int .i64 0, .string ⟨#[]⟩, .int .i64 0]) ∧ Below W.heap.size W w' from fun W => kRead 0 [] W (by decide) (by decide))
  have C3 := Lib.hid kRead0
  have H3 := Lib.hid (show Is3 (w.alloc (.cells #[.int .i64 0, .int .i64 0, .int .i64 0] 39)) w.heap.size 0 0 0 from by
    exact heap_alloc_new w _)
  have HB := Lib.hid ((Below.refl w.heap.size w).alloc (Nat.le_refl _) (.cells #[.int .i64 0, .int .i64 0, .int .i64 0] 39))
  go_enter Try.func8, Try.ntmps8
  go_wp2_with fail
  obtain ⟨g, hg⟩ : ∃ g, w.heap.size = g := ⟨_, rfl⟩
  rw [hg] at H3
  generalize w.alloc (.cells #[.int .i64 0, .int .i64 0, .int .i64 0] 39) = W0 at *
  have hgw : w.heap.size ≤ g := by omega
  rw [hg]
  clear hg
  refine wp_loop_rounds 4 ?_
  rw [rounds_succ]
  go_wp2_with fail
  refine (C1.out _).mono ?_; rintro e w1 ⟨rfl, hb⟩
  have H3 := Lib.hid (H3.out.kept hb)
  have HB := Lib.hid (HB.out.trans (hb.mono HB.out.size))
  clear hb C1
  have c := H3.out.c0
  have f := H3.out.free 0
  have H3 := Lib.hid (H3.out.s0 0)
  have HB := Lib.hid (HB.out.setCell (p := ⟨g, 0, none⟩) hgw (.int .i64 0))
  go_wp2_with fail
  clear c f
  generalize w1.setCell ⟨g, 0, none⟩ (.int .i64 0) = W1 at *
  rw [rounds_succ]
  go_wp2_with fail
  refine (C2.out _).mono ?_; rintro e w2 ⟨rfl, hb⟩
  have H3 := Lib.hid (H3.out.kept hb)
  have HB := Lib.hid (HB.out.trans (hb.mono HB.out.size))
  clear hb C2
  have c := H3.out.c1
  have f := H3.out.free 1
  have H3 := Lib.hid (H3.out.s1 0)
  have HB := Lib.hid (HB.out.setCell (p := ⟨g, 1, none⟩) hgw (.int .i64 0))
  go_wp2_with fail
  clear c f
  generalize w2.setCell ⟨g, 1, none⟩ (.int .i64 0) = W2 at *
  rw [rounds_succ]
  go_wp2_with fail
  refine (C3.out _).mono ?_; rintro e w3 ⟨rfl, hb⟩
  have H3 := Lib.hid (H3.out.kept hb)
  have HB := Lib.hid (HB.out.trans (hb.mono HB.out.size))
  clear hb C3
  have c := H3.out.c2
  have f := H3.out.free 2
  have H3 := Lib.hid (H3.out.s2 0)
  have HB := Lib.hid (HB.out.setCell (p := ⟨g, 2, none⟩) hgw (.int .i64 0))
  go_wp2_with fail
  go_ret2
  exact ⟨rfl, HB.out⟩
set_option maxHeartbeats 3200000 in
theorem awake50 (w : World) : Calls Try.prog 5 #[] w fun e w' => e = .returned (.bool true) ∧ Below w.heap.size w w' := by
  obtain ⟨R, hR, hlt⟩ := ban_put
  obtain ⟨k, hk⟩ : ∃ k, R.length = k := ⟨_, rfl⟩
  have C0 := Lib.hid (fun W => cPut [] W (by decide))
  have C1 := Lib.hid (fun W => cPut banL W (by decide))
  have C2 := Lib.hid (fun W => cReadOk banL R [] W (by decide) hR (by decide) rfl)
  have C3 := Lib.hid cReadShort
  have C4 := Lib.hid (fun W => cReadLong banL R [121] W (by decide) hR (by decide) rfl)
  have U0 := Lib.hid (show ∀ R', PutV [] R' → R' = [0, 0, 0] from fun R' h => h.unique nil_put)
  have U1 := Lib.hid (show ∀ R', PutV banL R' → R' = R from fun R' h => h.unique hR)
  have hadd : sM R ++ (⟨#[121]⟩ : ByteArray) = sM (R ++ [121]) := by simp [sM, ByteArray.mk_append_mk]
  rw [List.append_nil] at C2
  have hsz : (sM R).size = k := by rw [sM_size, hk]
  obtain ⟨A, hA⟩ : ∃ A, sM R = A := ⟨_, rfl⟩
  rw [hA] at C2 hadd hsz
  rw [← hadd] at C4
  have hk1 : decide ((k : Int) < 41) = true := decide_eq_true (by omega)
  have hk2 : decide (k < 41) = true := decide_eq_true (by omega)
  have hk3 : k < 41 := by omega
  have HA := Lib.hid hA
  have y2 : (sM banL).toList = [98, 97, 110, 97, 110, 97, 32, 98, 97, 110, 97, 110, 97, 32, 98, 97, 110, 97, 110, 97, 32, 98, 97, 110, 97, 110, 97, 32, 98, 97, 110, 97, 110, 97, 32, 98, 97, 110, 97, 110, 97] := sM_toList banL
  have y0 : (sM [0, 0, 0]).toList = [0, 0, 0] := sM_toList _
  clear hR hadd hk hlt hA
  go_enter Try.func5, Try.ntmps5
  go_wp2_with fail
  refine (C0.out _).mono ?_; rintro e w1 ⟨R', rfl, hp, hb⟩
  obtain rfl := U0.out R' hp
  have HB := Lib.hid hb
  clear hb hp C0 U0
  go_wp2_with fail
  refine (C1.out _).mono ?_; rintro e w2 ⟨R', rfl, hp, hb⟩
  obtain rfl := U1.out R' hp
  rw [HA.out]
  have HB := Lib.hid (HB.out.trans (hb.mono HB.out.size))
  clear hb hp C1 U1
  go_wp2_with fail
  refine (C2.out _).mono ?_; rintro e w3 ⟨rfl, hb⟩
  have HB := Lib.hid (HB.out.trans (hb.mono HB.out.size))
  clear hb C2
  go_wp2_with fail
  refine (C3.out _).mono ?_; rintro e w4 ⟨rfl, hb⟩
  have HB := Lib.hid (HB.out.trans (hb.mono HB.out.size))
  clear hb C3
  go_wp2_with fail
  refine (C4.out _).mono ?_; rintro e w5 ⟨rfl, hb⟩
  have HB := Lib.hid (HB.out.trans (hb.mono HB.out.size))
  clear hb C4
  go_wp2_with fail
  go_ret
  exact ⟨rfl, HB.out⟩
end Go.Proofs.Ytedmnlfbmmlcbaa

/- Layer 50: the document's Put; SortedPuts and SortedBack. -/
namespace Go.Proofs.Ytedmnlfbmmlcbaa
open Go.ChangeShapes Go.WideShapes Go.ChangeAt Go.RowKit
set_option linter.unusedVariables false
set_option linter.unusedSimpArgs false
set_option maxRecDepth 100000
theorem kMoveD (T : List UInt8) (W : World) (h : T.length ≤ 3000) : Calls Try.prog 16 #[.string (sM T)] W fun e w' => ∃ v', e = .returned v' ∧ IsL w' v' (mv T) ∧ Below W.heap.size W w' := by
  have := Mtf.rMove (sM T) (by rw [sM_size]; exact h) W
  rwa [sM_list] at this
theorem kPackD (v : Value) (T : List UInt8) (W : World) (h : IsL W v (mv T)) (hT : T.length ≤ 3000) : Calls Try.prog 15 #[v] W fun e w' => ∃ a c, e = .returned (.tuple #[.slice a (zp T).length c, .int .i64 0]) ∧ IsInts w' a (zp T) ∧ Below W.heap.size W w' := by
  refine (Zero.rPackA h (by rw [mv_len]; omega)).mono ?_
  rintro e w' ⟨v', rfl, h1, h2⟩
  rw [(mv_pack T).2] at h1
  obtain ⟨a, c, rfl, h1⟩ := h1
  rw [(mv_pack T).1]
  exact ⟨a, c, rfl, h1, h2⟩
theorem kNumD (n : Nat) (W : World) (h : n ≤ 4294967295) : Calls Try.prog 17 #[.int .i64 n] W fun e w' => e = .returned (.tuple #[.string (sM (Vi.vb n)), .int .i64 0]) ∧ Below W.heap.size W w' := Vi.refPut_in n h W
theorem kEncD (a : Option Addr) (c : Nat) (T S : List UInt8) (W : World) (h : IsInts W a (zp T)) (hT : T.length ≤ 3000) (hS : encB (zp T) 9 = (S, 0)) : Calls Try.prog 18 #[.slice a (zp T).length c, .int .i64 9] W fun e w' => e = .returned (.tuple #[.string (sM S), .int .i64 0]) ∧ Below W.heap.size W w' :=
  bEncodeT ⟨a, c, rfl, h⟩ (by have := zp_len T; omega) 9 S 0 hS
set_option maxHeartbeats 3200000 in
theorem dPut (L : List UInt8) (w : World) (hL : L.length ≤ 1500) :
    Calls Try.prog 7 #[.string (sM L)] w fun e w' => ∃ R, e = .returned (.tuple #[.string (sM R), .int .i64 0]) ∧ PutV L R ∧ Below w.heap.size w w' := by
  obtain ⟨n, hn⟩ : ∃ n, L.length = n := ⟨_, rfl⟩
  have hS : (sM L).size = n := by rw [sM_size, hn]
  have d1 : decide ((65536 : Int) < n) = false := decide_eq_false (by omega)
  have d2 : decide (65536 < n) = false := decide_eq_false (by omega)
  have hn3 : n ≤ 1500 := by omega
  have CT := Lib.hid (fun W => dTurnB L W (by omega))
  go_enter Try.func7, Try.ntmps7
  go_wp2_with fail
  refine (CT.out _).mono ?_; rintro e w1 ⟨a, at_, rfl, hs, ha, h0, hb⟩
  have hTl := tB_len L a at_
  have ha3 : at_ ≤ 1500 := by omega
  obtain ⟨S, hS1, -, hS2⟩ := enc_ok (tB L a at_) (by omega) []
  have HP := Lib.hid (show PutV L (Vi.vb n ++ (Vi.vb at_ ++ (Vi.vb (zp (tB L a at_)).length ++ S))) from ⟨a, at_, S, hs, ha, h0, hS1, by rw [hn]⟩)
  have hzl := zp_len (tB L a at_)
  obtain ⟨T, hT⟩ : ∃ T, tB L a at_ = T := ⟨_, rfl⟩
  rw [hT] at HP hTl hS1 hS2 hzl ⊢
  obtain ⟨m, hm⟩ : ∃ m, (zp T).length = m := ⟨_, rfl⟩
  have HSz : (sM S).size ≤ 60000 := by rw [sM_size]; omega
  have CM := Lib.hid (fun W => kMoveD T W (by omega))
  have CP := Lib.hid (fun v W h => kPackD v T W h (by omega))
  have CN := Lib.hid (fun W => kNumD n W (by omega))
  have CA := Lib.hid (fun W => kNumD at_ W (by omega))
  have CZ := Lib.hid (fun W => kNumD m W (by omega))
  have CE := Lib.hid (fun aa c W h => kEncD aa c T S W h (by omega) hS1)
  have f1 := five n (by omega)
  have f2 := five at_ (by omega)
  have f3 := five m (by omega)
  have hm3 : m ≤ 1500 := by omega
  rw [hm] at HP CP CE
  obtain ⟨R, hR⟩ : ∃ R, Vi.vb n ++ (Vi.vb at_ ++ (Vi.vb m ++ S)) = R := ⟨_, rfl⟩
  rw [hR] at HP
  have HE := Lib.hid (show sM (Vi.vb n) ++ sM (Vi.vb at_) ++ sM (Vi.vb m) ++ sM S = sM R by
    rw [← hR]
    simp [sM, ByteArray.mk_append_mk])
  obtain ⟨A1, hA1⟩ : ∃ A1, sM (Vi.vb n) = A1 := ⟨_, rfl⟩
  obtain ⟨A2, hA2⟩ : ∃ A2, sM (Vi.vb at_) = A2 := ⟨_, rfl⟩
  obtain ⟨A3, hA3⟩ : ∃ A3, sM (Vi.vb m) = A3 := ⟨_, rfl⟩
  obtain ⟨A4, hA4⟩ : ∃ A4, sM S = A4 := ⟨_, rfl⟩
  rw [hA1] at CN f1 HE
  rw [hA2] at CA f2 HE
  rw [hA3] at CZ f3 HE
  rw [hA4] at CE HSz HE
  have HB := Lib.hid hb
  clear hs ha h0 hb hTl hT hm hS1 hS2 hzl hR hA1 hA2 hA3 hA4 hn
  go_wp2_with fail
  refine (CM.out _).mono ?_; rintro e w2 ⟨v, rfl, hv, hb2⟩
  have HV := Lib.hid hv
  have HB := Lib.hid (HB.out.trans (hb2.mono HB.out.size))
  clear hv hb2 CM
  go_wp2_with fail
  refine (CP.out _ _ HV.out).mono ?_; rintro e w3 ⟨za, zc, rfl, hz, hb3⟩
  have HZ := Lib.hid hz
  have HB := Lib.hid (HB.out.trans (hb3.mono HB.out.size))
  clear hz hb3 CP HV
  go_wp2_with fail
  refine (CN.out _).mono ?_; rintro e w4 ⟨rfl, hb4⟩
  have HZ := Lib.hid (HZ.out.kept hb4)
  have HB := Lib.hid (HB.out.trans (hb4.mono HB.out.size))
  clear hb4
  go_wp2_with fail
  refine (CA.out _).mono ?_; rintro e w5 ⟨rfl, hb4⟩
  have HZ := Lib.hid (HZ.out.kept hb4)
  have HB := Lib.hid (HB.out.trans (hb4.mono HB.out.size))
  clear hb4
  go_wp2_with fail
  refine (CZ.out _).mono ?_; rintro e w6 ⟨rfl, hb4⟩
  have HZ := Lib.hid (HZ.out.kept hb4)
  have HB := Lib.hid (HB.out.trans (hb4.mono HB.out.size))
  clear hb4
  go_wp2_with fail
  refine (CE.out _ _ _ HZ.out).mono ?_; rintro e w7 ⟨rfl, hb4⟩
  have HB := Lib.hid (HB.out.trans (hb4.mono HB.out.size))
  clear hb4
  go_wp2_with fail
  go_ret2
  exact ⟨R, by rw [← HE.out]; rfl, HP.out, HB.out⟩
set_option maxHeartbeats 3200000 in
theorem puts_walk (L : List UInt8) (w : World) (hL : L.length ≤ 150) :
    Calls Try.prog 3 #[.string (sM L)] w fun e w' => e = .returned (.bool true) ∧ Below w.heap.size w w' := by
  have hS : (sM L).size = L.length := sM_size L
  have CC := Lib.hid (fun W => cPut L W (by omega))
  have CD := Lib.hid (fun W => dPut L W (by omega))
  have hti : ¬ (150 : Int) < L.length := by omega
  go_enter Try.func3, Try.ntmps3
  go_wp2_with fail
  refine (CC.out _).mono ?_; rintro e w1 ⟨R, rfl, hp, hb⟩
  have HB := Lib.hid hb
  have HP := Lib.hid hp
  clear hp hb CC
  go_wp2_with fail
  refine (CD.out _).mono ?_; rintro e w2 ⟨R', rfl, hp, hb⟩
  obtain rfl := HP.out.unique hp
  have HB := Lib.hid (HB.out.trans (hb.mono HB.out.size))
  clear hp hb CD HP
  go_wp2_with fail
  refine (awake50 _).mono ?_; rintro e wx ⟨rfl, hb⟩
  have HB := Lib.hid (HB.out.trans (hb.mono HB.out.size))
  clear hb
  go_wp2_with fail
  go_ret
  exact ⟨rfl, HB.out⟩
set_option maxHeartbeats 3200000 in
theorem back50_walk (L : List UInt8) (w : World) (hL : L.length ≤ 1500) :
    Calls Try.prog 4 #[.string (sM L)] w fun e w' => e = .returned (.bool true) ∧ Below w.heap.size w w' := by
  have hS : (sM L).size = L.length := sM_size L
  have CC := Lib.hid (fun W => cPut L W (by omega))
  have hti : ¬ (1500 : Int) < L.length := by omega
  go_enter Try.func4, Try.ntmps4
  go_wp2_with fail
  refine (CC.out _).mono ?_; rintro e w1 ⟨R, rfl, hp, hb⟩
  have HB := Lib.hid hb
  have CR := Lib.hid (fun W => cReadOk L R [] W hL hp (by decide) rfl)
  rw [List.append_nil] at CR
  clear hp hb CC
  go_wp2_with fail
  refine (CR.out _).mono ?_; rintro e w2 ⟨rfl, hb⟩
  have HB := Lib.hid (HB.out.trans (hb.mono HB.out.size))
  clear hb CR
  go_wp2_with fail
  refine (awake50 _).mono ?_; rintro e wx ⟨rfl, hb⟩
  have HB := Lib.hid (HB.out.trans (hb.mono HB.out.size))
  clear hb
  go_wp2_with fail
  go_ret
  exact ⟨rfl, HB.out⟩
end Go.Proofs.Ytedmnlfbmmlcbaa
