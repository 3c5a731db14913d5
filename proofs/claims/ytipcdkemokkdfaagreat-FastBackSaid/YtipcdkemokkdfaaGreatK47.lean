import Derived.Test.YtipcdkemokkdfaaGreatK46
/- Layer 30: the law FastBack, the walk. -/
namespace Go.Proofs.YtipcdkemokkdfaaGreat
open Go.ChangeShapes Go.WideShapes Go.ChangeAt Go.RowKit
open Tok (OkTok chk chk_no chk_yes)
set_option linter.unusedVariables false
set_option linter.unusedSimpArgs false
set_option maxRecDepth 100000
/-- What coded.Put tells of any few tokens. -/
theorem cPutAny (a : Option Addr) (c n : Nat) (l : List Tk) (hl : l.length = n) (hn : n ≤ 60) : ∃ (S : ByteArray) (E : Int), (∀ w, IsTk w a l → Calls Tryz.prog 9 #[.slice a n c] w fun e w' => e = .returned (.tuple #[.string S, .int .i64 E]) ∧ Below w.heap.size w w') ∧ (E = 0 → Kt27 l ∧ S = ⟨(bytesK l).toArray⟩) := by
  by_cases h0 : n = 0
  · subst h0
    exact ⟨_, 1, fun w _ => cPutNone a c w, fun e => absurd e (by decide)⟩
  · by_cases hok : ∀ t ∈ l, t.ok
    · exact ⟨_, 0, fun w h => cPutK a c n l w hl h h0 (by omega) hok, fun _ => ⟨⟨fun e => h0 (by rw [← hl, e]; rfl), by omega, hok⟩, rfl⟩⟩
    · exact ⟨_, 10, fun w h => cPutNot a c n l w hl h h0 (by omega) hok, fun e => absurd e (by decide)⟩
set_option maxHeartbeats 3200000 in
theorem fast_walk (size : Nat) (raw : Int) (s : ByteArray) (q : Q4) (a : Option Addr) (c n : Nat) (l : List Tk) (hl : l.length = n) (hs : s.size ≤ 500) (hn : n ≤ 60) (hz1 : 1 ≤ size) (hz2 : size ≤ 1000) (w : World) (h : IsTk w a l) :
    Calls Tryz.prog 3 #[.agg #[.int .i64 size, .string s, .int .i64 q.a, .int .i64 q.b, .int .i64 q.c, .int .i64 q.d, .int .i64 raw], .slice a n c] w fun e w' => e = .returned (.bool true) ∧ Below w.heap.size w w' := by
  have hb0 := (Below.refl w.heap.size w).alloc (Nat.le_refl _) (.cells (box7 size s q raw) 25)
  have he0 := heap_alloc_new w (.cells (box7 size s q raw) 25)
  obtain ⟨g0, hg0⟩ : ∃ g0, w.heap.size = g0 := ⟨_, rfl⟩
  obtain ⟨w0, hw0⟩ : ∃ w0, w.alloc (.cells (box7 size s q raw) 25) = w0 := ⟨_, rfl⟩
  rw [hw0] at he0 hb0
  rw [hg0] at he0
  have HB0 := Lib.hid hb0
  have HBX := Lib.hid (show ∀ W, Below w0.heap.size w0 W → W.heap[g0]? = some (.cells (box7 size s q raw) 25 (0, 0)) from fun W hb => (hb.block _ (block_lt he0)).trans he0)
  have HTK := Lib.hid (show ∀ W, Below w0.heap.size w0 W → IsTk W a l from fun W hb => (h.kept hb0).kept hb)
  have hg0l : g0 < w0.heap.size := block_lt he0
  have CA := Lib.hid awake30
  obtain ⟨H, hH⟩ : ∃ H, lastN size s.data.toList = H := ⟨_, rfl⟩
  have hHl : H.length ≤ 500 := by
    rw [← hH, lastN_len]
    have : s.data.toList.length = s.size := by simp
    omega
  have hHs : lastN size ([] ++ s.data.toList) = H := by rw [List.nil_append, hH]
  have hHH : lastI (size : Int) H = H := by
    unfold lastI
    rw [if_neg (by omega), Int.toNat_natCast]
    exact lastN_all _ _ (by rw [← hH, lastN_len]; omega)
  obtain ⟨⟨R, Q, E⟩, hR⟩ : ∃ r, appS size l q H = r := ⟨_, rfl⟩
  have HR := Lib.hid hR
  obtain ⟨S, F, hP, hK⟩ := cPutAny a c n l hl hn
  have HP := Lib.hid hP
  have HK := Lib.hid hK
  have HHS := Lib.hid hHs
  have HHH := Lib.hid hHH
  have HL := Lib.hid hl
  have CD0 := fun W h => dApply a c H q l size W h (by omega) (by omega) R Q E hR
  rw [hl] at CD0
  have CD : Hid (∀ W, IsTk W a l → Calls Tryz.prog 8 #[.string (sOf H), .agg #[.int .i64 q.a, .int .i64 q.b, .int .i64 q.c, .int .i64 q.d], .slice a n c, .int .i64 size] W fun e w' => e = .returned (.tuple #[.string (sOf R), .agg #[.int .i64 Q.a, .int .i64 Q.b, .int .i64 Q.c, .int .i64 Q.d], .int .i64 E]) ∧ Below W.heap.size W w') := Lib.hid CD0
  clear CD0
  have hz1i : ¬ (size : Int) < 1 := by omega
  have hz2i : ¬ (1000 : Int) < (size : Int) := by omega
  have hsi : ¬ (500 : Int) < (s.size : Int) := by omega
  have hni : ¬ (60 : Int) < (n : Int) := by omega
  have HG0 := Lib.hid hg0
  have HW0 := Lib.hid hw0
  clear hb0 he0 h hH hHs hHH hR hP hK hl hg0 hw0
  go_enter Tryz.func3, Tryz.ntmps3
  go_wp2_with fail
  have hx : w.alloc (.cells #[.int .i64 size, .string s, .int .i64 q.a, .int .i64 q.b, .int .i64 q.c, .int .i64 q.d, .int .i64 raw] 25) = w0 := HW0.out
  rw [hx, HG0.out]
  clear hx
  refine (wnNew size w0 (by omega)).mono ?_; rintro e w1 ⟨rfl, hw1, hb1, -⟩
  rw [Int.toNat_natCast] at hw1
  have HM := Lib.hid (mine_new hw1 hb1)
  obtain ⟨g1, hg1⟩ : ∃ g1, w0.heap.size = g1 := ⟨_, rfl⟩
  have HG1 := Lib.hid hg1
  rw [hg1]
  rw [hg1] at hg0l
  obtain ⟨c0, c1, c2, c3, c4, c5⟩ := box7_at (HBX.out w1 HM.out.b)
  clear hw1 hb1 hg1
  go_wp2_with fail
  rw [← HG1.out]
  refine (mPut w0 w1 size [] _ HM.out (by omega) H HHS.out).mono ?_; rintro e w2 ⟨rfl, hm⟩
  rw [HG1.out]
  have HM := Lib.hid hm
  clear hm c0 c1 c2 c3 c4 c5
  obtain ⟨c0, c1, c2, c3, c4, c5⟩ := box7_at (HBX.out w2 HM.out.b)
  go_wp2_with fail
  rw [← HG1.out]
  refine (mLast w0 w2 size H size HM.out H HHH.out).mono ?_; rintro e w3 ⟨rfl, hm⟩
  rw [HG1.out]
  have HM := Lib.hid hm
  clear hm c0 c1 c2 c3 c4 c5
  obtain ⟨c0, c1, c2, c3, c4, c5⟩ := box7_at (HBX.out w3 HM.out.b)
  go_wp2_with fail
  refine (CD.out w3 (HTK.out w3 HM.out.b)).mono ?_; rintro e w4 ⟨rfl, hb4⟩
  have HM := Lib.hid (HM.out.low hb4)
  clear hb4 c0 c1 c2 c3 c4 c5 CD
  go_wp2_with fail
  have HM4 := Lib.hid HM.out
  have hbx := (Below.refl w4.heap.size w4).alloc (Nat.le_refl _) (.cells #[.int .i64 Q.a, .int .i64 Q.b, .int .i64 Q.c, .int .i64 Q.d] 23)
  have HM := Lib.hid (HM.out.low hbx)
  have HE := Lib.hid (heap_alloc_new w4 (.cells #[.int .i64 Q.a, .int .i64 Q.b, .int .i64 Q.c, .int .i64 Q.d] 23))
  obtain ⟨w5, hw5⟩ : ∃ w5, w4.alloc (.cells #[.int .i64 Q.a, .int .i64 Q.b, .int .i64 Q.c, .int .i64 Q.d] 23) = w5 := ⟨_, rfl⟩
  obtain ⟨g9, hg9⟩ : ∃ g9, w4.heap.size = g9 := ⟨_, rfl⟩
  rw [hw5, hg9] at HE
  rw [hw5] at HM ⊢
  rw [hg9]
  rw [hw5] at hbx
  have HBX4 := Lib.hid hbx
  have HG9 := Lib.hid (Nat.le_of_eq hg9)
  clear hw5 hg9 hbx
  refine (HP.out w5 (HTK.out w5 HM.out.b)).mono ?_; rintro e w6 ⟨rfl, hb6⟩
  have HM := Lib.hid (HM.out.low hb6)
  have HE := Lib.hid ((hb6.block _ (block_lt HE.out)).trans HE.out)
  have HBX4 := Lib.hid (HBX4.out.trans (hb6.mono HBX4.out.size))
  clear hb6 HP
  by_cases hE : E = 0
  · subst hE
    by_cases hF : F = 0
    · subst hF
      obtain ⟨kt, rfl⟩ := HK.out rfl
      have hlen := (appS_len (size : Int) l q H (by rw [HR.out])).1
      have hlen2 := (appS_len (size : Int) l q H (by rw [HR.out])).2
      rw [HR.out] at hlen hlen2
      rw [szSum_sumK l kt.ok] at hlen
      have hln := HL.out
      have hlenN : R.length = H.length + sumK l := by
        have : (R.length : Int) = (H.length : Int) + (sumK l : Int) := hlen
        omega
      have hlen2 : R.length ≤ H.length + 258 * l.length := hlen2
      have hsk : sumK l ≤ 15480 := by omega
      have hpos : 1 ≤ sumK l := by have h1 := sum_len l kt.ok; have h2 := List.length_pos_iff.2 kt.some; omega
      have DB : Hid (Calls Tryz.prog 10 #[.pointer (some ⟨w0.heap.size, 0, none⟩), .agg #[.int .i64 q.a, .int .i64 q.b, .int .i64 q.c, .int .i64 q.d], .string ⟨(bytesK l).toArray⟩, .int .i64 (sumK l)] w6 fun e w' => e = .returned (.tuple #[.string (sOf (R.drop H.length)), .agg #[.int .i64 Q.a, .int .i64 Q.b, .int .i64 Q.c, .int .i64 Q.d], .int .i64 0]) ∧ Mine w0 w' size (lastN size R) ∧ w'.heap[g9]? = some (.cells #[.int .i64 Q.a, .int .i64 Q.b, .int .i64 Q.c, .int .i64 Q.d] 23 (0, 0))) :=
        Lib.hid ((mBlockX w0 w4 w6 size H HM4.out HBX4.out g9 HG9.out _ HE.out hz1 (by omega) q ⟨(bytesK l).toArray⟩ (sumK l) hpos (by omega) l (by omega) kt.ok (cTokGood l kt (by omega)) R Q 0 HR.out).mono (by rintro e w' ⟨b1, b2, b3⟩; exact ⟨b1, b2 rfl, b3⟩))
      obtain ⟨SR, hSR⟩ : ∃ SR, sOf R = SR := ⟨_, rfl⟩
      obtain ⟨SH, hSH⟩ : ∃ SH, sOf H = SH := ⟨_, rfl⟩
      have hex : SR.extract SH.size SR.size = sOf (R.drop H.length) := by rw [← hSR, ← hSH, sOf_sz, sOf_sz]; exact sOf_drop R H.length
      have hz3 : SR.size = SH.size + sumK l := by rw [← hSR, ← hSH, sOf_sz, sOf_sz]; exact hlenN
      have hz4 : SH.size ≤ 500 := by rw [← hSH, sOf_sz]; exact hHl
      obtain ⟨SB, hSB⟩ : ∃ SB, sOf (R.drop H.length) = SB := ⟨_, rfl⟩
      rw [hSB] at DB hex
      obtain ⟨BK, hBK⟩ : ∃ BK : ByteArray, ⟨(bytesK l).toArray⟩ = BK := ⟨_, rfl⟩
      rw [hBK] at DB ⊢
      rw [hSR, hSH]
      obtain ⟨m, hm⟩ : ∃ m, sumK l = m := ⟨_, rfl⟩
      rw [hm] at DB hz3 hsk hpos
      have hsub : IntKind.i64.wrap ((SR.size : Int) - (SH.size : Int)) = (m : Int) := by rw [IntWalk.i64_in _ (by omega)]; omega
      have hle : SH.size ≤ SR.size := by omega
      have hlei : (SH.size : Int) ≤ (SR.size : Int) := by omega
      obtain ⟨c0, c1, c2, c3, c4, c5⟩ := box7_at (HBX.out w6 HM.out.b)
      clear hlen hlen2 hlenN hSR hSH hSB hBK hm hln hz3 hz4 hsk hpos
      go_wp2_with fail
      rw [← HG1.out]
      refine DB.out.mono ?_; rintro e w7 ⟨rfl, hm7, e97⟩
      rw [HG1.out]
      have HM7 := Lib.hid hm7
      have d0 : w7.cell? ⟨g9, 0, none⟩ = some (.int .i64 Q.a) := cell_lit e97 0 _ rfl
      have d1 : w7.cell? ⟨g9, 1, none⟩ = some (.int .i64 Q.b) := cell_lit e97 1 _ rfl
      have d2 : w7.cell? ⟨g9, 2, none⟩ = some (.int .i64 Q.c) := cell_lit e97 2 _ rfl
      have d3 : w7.cell? ⟨g9, 3, none⟩ = some (.int .i64 Q.d) := cell_lit e97 3 _ rfl
      have s9 := block_lt e97
      have heq : ∀ W, (binOp .eql 23 (.agg #[.int .i64 Q.a, .int .i64 Q.b, .int .i64 Q.c, .int .i64 Q.d]) (.agg #[.int .i64 Q.a, .int .i64 Q.b, .int .i64 Q.c, .int .i64 Q.d])).run Tryz.prog W = .ok (.bool true) W := fun W => by
        rw [run_eql_ints4 23 3 _ Q.a Q.b Q.c Q.d Q.a Q.b Q.c Q.d W (by kernel_rfl) (by kernel_rfl) rfl (by kernel_rfl)]; simp
      have hbx := (Below.refl w7.heap.size w7).alloc (Nat.le_refl _) (.cells #[.int .i64 Q.a, .int .i64 Q.b, .int .i64 Q.c, .int .i64 Q.d] 23)
      have HM8 := Lib.hid (HM7.out.low hbx)
      clear c0 c1 c2 c3 c4 c5 hm7 e97 DB hbx
      go_wp2_with fail
      refine (CA.out _).mono ?_; rintro e w9 ⟨rfl, hb9⟩
      have HBB := Lib.hid (HB0.out.trans ((HM8.out.low hb9).b.mono HB0.out.size))
      go_wp2_with fail
      go_ret
      exact ⟨rfl, HBB.out⟩
    · have hF0 : (F != 0) = true := by rw [bne_iff_ne]; exact hF
      go_wp2_with fail
      refine (CA.out _).mono ?_; rintro e w7 ⟨rfl, hb7⟩
      have HBB := Lib.hid (HB0.out.trans ((HM.out.low hb7).b.mono HB0.out.size))
      go_wp2_with fail
      go_ret
      exact ⟨rfl, HBB.out⟩
  · have hE0 : (E != 0) = true := by rw [bne_iff_ne]; exact hE
    go_wp2_with fail
    refine (CA.out _).mono ?_; rintro e w7 ⟨rfl, hb7⟩
    have HBB := Lib.hid (HB0.out.trans ((HM.out.low hb7).b.mono HB0.out.size))
    go_wp2_with fail
    go_ret
    exact ⟨rfl, HBB.out⟩
end Go.Proofs.YtipcdkemokkdfaaGreat
