import Derived.Test.YtedmnlfbmmlcbaaJ12
import Derived.Test.YtedmnlfbmmlcbaaJ13
import Derived.Test.YtedmnlfbmmlcbaaJ14
import Derived.Test.YtedmnlfbmmlcbaaJ15
import Derived.Test.YtedmnlfbmmlcbaaJ24
import Derived.Test.YtedmnlfbmmlcbaaJ25
import Derived.Deep.WholeRow
/- Layer 50: what Put writes (mathematics). -/
namespace Go.Proofs.Ytedmnlfbmmlcbaa
open Go.ChangeShapes Go.WideShapes Go.ChangeAt Go.RowKit
set_option linter.unusedVariables false
set_option linter.unusedSimpArgs false
set_option maxRecDepth 100000
open Zero.ZerosMath (packL unpackL packL_length unpack_pack signs signs_digit)
open Mtf.MtfMath (moveL backL moveL_length moveL_lt back_move fine_all)
/-- The moved numbers, and the packed ones. -/
def mv (T : List UInt8) : List Int := (moveL Mtf.MtfMath.all T).map (fun n : Nat => (n : Int))
def zp (T : List UInt8) : List Int := packL 0 (mv T)
theorem mv_len (T : List UInt8) : (mv T).length = T.length := by unfold mv; rw [List.length_map, moveL_length]
theorem mv_in (T : List UInt8) : ∀ x ∈ mv T, 0 ≤ x ∧ x ≤ 255 := by
  intro x hx
  unfold mv at hx
  obtain ⟨n, hn, rfl⟩ := List.mem_map.1 hx
  have := moveL_lt _ T fine_all n hn
  omega
theorem packL_in : ∀ (l : List Int) (n : Nat), (∀ x ∈ l, 0 ≤ x ∧ x ≤ 255) → ∀ y ∈ packL n l, 0 ≤ y ∧ y ≤ 256
  | [], n, _, y, hy => by
    have := signs_digit n y hy
    omega
  | x :: l, n, h, y, hy => by
    have hx := h x (List.mem_cons_self ..)
    have hl := fun z hz => h z (List.mem_cons_of_mem _ hz)
    rw [packL] at hy
    split at hy
    · exact packL_in l (n + 1) hl y hy
    · rcases List.mem_append.1 hy with h1 | h1
      · have := signs_digit n y h1
        omega
      · rcases List.mem_cons.1 h1 with rfl | h2
        · omega
        · exact packL_in l 0 hl y h2
theorem zp_in (T : List UInt8) : ∀ y ∈ zp T, 0 ≤ y ∧ y ≤ 256 := packL_in _ _ (mv_in T)
theorem zp_len (T : List UInt8) : (zp T).length ≤ T.length := by
  have := packL_length 0 (mv T)
  rw [mv_len] at this
  unfold zp; omega
theorem zp_back (T : List UInt8) : unpackL 1 (zp T) = mv T := by
  have := unpack_pack 0 (mv T) (fun x hx => (mv_in T x hx).1)
  simpa [zp] using this
theorem zp_9 (T : List UInt8) : inB 9 (zp T) = true := by
  unfold inB
  rw [List.all_eq_true]
  intro x hx
  have := zp_in T x hx
  simp; omega
theorem mv_pack (T : List UInt8) : Zero.packE (mv T) = 0 ∧ Zero.packR (mv T) = zp T := by
  have h : Zero.inB (mv T) 1048576 = true := (Zero.inB_iff _ _).2 (fun x hx => by have := mv_in T x hx; omega)
  unfold Zero.packE Zero.packR
  rw [if_pos h, if_pos h]
  exact ⟨rfl, rfl⟩
theorem zp_un (T : List UInt8) (hT : T.length ≤ 10000) : Zero.unE (zp T) = 0 ∧ Zero.unR (zp T) = mv T := by
  have h : Zero.inB (zp T) 1048577 = true := (Zero.inB_iff _ _).2 (fun x hx => by have := zp_in T x hx; omega)
  have ho : Zero.over 1 0 (zp T) = false := by
    rcases hc : Zero.over 1 0 (zp T) with _ | _
    · rfl
    · have := Zero.over_long (zp T) 1 0 (by decide) hc
      rw [zp_back, mv_len] at this
      omega
  unfold Zero.unE Zero.unR
  rw [if_pos h, if_pos h, ho, zp_back]
  exact ⟨rfl, rfl⟩
theorem mv_bk (T : List UInt8) : Mtf.backE (mv T) = 0 ∧ Mtf.backS (mv T) = sM T := by
  have h : Mtf.okB (mv T) = true := by
    unfold Mtf.okB
    rw [List.all_eq_true]
    intro x hx
    have := mv_in T x hx
    simp; omega
  have e : Mtf.toN (mv T) = moveL Mtf.MtfMath.all T := by
    unfold Mtf.toN mv
    rw [List.map_map, show (Int.toNat ∘ fun n : Nat => (n : Int)) = id from funext fun n => Int.toNat_natCast n, List.map_id]
  unfold Mtf.backE Mtf.backS
  rw [if_pos h, if_pos h, e, back_move _ _ fine_all]
  exact ⟨rfl, rfl⟩
/-- R is what Put writes of L. -/
def PutV (L R : List UInt8) : Prop := ∃ (a : List Nat) (at_ : Nat) (S : List UInt8), IsSuf L a ∧ at_ ≤ L.length ∧ Pr a L.length at_ = 0 ∧ encB (zp (tB L a at_)) 9 = (S, 0) ∧ R = Vi.vb L.length ++ (Vi.vb at_ ++ (Vi.vb (zp (tB L a at_)).length ++ S))
theorem PutV.unique {L R R' : List UInt8} (h : PutV L R) (h' : PutV L R') : R = R' := by
  obtain ⟨a, at_, S, h1, h2, h3, h4, rfl⟩ := h
  obtain ⟨a', at', S', g1, g2, g3, g4, rfl⟩ := h'
  obtain rfl := h1.unique g1
  obtain rfl := Pr_inj h1 at_ at' h2 g2 (h3.trans g3.symm)
  rw [h4] at g4
  cases g4
  rfl
theorem enc_ok (T : List UInt8) (hT : T.length ≤ 10000) (r : List UInt8) : ∃ S, encB (zp T) 9 = (S, 0) ∧ decB (S ++ r) (zp T).length 9 = (zp T, 0) ∧ S.length ≤ 4 * (9 * (zp T).length) + 4 := by
  have := zp_len T
  exact back46 (zp T) 9 (by decide) (by decide) (zp_9 T) (by omega) r
theorem five (n : Nat) (h : n ≤ 4294967295) : (sM (Vi.vb n)).size ≤ 5 := by rw [sM_size]; exact Vi.vb_len5 n h
end Go.Proofs.Ytedmnlfbmmlcbaa

/- Layer 50: Put. -/
namespace Go.Proofs.Ytedmnlfbmmlcbaa
open Go.ChangeShapes Go.WideShapes Go.ChangeAt Go.RowKit
set_option linter.unusedVariables false
set_option linter.unusedSimpArgs false
set_option maxRecDepth 100000
theorem kMove (T : List UInt8) (W : World) (h : T.length ≤ 3000) : Calls Try.prog 11 #[.string (sM T)] W fun e w' => ∃ v', e = .returned v' ∧ IsL w' v' (mv T) ∧ Below W.heap.size W w' := by
  have := Mtf.mMove (sM T) (by rw [sM_size]; exact h) W
  rwa [sM_list] at this
theorem kPack (v : Value) (T : List UInt8) (W : World) (h : IsL W v (mv T)) (hT : T.length ≤ 3000) : Calls Try.prog 10 #[v] W fun e w' => ∃ a c, e = .returned (.tuple #[.slice a (zp T).length c, .int .i64 0]) ∧ IsInts w' a (zp T) ∧ Below W.heap.size W w' := by
  refine (Zero.zPackA h (by rw [mv_len]; omega)).mono ?_
  rintro e w' ⟨v', rfl, h1, h2⟩
  rw [(mv_pack T).2] at h1
  obtain ⟨a, c, rfl, h1⟩ := h1
  rw [(mv_pack T).1]
  exact ⟨a, c, rfl, h1, h2⟩
theorem kNum (n : Nat) (W : World) (h : n ≤ 4294967295) : Calls Try.prog 12 #[.int .i64 n] W fun e w' => e = .returned (.tuple #[.string (sM (Vi.vb n)), .int .i64 0]) ∧ Below W.heap.size W w' := Vi.put_in n h W
theorem kEnc (a : Option Addr) (c : Nat) (T S : List UInt8) (W : World) (h : IsInts W a (zp T)) (hT : T.length ≤ 3000) (hS : encB (zp T) 9 = (S, 0)) : Calls Try.prog 13 #[.slice a (zp T).length c, .int .i64 9] W fun e w' => e = .returned (.tuple #[.string (sM S), .int .i64 0]) ∧ Below W.heap.size W w' :=
  tEncodeT ⟨a, c, rfl, h⟩ (by have := zp_len T; omega) 9 S 0 hS
set_option maxHeartbeats 3200000 in
theorem cPut (L : List UInt8) (w : World) (hL : L.length ≤ 1500) :
    Calls Try.prog 6 #[.string (sM L)] w fun e w' => ∃ R, e = .returned (.tuple #[.string (sM R), .int .i64 0]) ∧ PutV L R ∧ Below w.heap.size w w' := by
  obtain ⟨n, hn⟩ : ∃ n, L.length = n := ⟨_, rfl⟩
  have hS : (sM L).size = n := by rw [sM_size, hn]
  have d1 : decide ((65536 : Int) < n) = false := decide_eq_false (by omega)
  have d2 : decide (65536 < n) = false := decide_eq_false (by omega)
  have hn3 : n ≤ 1500 := by omega
  have CT := Lib.hid (fun W => cTurnB L W (by omega))
  go_enter Try.func6, Try.ntmps6
  go_wp2_with fail
  refine (CT.out _).mono ?_; rintro e w1 ⟨a, at_, rfl, hs, ha, h0, hb⟩
  have hTl := tB_len L a at_
  have ha3 : at_ ≤ 1500 := by omega
  obtain ⟨S, hS1, -, hS2⟩ := enc_ok (tB L a at_) (by omega) []
  have HP := Lib.hid (show PutV L (Vi.vb n ++ (Vi.vb at_ ++ (Vi.vb (zp (tB L a at_)).length ++ S))) from ⟨a, at_, S, hs, ha, h0, hS1, by rw [hn]⟩)
  have hzl := zp_len (tB L a at_)
  obtain ⟨T, hT⟩ : ∃ T, tB L a at_ = T := ⟨_, rfl⟩
  rw [hT] at HP hTl hS1 hS2 hzl ⊢
  obtain ⟨m, hm⟩ : ∃ m, (zp T).length = m := ⟨_, rfl⟩
  have HSz : (sM S).size ≤ 60000 := by rw [sM_size]; omega
  have CM := Lib.hid (fun W => kMove T W (by omega))
  have CP := Lib.hid (fun v W h => kPack v T W h (by omega))
  have CN := Lib.hid (fun W => kNum n W (by omega))
  have CA := Lib.hid (fun W => kNum at_ W (by omega))
  have CZ := Lib.hid (fun W => kNum m W (by omega))
  have CE := Lib.hid (fun aa c W h => kEnc aa c T S W h (by omega) hS1)
  have f1 := five n (by omega)
  have f2 := five at_ (by omega)
  have f3 := five m (by omega)
  have hm3 : m ≤ 1500 := by omega
  rw [hm] at HP CP CE
  obtain ⟨R, hR⟩ : ∃ R, Vi.vb n ++ (Vi.vb at_ ++ (Vi.vb m ++ S)) = R := ⟨_, rfl⟩
  rw [hR] at HP
  have HE := Lib.hid (show (⟨#[]⟩ : ByteArray) ++ sM (Vi.vb n) ++ sM (Vi.vb at_) ++ sM (Vi.vb m) ++ sM S = sM R by
    rw [← hR]
    simp [sM, ByteArray.mk_append_mk])
  obtain ⟨A1, hA1⟩ : ∃ A1, sM (Vi.vb n) = A1 := ⟨_, rfl⟩
  obtain ⟨A2, hA2⟩ : ∃ A2, sM (Vi.vb at_) = A2 := ⟨_, rfl⟩
  obtain ⟨A3, hA3⟩ : ∃ A3, sM (Vi.vb m) = A3 := ⟨_, rfl⟩
  obtain ⟨A4, hA4⟩ : ∃ A4, sM S = A4 := ⟨_, rfl⟩
  rw [hA1] at CN f1 HE
  rw [hA2] at CA f2 HE
  rw [hA3] at CZ f3 HE
  rw [hA4] at CE HSz HE
  have HB := Lib.hid hb
  clear hs ha h0 hb hTl hT hm hS1 hS2 hzl hR hA1 hA2 hA3 hA4 hn
  go_wp2_with fail
  refine (CM.out _).mono ?_; rintro e w2 ⟨v, rfl, hv, hb2⟩
  have HV := Lib.hid hv
  have HB := Lib.hid (HB.out.trans (hb2.mono HB.out.size))
  clear hv hb2 CM
  go_wp2_with fail
  refine (CP.out _ _ HV.out).mono ?_; rintro e w3 ⟨za, zc, rfl, hz, hb3⟩
  have HZ := Lib.hid hz
  have HB := Lib.hid (HB.out.trans (hb3.mono HB.out.size))
  clear hz hb3 CP HV
  go_wp2_with fail
  obtain ⟨g, hg⟩ : ∃ g, w3.heap.size = g := ⟨_, rfl⟩
  have HB4 := Lib.hid ((Below.refl w3.heap.size w3).alloc (Nat.le_refl _) (.cells #[.int .i64 n, .int .i64 at_, .int .i64 m] 3))
  have hq := heap_alloc_new w3 (.cells #[.int .i64 n, .int .i64 at_, .int .i64 m] 3)
  have c0 := cell_lit hq 0 (.int .i64 n) rfl
  have c1 := cell_lit hq 1 (.int .i64 at_) rfl
  have c2 := cell_lit hq 2 (.int .i64 m) rfl
  obtain ⟨W0, hW0⟩ : ∃ W0, w3.alloc (.cells #[.int .i64 n, .int .i64 at_, .int .i64 m] 3) = W0 := ⟨_, rfl⟩
  rw [hW0] at HB4 c0 c1 c2
  rw [hW0]
  have HZ := Lib.hid (HZ.out.kept HB4.out)
  have HB := Lib.hid (HB.out.trans (HB4.out.mono HB.out.size))
  rw [hg] at c0 c1 c2
  rw [hg]
  clear hq hW0 hg HB4
  refine wp_loop_rounds 4 ?_
  rw [rounds_succ]
  go_wp2_with fail
  refine (CN.out _).mono ?_; rintro e w4 ⟨rfl, hb4⟩
  have c1 := (hb4.cell (cell_block c1)).trans c1
  have c2 := (hb4.cell (cell_block c2)).trans c2
  have HZ := Lib.hid (HZ.out.kept hb4)
  have HB := Lib.hid (HB.out.trans (hb4.mono HB.out.size))
  clear hb4 c0
  go_wp2_with fail
  rw [rounds_succ]
  go_wp2_with fail
  refine (CA.out _).mono ?_; rintro e w5 ⟨rfl, hb4⟩
  have c2 := (hb4.cell (cell_block c2)).trans c2
  have HZ := Lib.hid (HZ.out.kept hb4)
  have HB := Lib.hid (HB.out.trans (hb4.mono HB.out.size))
  clear hb4
  go_wp2_with fail
  rw [rounds_succ]
  go_wp2_with fail
  refine (CZ.out _).mono ?_; rintro e w6 ⟨rfl, hb4⟩
  have HZ := Lib.hid (HZ.out.kept hb4)
  have HB := Lib.hid (HB.out.trans (hb4.mono HB.out.size))
  clear hb4
  go_wp2_with fail
  rw [rounds_succ]
  go_wp2_with fail
  refine (CE.out _ _ _ HZ.out).mono ?_; rintro e w7 ⟨rfl, hb4⟩
  have HB := Lib.hid (HB.out.trans (hb4.mono HB.out.size))
  clear hb4
  go_wp2_with fail
  go_ret2
  exact ⟨R, by rw [← HE.out]; rfl, HP.out, HB.out⟩
end Go.Proofs.Ytedmnlfbmmlcbaa

/- Layer 50: the text, and Read. -/
namespace Go.Proofs.Ytedmnlfbmmlcbaa
open Go.ChangeShapes Go.WideShapes Go.ChangeAt Go.RowKit
set_option linter.unusedVariables false
set_option linter.unusedSimpArgs false
set_option maxRecDepth 100000
theorem sM_tail (a b : List UInt8) : (sM (a ++ b)).extract a.length (sM (a ++ b)).size = sM b := by
  have e : (sM (a ++ b)).size = (a ++ b).length := sM_size _
  rw [e]
  apply ByteArray.ext
  simp [sM, ByteArray.data_extract, List.extract_toArray, List.extract_eq_take_drop]
theorem kRead (n : Nat) (t : List UInt8) (W : World) (hn : n ≤ 4294967295) (ht : t.length ≤ 100000) : Calls Try.prog 19 #[.string (sM (Vi.vb n ++ t))] W fun e w' => e = .returned (.tuple #[.int .i64 n, .string (sM t), .int .i64 0]) ∧ Below W.heap.size W w' := by
  have h5 := Vi.vb_len5 n hn
  refine (Vi.read_any (sM (Vi.vb n ++ t)) (by rw [sM_size, List.length_append]; unfold maxLen; omega) W).mono ?_
  rintro e w' ⟨⟨q, rfl⟩, rfl⟩
  rw [sM_list, Vi.rd_vb n t hn]
  refine ⟨?_, below_dn (Below.refl _ _) q⟩
  rw [if_pos rfl, sM_tail]
  rfl
theorem kDec (T S r : List UInt8) (W : World) (hT : T.length ≤ 2000) (hr : r.length ≤ 10) (hS : encB (zp T) 9 = (S, 0)) : Calls Try.prog 41 #[.string (sM (S ++ r)), .int .i64 (zp T).length, .int .i64 9] W fun e w' => ∃ v, e = .returned (.tuple #[v, .int .i64 0]) ∧ IsL w' v (zp T) ∧ Below W.heap.size W w' := by
  obtain ⟨S', h1, h2, h3⟩ := enc_ok T (by omega) r
  rw [hS] at h1
  cases h1
  have := zp_len T
  exact tDecodeT (sM (S ++ r)) (by rw [sM_size, List.length_append]; omega) _ 9 (zp T) 0 (by rw [sM_list]; exact h2)
theorem kUn (v : Value) (T : List UInt8) (W : World) (h : IsL W v (zp T)) (hT : T.length ≤ 2000) : Calls Try.prog 42 #[v] W fun e w' => ∃ a c, e = .returned (.tuple #[.slice a T.length c, .int .i64 0]) ∧ IsInts w' a (mv T) ∧ Below W.heap.size W w' := by
  refine (Zero.zUnA h (by have := zp_len T; omega)).mono ?_
  rintro e w' ⟨v', rfl, h1, h2⟩
  rw [(zp_un T (by omega)).2] at h1
  obtain ⟨a, c, rfl, h1⟩ := h1
  rw [(zp_un T (by omega)).1, mv_len]
  exact ⟨a, c, rfl, h1, h2⟩
theorem kBack (a : Option Addr) (c : Nat) (T : List UInt8) (W : World) (h : IsInts W a (mv T)) (hT : T.length ≤ 2000) : Calls Try.prog 43 #[.slice a T.length c] W fun e w' => e = .returned (.tuple #[.string (sM T), .int .i64 0]) ∧ Below W.heap.size W w' := by
  have := Mtf.mBack a c (mv T) W h (by rw [mv_len]; omega)
  rwa [mv_len, (mv_bk T).1, (mv_bk T).2] at this
set_option maxHeartbeats 3200000 in
theorem cText (L : List UInt8) (n m : Nat) (a : List Nat) (at_ : Nat) (S r : List UInt8) (w : World) (hn : L.length = n) (hL : n ≤ 1500) (hs : IsSuf L a) (ha : at_ ≤ L.length) (h0 : Pr a L.length at_ = 0) (hS : encB (zp (tB L a at_)) 9 = (S, 0)) (hm : (zp (tB L a at_)).length = m) (hr : r.length ≤ 10) :
    Calls Try.prog 20 #[.string (sM (S ++ r)), .agg #[.int .i64 n, .int .i64 at_, .int .i64 m]] w fun e w' => e = .returned (.tuple #[.string (sM L), .int .i64 0]) ∧ Below w.heap.size w w' := by
  have CB := Lib.hid (fun W => back_any L a at_ hs ha h0 (by omega) W)
  have hTl := tB_len L a at_
  obtain ⟨T, hT⟩ : ∃ T, tB L a at_ = T := ⟨_, rfl⟩
  rw [hT] at hS hm hTl CB
  have CD := Lib.hid (fun W => kDec T S r W (by omega) hr hS)
  have CU := Lib.hid (fun v W h => kUn v T W h (by omega))
  have CM := Lib.hid (fun a c W h => kBack a c T W h (by omega))
  rw [hm] at CD
  rw [hTl, hn] at CU CM
  have HB := Lib.hid ((Below.refl w.heap.size w).alloc (Nat.le_refl _) (.cells #[.int .i64 n, .int .i64 at_, .int .i64 m] 39))
  have hq := heap_alloc_new w (.cells #[.int .i64 n, .int .i64 at_, .int .i64 m] 39)
  have c0 := cell_lit hq 0 (.int .i64 n) rfl
  have c1 := cell_lit hq 1 (.int .i64 at_) rfl
  have c2 := cell_lit hq 2 (.int .i64 m) rfl
  obtain ⟨g, hg⟩ : ∃ g, w.heap.size = g := ⟨_, rfl⟩
  have f1 : ((n : Int) != (n : Int)) = false := by simp
  obtain ⟨SR, hSR⟩ : ∃ SR, sM (S ++ r) = SR := ⟨_, rfl⟩
  rw [hSR] at CD ⊢
  clear hT hS hm hTl hs ha h0 hr hSR hq hn
  go_enter Try.func20, Try.ntmps20
  go_wp2_with fail
  rw [hg] at c0 c1 c2
  generalize w.alloc (.cells #[.int .i64 n, .int .i64 at_, .int .i64 m] 39) = W0 at *
  refine (CD.out _).mono ?_; rintro e w2 ⟨v, rfl, hv, hb⟩
  have HV := Lib.hid hv
  have c0 := (hb.cell (cell_block c0)).trans c0
  have c1 := (hb.cell (cell_block c1)).trans c1
  have HB := Lib.hid (HB.out.trans (hb.mono HB.out.size))
  clear hv hb c2
  go_wp2_with fail
  refine (CU.out _ _ HV.out).mono ?_; rintro e w3 ⟨za, zc, rfl, hv, hb⟩
  have HV := Lib.hid hv
  have c0 := (hb.cell (cell_block c0)).trans c0
  have c1 := (hb.cell (cell_block c1)).trans c1
  have HB := Lib.hid (HB.out.trans (hb.mono HB.out.size))
  clear hv hb
  go_wp2_with fail
  refine (CM.out _ _ _ HV.out).mono ?_; rintro e w4 ⟨rfl, hb⟩
  have c1 := (hb.cell (cell_block c1)).trans c1
  have HB := Lib.hid (HB.out.trans (hb.mono HB.out.size))
  clear hb c0
  go_wp2_with fail
  refine (CB.out _).mono ?_; rintro e w5 ⟨rfl, hb⟩
  have HB := Lib.hid (HB.out.trans (hb.mono HB.out.size))
  clear hb
  go_wp2_with fail
  go_ret2
  exact ⟨rfl, HB.out⟩
end Go.Proofs.Ytedmnlfbmmlcbaa
