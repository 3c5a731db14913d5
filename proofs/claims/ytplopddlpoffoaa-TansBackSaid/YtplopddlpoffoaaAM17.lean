/- Layer 59: the chapter's example; what is encoded is decoded. -/
import Derived.Test.YtplopddlpoffoaaAM16
import Derived.Test.YtplopddlpoffoaaAM4
namespace Go.Proofs.Ytplopddlpoffoaa
open Go.ChangeShapes Go.WideShapes Go.ChangeAt Go.RowKit
set_option linter.unusedVariables false
set_option linter.unusedSimpArgs false
set_option maxRecDepth 100000
open Bits
abbrev encB (l : List Int) (m q : Nat) (ss : List Int) : ByteArray := ⟨(pack (bitsOf (encL (sprL l q) l m q ss).1 m ++ bitsP (encL (sprL l q) l m q ss).2)).toArray⟩
theorem enc_back {l : List Int} {m q : Nat} (hm5 : 5 ≤ m) (hm : m ≤ 12) (hq : 2 ^ m = q) (hv : norV l (q : Int) = true) (ss : List Int) (hg : ∀ s ∈ ss, goodS l s) : decV l m q (spread (encB l m q ss).data.toList) ss.length = (ss, 0) := by
  have hS : Sp l q := by rw [← hq]; exact sp_of hm5 (by rw [hq]; exact hv)
  have hq0 : 0 < q := by rw [← hq]; exact Nat.pow_pos (by decide)
  obtain ⟨k, hk, h1, -⟩ := spread_pack (bitsOf (encL (sprL l q) l m q ss).1 m ++ bitsP (encL (sprL l q) l m q ss).2)
  show decV l m q (spread (pack (bitsOf (encL (sprL l q) l m q ss).1 m ++ bitsP (encL (sprL l q) l m q ss).2)).toArray.toList) ss.length = (ss, 0)
  rw [List.toList_toArray, h1, List.append_assoc]
  exact encV hS (norV_facts hv).2.1 hm hq hq0 ss hg _ (by simpa using hk) (by simp)
theorem encB_size {l : List Int} {m q : Nat} (hm : m ≤ 12) (ss : List Int) (hs : ss.length ≤ 400) : (encB l m q ss).size ≤ 1000 := by
  have h1 := pack_length (bitsOf (encL (sprL l q) l m q ss).1 m ++ bitsP (encL (sprL l q) l m q ss).2)
  have h2 := bitsP_len (encL (sprL l q) l m q ss).2 m (fun p hp => (parts_ok _ l m q ss p hp).2)
  have h3 : (encL (sprL l q) l m q ss).2.length = ss.length := by
    induction ss with
    | nil => simp [encL]
    | cons s r ih => 
      have : ∀ r : List Int, (encL (sprL l q) l m q r).2.length = r.length := by
        intro r
        induction r with
        | nil => simp [encL]
        | cons s r ih => simp [encL, ih]
      exact this (s :: r)
  rw [List.length_append, bitsOf_length] at h1
  have h4 : (encL (sprL l q) l m q ss).2.length * m ≤ 400 * 12 := Nat.mul_le_mul (by omega) hm
  show (pack (bitsOf (encL (sprL l q) l m q ss).1 m ++ bitsP (encL (sprL l q) l m q ss).2)).toArray.size ≤ 1000
  rw [List.size_toArray, h1]
  omega
theorem litA (w : World) (is : List Int) (t2 : Nat) (hl : is.length ≤ 70368744177664) : IsInts (w.alloc (.cells (is.map (Value.int .i64 ·)).toArray t2)) (some ⟨w.heap.size, 0, none⟩) is := IsInts.new w is t2 (0, 0) hl
theorem sj59 {w a b : World} {o : Obj} (h : Below w.heap.size w a) (h2 : Below (a.alloc o).heap.size (a.alloc o) b) : Below w.heap.size w b :=
  (h.alloc h.size o).trans (h2.mono (by have := h.size; simp; omega))
theorem two_lits (w : World) (A B : List Int) (w2 : World) (hA : A.length ≤ 70368744177664) (hB : B.length ≤ 70368744177664) (h : (w.alloc (.cells (A.map (Value.int .i64 ·)).toArray 3)).alloc (.cells (B.map (Value.int .i64 ·)).toArray 3) = w2) : IsInts w2 (some ⟨w.heap.size, 0, none⟩) A ∧ IsInts w2 (some ⟨w.heap.size + 1, 0, none⟩) B := by
  subst h
  refine ⟨(litA w A 3 hA).alloc _, ?_⟩
  have := litA (w.alloc (.cells (A.map (Value.int .i64 ·)).toArray 3)) B 3 hB
  have e : (w.alloc (.cells (A.map (Value.int .i64 ·)).toArray 3)).heap.size = w.heap.size + 1 := by simp
  rw [e] at this
  exact this
theorem vn1 : normV [3, 1] 5 = [24, 8] := by decide +kernel
theorem vn2 : totV [3, 1] 5 = (4, 0) := by decide +kernel
theorem vn3 : totV [0] 5 = (0, 7) := by decide +kernel
theorem vn4 : norV [24, 8] ((32 : Nat) : Int) = true := by decide +kernel
theorem vn5 : sprV [24, 7] 5 = ([], 4) := by decide +kernel
theorem gd : ∀ s ∈ [(0 : Int), 1, 0, 0, 1], goodS [24, 8] s := by
  intro s hs
  simp only [List.mem_cons, List.not_mem_nil, or_false] at hs
  rcases hs with rfl | rfl | rfl | rfl | rfl <;> (unfold goodS; decide)
set_option maxHeartbeats 3200000 in
theorem awake59 (w : World) : Calls Try.prog 9 #[] w fun e w' => e = .returned (.bool true) ∧ Below w.heap.size w w' := by
  obtain ⟨STR, hSTR⟩ : ∃ STR, encB [24, 8] 5 32 [0, 1, 0, 0, 1] = STR := ⟨_, rfl⟩
  have CN1 := Lib.hid (fun a W (h : IsInts W a [3, 1]) => show Calls Try.prog 10 #[.slice a 2 2, .int .i64 5] W fun e w' => ∃ v, e = .returned (.tuple #[v, .int .i64 0]) ∧ OwnI W.heap.size w' v [24, 8] ∧ Below W.heap.size W w' by
    have := cNorm a 2 [3, 1] 5 W h
    rw [vn1, vn2] at this
    exact this)
  have CN2 := Lib.hid (fun a W (h : IsInts W a [0]) => show Calls Try.prog 10 #[.slice a 1 1, .int .i64 5] W fun e w' => ∃ v, e = .returned (.tuple #[v, .int .i64 7]) ∧ Below W.heap.size W w' by
    have := cNorm a 1 [0] 5 W h
    rw [vn3] at this
    exact this.mono (by rintro e w' ⟨v, h1, -, h2⟩; exact ⟨v, h1, h2⟩))
  have CE1 := Lib.hid (fun a b W (h1 : IsInts W a [0, 1, 0, 0, 1]) (h2 : IsInts W b [24, 8]) => show Calls Try.prog 17 #[.slice a 5 5, .slice b 2 2, .int .i64 5] W fun e w' => e = .returned (.tuple #[.string STR, .int .i64 0]) ∧ Below W.heap.size W w' by
    have := cEncRows a 5 [0, 1, 0, 0, 1] b 2 [24, 8] 5 32 W h1 (by decide) h2 (by decide) (by decide) (by decide) vn4 STR 0 (fun _ => ⟨hSTR.symm, rfl⟩) (fun ⟨s, hs, hb⟩ => absurd (gd s hs) hb)
    exact this)
  have hsz : STR.size ≤ 1000 := by rw [← hSTR]; exact encB_size (by decide) _ (by decide)
  have CD1 := Lib.hid (fun b W (h2 : IsInts W b [24, 8]) => show Calls Try.prog 15 #[.string STR, .int .i64 5, .slice b 2 2, .int .i64 5] W fun e w' => ∃ v, e = .returned (.tuple #[v, .int .i64 0]) ∧ OwnI W.heap.size w' v [0, 1, 0, 0, 1] ∧ Below W.heap.size W w' by
    have := cDec STR hsz 5 b 2 [24, 8] 5 32 W h2 (by decide) (by decide) (by decide) vn4 (by decide) [0, 1, 0, 0, 1] 0 (by rw [← hSTR]; exact enc_back (by decide) (by decide) (by decide) vn4 [0, 1, 0, 0, 1] gd)
    exact this)
  have CE2 := Lib.hid (fun a b W (h1 : IsInts W a [2]) (h2 : IsInts W b [24, 8]) => show Calls Try.prog 17 #[.slice a 1 1, .slice b 2 2, .int .i64 5] W fun e w' => e = .returned (.tuple #[.string ⟨#[]⟩, .int .i64 7]) ∧ Below W.heap.size W w' by
    have := cEncRows a 1 [2] b 2 [24, 8] 5 32 W h1 (by decide) h2 (by decide) (by decide) (by decide) vn4 ⟨#[]⟩ 7 (fun h => absurd (h 2 (by simp)) (by unfold goodS; decide)) (fun _ => ⟨rfl, rfl⟩)
    exact this)
  have CS1 := Lib.hid (fun b W (h2 : IsInts W b [24, 7]) => show Calls Try.prog 12 #[.slice b 2 2, .int .i64 5] W fun e w' => ∃ v, e = .returned (.tuple #[v, .int .i64 4]) ∧ Below W.heap.size W w' by
    have := cSpread b 2 [24, 7] 5 W h2
    rw [vn5] at this
    exact this.mono (by rintro e w' ⟨v, h1, -, h2⟩; exact ⟨v, h1, h2⟩))
  have CD2 := Lib.hid (fun b W (h2 : IsInts W b [24, 8]) => show Calls Try.prog 15 #[.string ⟨#[]⟩, .int .i64 5, .slice b 2 2, .int .i64 5] W fun e w' => ∃ v, e = .returned (.tuple #[v, .int .i64 3]) ∧ Below W.heap.size W w' by
    have := cDec ⟨#[]⟩ (by decide) 5 b 2 [24, 8] 5 32 W h2 (by decide) (by decide) (by decide) vn4 (by decide) [] 3 rfl
    exact this.mono (by rintro e w' ⟨v, h1, -, h2⟩; exact ⟨v, h1, h2⟩))
  clear hSTR hsz
  go_enter Try.func9, Try.ntmps9
  go_wp2_with fail
  refine (CN1.out _ _ (litA w [3, 1] 3 (by decide))).mono ?_; rintro e w1 ⟨v1, rfl, hv1, hb1⟩
  have HB := Lib.hid (sj59 (Below.refl w.heap.size w) hb1)
  have HV1 := Lib.hid (show IsL w1 v1 [24, 8] from hv1.isL (by decide))
  clear hb1 hv1 CN1
  go_wp2_with fail
  refine (CN2.out _ _ (litA w1 [0] 3 (by decide))).mono ?_; rintro e w2 ⟨v2, rfl, hb1⟩
  have HV1 := Lib.hid ((HV1.out.alloc _).kept hb1)
  have HB := Lib.hid (sj59 HB.out hb1)
  clear hb1 CN2
  go_wp2_with fail
  obtain ⟨w3a, hw3a⟩ : ∃ w3a, (w2.alloc (.cells #[.int .i64 0, .int .i64 1, .int .i64 0, .int .i64 0, .int .i64 1] 3)).alloc (.cells #[.int .i64 24, .int .i64 8] 3) = w3a := ⟨_, rfl⟩
  obtain ⟨hA, hB⟩ := two_lits w2 [0, 1, 0, 0, 1] [24, 8] w3a (by decide) (by decide) hw3a
  have hbA : Below w2.heap.size w2 w3a := by rw [← hw3a]; exact ((Below.refl _ _).alloc (Nat.le_refl _) _).alloc (by simp) _
  have HV1 := Lib.hid (HV1.out.kept hbA)
  have HB := Lib.hid (HB.out.trans (hbA.mono HB.out.size))
  rw [hw3a]
  clear hw3a hbA
  refine (CE1.out _ _ _ hA hB).mono ?_; rintro e w3 ⟨rfl, hb1⟩
  have HV1 := Lib.hid (HV1.out.kept hb1)
  have HB := Lib.hid (HB.out.trans (hb1.mono HB.out.size))
  clear hb1 CE1 hA hB
  go_wp2_with fail
  refine (CD1.out _ _ (litA w3 [24, 8] 3 (by decide))).mono ?_; rintro e w4 ⟨v4, rfl, hv4, hb1⟩
  have HV4 := Lib.hid (show IsL w4 v4 [0, 1, 0, 0, 1] from hv4.isL (by decide))
  have HV1 := Lib.hid ((HV1.out.alloc _).kept hb1)
  have HB := Lib.hid (sj59 HB.out hb1)
  clear hb1 CD1 hv4
  go_wp2_with fail
  obtain ⟨w5a, hw5a⟩ : ∃ w5a, (w4.alloc (.cells #[.int .i64 2] 3)).alloc (.cells #[.int .i64 24, .int .i64 8] 3) = w5a := ⟨_, rfl⟩
  obtain ⟨hA, hB⟩ := two_lits w4 [2] [24, 8] w5a (by decide) (by decide) hw5a
  have hbA : Below w4.heap.size w4 w5a := by rw [← hw5a]; exact ((Below.refl _ _).alloc (Nat.le_refl _) _).alloc (by simp) _
  have HV1 := Lib.hid (HV1.out.kept hbA)
  have HV4 := Lib.hid (HV4.out.kept hbA)
  have HB := Lib.hid (HB.out.trans (hbA.mono HB.out.size))
  rw [hw5a]
  clear hw5a hbA
  refine (CE2.out _ _ _ hA hB).mono ?_; rintro e w5 ⟨rfl, hb1⟩
  have HV1 := Lib.hid (HV1.out.kept hb1)
  have HV4 := Lib.hid (HV4.out.kept hb1)
  have HB := Lib.hid (HB.out.trans (hb1.mono HB.out.size))
  clear hb1 CE2 hA hB
  go_wp2_with fail
  refine (CS1.out _ _ (litA w5 [24, 7] 3 (by decide))).mono ?_; rintro e w6 ⟨v6, rfl, hb1⟩
  have HV1 := Lib.hid ((HV1.out.alloc _).kept hb1)
  have HV4 := Lib.hid ((HV4.out.alloc _).kept hb1)
  have HB := Lib.hid (sj59 HB.out hb1)
  clear hb1 CS1
  go_wp2_with fail
  refine (CD2.out _ _ (litA w6 [24, 8] 3 (by decide))).mono ?_; rintro e w7 ⟨v7, rfl, hb1⟩
  have HV1 := Lib.hid ((HV1.out.alloc _).kept hb1)
  have HV4 := Lib.hid ((HV4.out.alloc _).kept hb1)
  have HB := Lib.hid (sj59 HB.out hb1)
  clear hb1 CD2
  go_wp2_with fail
  refine (intsL (HV1.out.alloc _) ⟨_, _, rfl, litA w7 [24, 8] 3 (by decide)⟩ true (by decide)).mono ?_; rintro e w8 ⟨rfl, k8, rfl⟩
  have HV4 := Lib.hid ((HV4.out.alloc (.cells ([(24 : Int), 8].map (Value.int .i64 ·)).toArray 3)).drewN k8)
  have HB := Lib.hid (below_dn (HB.out.alloc HB.out.size (.cells ([(24 : Int), 8].map (Value.int .i64 ·)).toArray 3)) k8)
  obtain ⟨w8, hw8⟩ : ∃ w8, (w7.alloc (.cells ([(24 : Int), 8].map (Value.int .i64 ·)).toArray 3)).drewN k8 = w8 := ⟨_, rfl⟩
  have HV4 := Lib.hid (show IsL w8 v4 [0, 1, 0, 0, 1] by rw [← hw8]; exact HV4.out)
  have HB := Lib.hid (show Below w.heap.size w w8 by rw [← hw8]; exact HB.out)
  rw [hw8]
  clear hw8
  go_wp2_with fail
  refine (intsL (HV4.out.alloc _) ⟨_, _, rfl, litA w8 [0, 1, 0, 0, 1] 3 (by decide)⟩ true (by decide)).mono ?_; rintro e w9 ⟨rfl, k9, rfl⟩
  go_wp2_with fail
  go_ret
  exact ⟨rfl, below_dn (HB.out.alloc HB.out.size _) k9⟩
end Go.Proofs.Ytplopddlpoffoaa
