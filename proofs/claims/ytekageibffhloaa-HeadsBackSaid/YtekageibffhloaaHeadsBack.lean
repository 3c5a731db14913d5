/- It is proved that the law 'HeadsBack' of the program returns true for every input, with no condition, and leaves what was handed in as it was. The frame was written by a program; the walk is by hand. -/
import Derived.Test.YtekageibffhloaaRows
import Derived.WalkKit
import Derived.ProofKit
import Derived.OpenShut
import Derived.ShutString
import Derived.ChangeOld
import Derived.Below
import Derived.Test.YtekageibffhloaaBase
import Derived.Test.YtekageibffhloaaH9
namespace Go.Proofs.Ytekageibffhloaa.headsBack
open Go.ChangeShapes Go.WideShapes Go.ChangeAt Go.RowKit Go.Deep
open Go.ChangeMaps (open_string shut_string)
set_option linter.unusedVariables false
set_option maxRecDepth 100000

theorem own : ownKnob Try.prog.godebug = none := by kernel_rfl
theorem laidOut : laidOutB Try.prog = true := by kernel_rfl

theorem head_back (L : Int) (D : Bool) (I : Nat) (hI : I < 4294967296) (S r : List UInt8) (h : putS L D I = (S, 0)) : readS (S ++ r) = ((L, D, I), r, 0) ∧ S.length ≤ 9 := by
  unfold putS at h
  by_cases h1 : L < 15 ∨ 26 < L
  · rw [if_pos h1] at h; simp at h
  · rw [if_neg h1] at h
    obtain ⟨n, rfl⟩ : ∃ n : Nat, L = n := ⟨L.toNat, by omega⟩
    have hpre : ∀ q, pre (71 :: 76 :: 68 :: 49 :: q) = 0 := fun q => by unfold pre; exact if_pos rfl
    cases D with
    | true =>
      rw [if_pos rfl] at h
      simp only [Prod.mk.injEq, and_true] at h
      subst h
      have e : (nameB ++ ([UInt8.ofNat ((n : Int).toNat + 32)] ++ lowB I 4)) ++ r = 71 :: 76 :: 68 :: 49 :: UInt8.ofNat (n + 32) :: UInt8.ofNat I :: UInt8.ofNat (I / 256) :: UInt8.ofNat (I / 65536) :: UInt8.ofNat (I / 16777216) :: r := by
        simp [nameB, lowB]
      rw [e]
      refine ⟨?_, by simp [nameB, lowB]⟩
      unfold readS
      rw [hpre, if_neg (by decide)]
      show restS (UInt8.ofNat (n + 32) :: UInt8.ofNat I :: UInt8.ofNat (I / 256) :: UInt8.ofNat (I / 65536) :: UInt8.ofNat (I / 16777216) :: r) = _
      have ha : (UInt8.ofNat (n + 32)).toNat = n + 32 := by simp; omega
      unfold restS
      simp only [ha]
      rw [if_neg (by omega), if_neg (by omega)]
      simp
      omega
    | false =>
      rw [if_neg (by decide)] at h
      by_cases hi : I = 0
      · rw [if_pos hi] at h
        simp only [Prod.mk.injEq, and_true] at h
        subst h hi
        refine ⟨?_, by simp [nameB]⟩
        have e : (nameB ++ [UInt8.ofNat (n : Int).toNat]) ++ r = 71 :: 76 :: 68 :: 49 :: UInt8.ofNat n :: r := by simp [nameB]
        rw [e]
        unfold readS
        rw [hpre, if_neg (by decide)]
        show restS (UInt8.ofNat n :: r) = _
        have ha : (UInt8.ofNat n).toNat = n := by simp; omega
        unfold restS
        simp only [ha]
        rw [if_neg (by omega), if_pos (by omega)]
        simp
        omega
      · rw [if_neg hi] at h; simp at h
theorem block_back (K R C : Int) (S r : List UInt8) (h : putBS K R C = (S, 0)) : readBS (S ++ r) = ((K, R, C), r, 0) ∧ S.length ≤ 5 := by
  unfold putBS at h
  cases hm : mayB K R C with
  | false => rw [hm, if_pos rfl] at h; simp at h
  | true =>
    rw [hm, if_neg (by decide)] at h
    by_cases h0 : K = 0
    · rw [if_pos h0] at h
      simp only [Prod.mk.injEq, and_true] at h
      obtain ⟨rfl, rfl⟩ := mayB_zero hm h0
      subst h h0
      refine ⟨?_, by simp⟩
      show readBS (0 :: r) = _
      unfold readBS
      simp
    · rw [if_neg h0] at h
      simp only [Prod.mk.injEq, and_true] at h
      obtain ⟨hk, hr1, hr2, hc1, hc2⟩ := mayB_some hm h0
      obtain ⟨k, rfl⟩ : ∃ k : Nat, K = k := ⟨K.toNat, by omega⟩
      obtain ⟨x, rfl⟩ : ∃ x : Nat, R = (x + 1 : Nat) := ⟨(R - 1).toNat, by omega⟩
      obtain ⟨y, rfl⟩ : ∃ y : Nat, C = (y + 1 : Nat) := ⟨(C - 1).toNat, by omega⟩
      rw [show (((x + 1 : Nat) : Int) - 1).toNat = x by omega, show (((y + 1 : Nat) : Int) - 1).toNat = y by omega] at h
      subst h
      refine ⟨?_, by simp [lowB]⟩
      have e : ([UInt8.ofNat (k : Int).toNat] ++ lowB x 2 ++ lowB y 2) ++ r = UInt8.ofNat k :: UInt8.ofNat x :: UInt8.ofNat (x / 256) :: UInt8.ofNat y :: UInt8.ofNat (y / 256) :: r := by simp [lowB]
      rw [e]
      have ha : (UInt8.ofNat k).toNat = k := by simp; omega
      have e1 : ((UInt8.ofNat x).toNat : Int) + (UInt8.ofNat (x / 256)).toNat * 256 + 1 = (x + 1 : Nat) := by simp; omega
      have e2 : ((UInt8.ofNat y).toNat : Int) + (UInt8.ofNat (y / 256)).toNat * 256 + 1 = (y + 1 : Nat) := by simp; omega
      unfold readBS
      simp only [ha, e1, e2]
      rw [if_neg (by omega), if_neg (by omega), if_pos hm]
theorem put_err (L : Int) (D : Bool) (I : Nat) (S : List UInt8) (E : Int) (h : putS L D I = (S, E)) : (E = 0 ∨ E ≠ 0 ∧ S = []) := by
  unfold putS at h
  split at h
  · simp at h; obtain ⟨rfl, rfl⟩ := h; exact .inr ⟨by decide, rfl⟩
  · split at h
    · simp at h; exact .inl h.2.symm
    · split at h
      · simp at h; exact .inl h.2.symm
      · simp at h; obtain ⟨rfl, rfl⟩ := h; exact .inr ⟨by decide, rfl⟩
theorem putb_err (K R C : Int) (S : List UInt8) (E : Int) (h : putBS K R C = (S, E)) : (E = 0 ∨ E ≠ 0 ∧ S = []) := by
  unfold putBS at h
  split at h
  · simp at h; obtain ⟨rfl, rfl⟩ := h; exact .inr ⟨by decide, rfl⟩
  · split at h
    · simp at h; exact .inl h.2.symm
    · simp at h; exact .inl h.2.symm
/-- What reading what was put tells. -/
theorem head_ways (L : Int) (D : Bool) (I : Nat) (hI : I < 4294967296) (S r : List UInt8) (E : Int) (h : putS L D I = (S, E)) (hr : r.length ≤ 500) : ∃ L2 D2 I2 r2 E2, readS (S ++ r) = ((L2, D2, I2), r2, E2) ∧ S.length ≤ 9 ∧ (E = 0 → L2 = L ∧ D2 = D ∧ I2 = I ∧ r2 = r ∧ E2 = 0) := by
  rcases put_err L D I S E h with rfl | ⟨h1, rfl⟩
  · have := head_back L D I hI S r h
    exact ⟨L, D, I, r, 0, this.1, this.2, fun _ => ⟨rfl, rfl, rfl, rfl, rfl⟩⟩
  · obtain ⟨⟨⟨a, b, c⟩, d, e⟩, hx⟩ : ∃ x, readS ([] ++ r) = x := ⟨_, rfl⟩
    exact ⟨a, b, c, d, e, hx, by simp, fun e => absurd e h1⟩
theorem block_ways (K R C : Int) (S r : List UInt8) (E : Int) (h : putBS K R C = (S, E)) (hr : r.length ≤ 500) : ∃ K2 R2 C2 r2 E2, readBS (S ++ r) = ((K2, R2, C2), r2, E2) ∧ S.length ≤ 5 ∧ (E = 0 → K2 = K ∧ R2 = R ∧ C2 = C ∧ r2 = r ∧ E2 = 0) := by
  rcases putb_err K R C S E h with rfl | ⟨h1, rfl⟩
  · have := block_back K R C S r h
    exact ⟨K, R, C, r, 0, this.1, this.2, fun _ => ⟨rfl, rfl, rfl, rfl, rfl⟩⟩
  · obtain ⟨⟨⟨a, b, c⟩, d, e⟩, hx⟩ : ∃ x, readBS ([] ++ r) = x := ⟨_, rfl⟩
    exact ⟨a, b, c, d, e, hx, by simp, fun e => absurd e h1⟩

set_option maxHeartbeats 6400000 in
theorem walk (b0_0 : Int) (b0_1 : Bool) (b0_2 : Int) (b1_0 : Int) (b1_1 : Int) (b1_2 : Int) (a2 : ByteArray) (w : World) (w0_0 : (Lit.int .i64 b0_0).wf = true) (w0_2 : (Lit.int .u32 b0_2).wf = true) (w1_0 : (Lit.int .i64 b1_0).wf = true) (w1_1 : (Lit.int .i64 b1_1).wf = true) (w1_2 : (Lit.int .i64 b1_2).wf = true) (w2 : a2.size ≤ maxLen) :
    Calls Try.prog 11 #[.agg #[.int .i64 b0_0, .bool b0_1, .int .u32 b0_2], .agg #[.int .i64 b1_0, .int .i64 b1_1, .int .i64 b1_2], .string a2] w fun e w' => e = .returned (.bool true) ∧ Below w.heap.size w w' := by
  have hI : 0 ≤ b0_2 ∧ b0_2 ≤ 4294967295 := bounds_u32 w0_2
  obtain ⟨I, rfl⟩ : ∃ I : Nat, b0_2 = I := ⟨b0_2.toNat, by omega⟩
  by_cases hlong : 500 < a2.size
  · have hli : (500 : Int) < (a2.size : Int) := by omega
    go_enter Try.func11, Try.ntmps11
    go_wp2_with fail
    refine (awake31 _).mono ?_; rintro e w1 ⟨rfl, hb⟩
    go_wp2_with fail
    go_ret
    exact ⟨rfl, (((Below.refl _ _).alloc (Nat.le_refl _) _).alloc (by simp) _).trans (hb.mono (by simp; omega))⟩
  have hlen : a2.data.toList.length ≤ 500 := by
    have : a2.data.toList.length = a2.size := rfl
    omega
  obtain ⟨⟨S, E⟩, hr⟩ : ∃ r, putS b0_0 b0_1 I = r := ⟨_, rfl⟩
  obtain ⟨⟨T, F⟩, hq⟩ : ∃ r, putBS b1_0 b1_1 b1_2 = r := ⟨_, rfl⟩
  obtain ⟨L2, D2, I2, r2, E2, hx, hsl, hx2⟩ := head_ways b0_0 b0_1 I (by omega) S a2.data.toList E hr hlen
  obtain ⟨K2, R2, C2, q2, F2, hy, htl, hy2⟩ := block_ways b1_0 b1_1 b1_2 T a2.data.toList F hq hlen
  have C1 := Lib.hid (fun W => hPutT b0_0 b0_1 I (by omega) S E hr W)
  have C3 := Lib.hid (fun W => hPutBT b1_0 b1_1 b1_2 T F hq W)
  have CR := Lib.hid (fun W => hReadT (S ++ a2.data.toList) (by rw [List.length_append]; omega) L2 D2 I2 r2 E2 hx W)
  have CB := Lib.hid (fun W => hReadBT (T ++ a2.data.toList) (by rw [List.length_append]; omega) K2 R2 C2 q2 F2 hy W)
  have hc1 : sB (S ++ a2.data.toList) = sB S ++ a2 := by rw [← sB_app, sB_of]
  have hc2 : sB (T ++ a2.data.toList) = sB T ++ a2 := by rw [← sB_app, sB_of]
  rw [hc1] at CR
  rw [hc2] at CB
  have hs1 : (sB S).size ≤ 9 := by rw [sB_size]; exact hsl
  have hs2 : (sB T).size ≤ 5 := by rw [sB_size]; exact htl
  have hs3 : a2.size ≤ 500 := by omega
  have HR2 := Lib.hid (show E = 0 → sB r2 = a2 from fun e => by rw [(hx2 e).2.2.2.1, sB_of])
  have HQ2 := Lib.hid (show F = 0 → sB q2 = a2 from fun e => by rw [(hy2 e).2.2.2.1, sB_of])
  have HX2 := Lib.hid (show E = 0 → L2 = b0_0 ∧ D2 = b0_1 ∧ I2 = I ∧ E2 = 0 from fun e => ⟨(hx2 e).1, (hx2 e).2.1, (hx2 e).2.2.1, (hx2 e).2.2.2.2⟩)
  have HY2 := Lib.hid (show F = 0 → K2 = b1_0 ∧ R2 = b1_1 ∧ C2 = b1_2 ∧ F2 = 0 from fun e => ⟨(hy2 e).1, (hy2 e).2.1, (hy2 e).2.2.1, (hy2 e).2.2.2.2⟩)
  have hnl : ¬ (500 : Int) < (a2.size : Int) := by omega
  clear hr hq hx hy hx2 hy2 hc1 hc2 hlen hlong hsl htl w2
  go_enter Try.func11, Try.ntmps11
  go_wp2_with fail
  refine (C1.out _).mono ?_; rintro e w1 ⟨rfl, hb⟩
  have HX := Lib.hid ((hb.block _ (by simp; omega)).trans (heap_two_first w (.cells #[.int .i64 b0_0, .bool b0_1, .int .u32 I] 53) (.cells #[.int .i64 b1_0, .int .i64 b1_1, .int .i64 b1_2] 55)))
  have HY := Lib.hid ((hb.block _ (by simp)).trans (heap_two_last w (.cells #[.int .i64 b0_0, .bool b0_1, .int .u32 I] 53) (.cells #[.int .i64 b1_0, .int .i64 b1_1, .int .i64 b1_2] 55)))
  have hb : Below w.heap.size w w1 := (((Below.refl _ _).alloc (Nat.le_refl _) _).alloc (by simp) _).trans (hb.mono (by simp; omega))
  have y0 := cell_lit HY.out 0 _ rfl
  have y1 := cell_lit HY.out 1 _ rfl
  have y2 := cell_lit HY.out 2 _ rfl
  go_wp2_with fail
  clear y0 y1 y2
  refine (C3.out _).mono ?_; rintro e w2 ⟨rfl, hb2⟩
  have HX := Lib.hid (keptH HX.out hb2)
  have HY := Lib.hid (keptH HY.out hb2)
  have hb := stepA hb hb2
  clear hb2
  go_wp2_with fail
  refine (CR.out _).mono ?_; rintro e w3 ⟨rfl, hb2⟩
  have HX := Lib.hid (keptH HX.out hb2)
  have HY := Lib.hid (keptH HY.out hb2)
  have hb := stepA hb hb2
  clear hb2
  go_wp2_with fail
  refine (CB.out _).mono ?_; rintro e w4 ⟨rfl, hb2⟩
  have HX := Lib.hid (oldH HX.out hb2)
  have HY := Lib.hid (oldH HY.out hb2)
  have HZ := Lib.hid (newH hb2)
  have hb := stepB hb hb2
  clear hb2 C1 C3 CR CB
  have x0 := cell_lit HX.out 0 _ rfl
  have x1 := cell_lit HX.out 1 _ rfl
  have x2 := cell_lit HX.out 2 _ rfl
  have y0 := cell_lit HY.out 0 _ rfl
  have y1 := cell_lit HY.out 1 _ rfl
  have y2 := cell_lit HY.out 2 _ rfl
  have z0 := cell_lit HZ.out 0 _ rfl
  have z1 := cell_lit HZ.out 1 _ rfl
  have z2 := cell_lit HZ.out 2 _ rfl
  have lx := block_lt HX.out
  have ly := block_lt HY.out
  have lz := block_lt HZ.out
  have HB := Lib.hid hb
  clear hb HX HY HZ
  by_cases e0 : E = 0
  · obtain ⟨rfl, rfl, rfl, rfl⟩ := HX2.out e0
    have hr2 := HR2.out e0
    rw [hr2] at *
    subst e0
    by_cases f0 : F = 0
    · obtain ⟨rfl, rfl, rfl, rfl⟩ := HY2.out f0
      have hq2 := HQ2.out f0
      rw [hq2] at *
      subst f0
      clear HR2 HQ2 HX2 HY2 hr2 hq2
      go_wp2_with fail
      refine (awake31 _).mono ?_; rintro e w5 ⟨rfl, hb2⟩
      go_wp2_with fail
      go_ret
      exact ⟨rfl, stepB HB.out hb2⟩
    · have f1 : (F != 0) = true := by rw [bne_iff_ne]; exact f0
      clear HR2 HQ2 HX2 HY2 hr2
      go_wp2_with fail
      refine (awake31 _).mono ?_; rintro e w5 ⟨rfl, hb2⟩
      go_wp2_with fail
      go_ret
      exact ⟨rfl, stepB HB.out hb2⟩
  · have e1 : (E != 0) = true := by rw [bne_iff_ne]; exact e0
    by_cases f0 : F = 0
    · obtain ⟨rfl, rfl, rfl, rfl⟩ := HY2.out f0
      have hq2 := HQ2.out f0
      rw [hq2] at *
      subst f0
      clear HR2 HQ2 HX2 HY2 hq2
      go_wp2_with fail
      refine (awake31 _).mono ?_; rintro e w5 ⟨rfl, hb2⟩
      go_wp2_with fail
      go_ret
      exact ⟨rfl, stepB HB.out hb2⟩
    · have f1 : (F != 0) = true := by rw [bne_iff_ne]; exact f0
      clear HR2 HQ2 HX2 HY2
      go_wp2_with fail
      refine (awake31 _).mono ?_; rintro e w5 ⟨rfl, hb2⟩
      go_wp2_with fail
      go_ret
      exact ⟨rfl, stepB HB.out hb2⟩

theorem lifted (os : Os) (started : os.Started) (H : Type) (enc : TypeId × Value → H) :
    ReturnsInHanded {} Try.checked os 11 .any (Rows.headsBackSpec.pre6 enc Try.prog Try.f11 Rows.headsBackRow.domain false) (Rows.headsBackSpec.post enc Try.prog Try.f11 false true false false) := by
  refine returnsInHanded_of_change (C := Try.checked) own started (by kernel_rfl) Try.func11
    (ChangeSpec.witness6 (enc := enc) (C := Try.checked) false ⟨#[], #[.agg #[.int .i64 0, .bool false, .int .u32 0], .agg #[.int .i64 0, .int .i64 0, .int .i64 0], .string ByteArray.empty], []⟩ 8 (by kernel_rfl) (by kernel_rfl) (by kernel_rfl) (by kernel_rfl)) ?_
  intro W base args ds gs before hval0 hW hcnd _
  have hval : ∀ (j : Nat) t v, Try.f11.params[j]? = some t → args[j]? = some v → Value.okWide Try.prog W .any base t v := hval0
  have hW' := hW
  obtain ⟨p, q, hA0, hV, rfl, hfz, hnd⟩ := hW
  have hA : DataW.TrodAll enc Try.prog W 0 (fun _ => true) true Try.f11.params.toList args.toList ds p := hA0
  rw [Try.params11] at hA hval
  obtain ⟨v0, vs0, d0, ds0, p0, q0, hargs, rfl, rfl, h0, r0⟩ := trodAll_cons hA
  obtain ⟨v1, vs1, d1, ds1, p1, q1, rfl, rfl, rfl, h1, r1⟩ := trodAll_cons r0
  obtain ⟨v2, vs2, d2, ds2, p2, q2, rfl, rfl, rfl, h2, r2⟩ := trodAll_cons r1
  obtain ⟨rfl, rfl, rfl⟩ := trodAll_nil r2
  obtain rfl : args = #[v0, v1, v2] := by cases args; simp_all
  obtain ⟨rfl, rfl⟩ := trodVars_none hV
  have k0 := h0
  have lt0 : ∀ x ∈ p0, x.block < W.heap.size := by obtain ⟨m, hm⟩ := k0; exact DataW.trod_lt m _ _ _ hm
  obtain ⟨l, rfl, hl, hcs⟩ := agg_struct Try.underlying53 (by kernel_rfl) (by kernel_rfl) (hval 0 53 v0 rfl rfl) h0
  obtain ⟨x0, x1, x2, rfl⟩ := len3 l hl
  obtain ⟨n0, c, y, hc, hy⟩ := hcs 0 _ rfl
  simp only [List.getElem?_cons_zero, Option.some.injEq] at hc
  subst hc
  obtain ⟨b0_0, hc, -, w0_0⟩ := DataW.trod_int Try.underlying3 hy
  simp only [List.cons.injEq, and_true] at hc
  subst hc
  clear hy
  obtain ⟨n1, c, y, hc, hy⟩ := hcs 1 _ rfl
  simp only [List.getElem?_cons_zero, List.getElem?_cons_succ, Option.some.injEq] at hc
  subst hc
  obtain ⟨b0_1, hc, -⟩ := DataW.trod_bool Try.underlying4 hy
  simp only [List.cons.injEq, and_true] at hc
  subst hc
  clear hy
  obtain ⟨n2, c, y, hc, hy⟩ := hcs 2 _ rfl
  simp only [List.getElem?_cons_zero, List.getElem?_cons_succ, Option.some.injEq] at hc
  subst hc
  obtain ⟨b0_2, hc, -, w0_2⟩ := DataW.trod_int Try.underlying35 hy
  simp only [List.cons.injEq, and_true] at hc
  subst hc
  clear hy
  clear hl hcs
  have k1 := h1
  have lt1 : ∀ x ∈ p1, x.block < W.heap.size := by obtain ⟨m, hm⟩ := k1; exact DataW.trod_lt m _ _ _ hm
  obtain ⟨l, rfl, hl, hcs⟩ := agg_struct Try.underlying55 (by kernel_rfl) (by kernel_rfl) (hval 1 55 v1 rfl rfl) h1
  obtain ⟨x0, x1, x2, rfl⟩ := len3 l hl
  obtain ⟨n0, c, y, hc, hy⟩ := hcs 0 _ rfl
  simp only [List.getElem?_cons_zero, Option.some.injEq] at hc
  subst hc
  obtain ⟨b1_0, hc, -, w1_0⟩ := DataW.trod_int Try.underlying3 hy
  simp only [List.cons.injEq, and_true] at hc
  subst hc
  clear hy
  obtain ⟨n1, c, y, hc, hy⟩ := hcs 1 _ rfl
  simp only [List.getElem?_cons_zero, List.getElem?_cons_succ, Option.some.injEq] at hc
  subst hc
  obtain ⟨b1_1, hc, -, w1_1⟩ := DataW.trod_int Try.underlying3 hy
  simp only [List.cons.injEq, and_true] at hc
  subst hc
  clear hy
  obtain ⟨n2, c, y, hc, hy⟩ := hcs 2 _ rfl
  simp only [List.getElem?_cons_zero, List.getElem?_cons_succ, Option.some.injEq] at hc
  subst hc
  obtain ⟨b1_2, hc, -, w1_2⟩ := DataW.trod_int Try.underlying3 hy
  simp only [List.cons.injEq, and_true] at hc
  subst hc
  clear hy
  clear hl hcs
  have k2 := h2
  have lt2 : ∀ x ∈ p2, x.block < W.heap.size := by obtain ⟨m, hm⟩ := k2; exact DataW.trod_lt m _ _ _ hm
  obtain ⟨a2, rfl, rfl, rfl, w2⟩ := open_string Try.underlying9 (hval 2 9 v2 rfl rfl) h2
  clear hA0 hval0
  refine (walk b0_0 b0_1 b0_2 b1_0 b1_1 b1_2 a2 W w0_0 w0_2 w1_0 w1_1 w1_2 w2).mono fun e W' ⟨he, bel⟩ => ?_
  subst he
  exact ⟨_, rfl, _, _, _, [], _, [], hW', trodAll_mk1 (shut_bool Try.underlying4 _), (trodAll_cons_mk (Below.trod laidOut (by kernel_rfl) (of_decide_eq_true (by kernel_rfl)) k0 bel lt0) (trodAll_cons_mk (Below.trod laidOut (by kernel_rfl) (of_decide_eq_true (by kernel_rfl)) k1 bel lt1) (trodAll_cons_mk (Below.trod laidOut (by kernel_rfl) (of_decide_eq_true (by kernel_rfl)) k2 bel lt2) trodAll_mk0))), rfl, bel.frame _, fun h => by cases h⟩

theorem over : Rows.headsBackRow.holds Try.pinned (OpenSpec.ofChange Rows.headsBackSpec) :=
  OpenClaim.holds_of_wide 11 Try.f11 rfl rfl rfl rfl rfl rfl rfl ⟨rfl, rfl, rfl, rfl, rfl⟩ rfl rfl rfl rfl rfl (by kernel_rfl) Try.func11 (by kernel_rfl)
    (of_decide_eq_true (by kernel_rfl)) (by unfold Func.isWrapper; first | (rw [if_pos (by decide +kernel)]; kernel_rfl) | (rw [if_neg (by decide +kernel)]; exact ⟨rfl, rfl⟩))
    (fun os started H enc _ => lifted os started H enc)

theorem proved : Rows.HeadsBackSaid := over
#print axioms proved
end Go.Proofs.Ytekageibffhloaa.headsBack
