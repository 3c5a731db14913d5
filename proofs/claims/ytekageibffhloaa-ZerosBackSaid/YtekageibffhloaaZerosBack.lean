/- It is proved that the law 'ZerosBack' of the program returns true for every input, with no condition, and leaves what was handed in as it was. The frame was written by a program; the walk is by hand. -/
import Derived.Test.YtekageibffhloaaRows
import Derived.WalkKit
import Derived.ProofKit
import Derived.OpenShut
import Derived.ShutString
import Derived.ChangeOld
import Derived.Below
import Derived.Test.YtekageibffhloaaBase
import Derived.Test.YtekageibffhloaaZw
namespace Go.Proofs.Ytekageibffhloaa.zerosBack
open Go.ChangeShapes Go.WideShapes Go.ChangeAt Go.RowKit Go.Deep
open Go.ChangeMaps (open_string shut_string)
set_option linter.unusedVariables false
set_option maxRecDepth 100000

theorem own : ownKnob Try.prog.godebug = none := by kernel_rfl
theorem laidOut : laidOutB Try.prog = true := by kernel_rfl

/-- What the walk is told of a slice of integers that came in: nil, or a row of 'cap' cells that hold the numbers zs, each fitting its kind. -/
def IsRow (k : IntKind) (w : World) (a : Option Addr) (len cap : Nat) (zs : List Int) : Prop :=
  (a = none ∧ len = 0 ∧ cap = 0 ∧ zs = []) ∨
  ∃ x, a = some x ∧ len ≤ cap ∧ cap ≤ maxLen ∧ zs.length = cap ∧ (∀ i, i < zs.length → w.cell? (x.add i) = some (.int k (zs.getD i 0))) ∧ ∀ n ∈ zs, (Lit.int k n).wf = true

open ZerosMath
def IsK (k : IntKind) (M : Int) (w : World) (a : Option Addr) (zs : List Int) : Prop := (∀ z ∈ zs, 0 ≤ z ∧ z ≤ M) ∧ (zs = [] ∨ ∃ x, a = some x ∧ ∀ i, i < zs.length → w.cell? (x.add i) = some (.int k (zs.getD i 0)))
theorem IsK.at {k : IntKind} {M : Int} {w : World} {a : Option Addr} {l : List Int} (h : IsK k M w a l) (j : Nat) (hj : j < l.length) : ∃ x : Addr, a = some x ∧ x.block < w.heap.size ∧ w.cell? (x.add j) = some (.int k (l.getD j 0)) ∧ 0 ≤ l.getD j 0 ∧ l.getD j 0 ≤ M := by
  rcases h.2 with rfl | ⟨x, rfl, hc⟩
  · simp at hj
  · have := cell_block (hc 0 (by omega))
    exact ⟨x, rfl, by simpa [Addr.add] using this, hc j hj, h.1 _ (by simp [List.getD_eq_getElem?_getD, hj])⟩
theorem K_of {k : IntKind} {M : Int} {w : World} {a : Option Addr} {len cap : Nat} {zs : List Int} (hk : ∀ n, (Lit.int k n).wf = true → 0 ≤ n ∧ n ≤ M) (h : IsRow k w a len cap zs) : ∃ l : List Int, l.length = len ∧ len ≤ maxLen ∧ IsK k M w a l := by
  rcases h with ⟨rfl, rfl, rfl, rfl⟩ | ⟨x, rfl, hlc, hcm, hz, hc, hw⟩
  · exact ⟨[], rfl, Nat.zero_le _, by simp, .inl rfl⟩
  · have e : (zs.take len).length = len := by rw [List.length_take]; omega
    refine ⟨zs.take len, e, by omega, fun z hz => hk z (hw z (List.mem_of_mem_take hz)), .inr ⟨x, rfl, fun i hi => ?_⟩⟩
    rw [e] at hi
    rw [hc i (by omega)]
    simp [List.getD, hi]
def fA (x : Int) : Int := x % 40 * (x % 2)
theorem fA_bd (x : Int) : 0 ≤ fA x ∧ fA x ≤ 39 := by
  unfold fA
  rcases (show x % 2 = 0 ∨ x % 2 = 1 by omega) with h | h <;> rw [h] <;> omega
theorem inB_pack (l : List Int) (M : Int) (hM : 1 ≤ M) (h : ∀ x ∈ l, 0 ≤ x ∧ x ≤ M) : ∀ n, ∀ y ∈ packL n l, 0 ≤ y ∧ y ≤ M + 1 := by
  induction l with
  | nil => intro n y hy; have := signs_digit n y (by simpa [packL] using hy); omega
  | cons x l ih =>
    intro n y hy
    have hx := h x (List.mem_cons_self ..)
    have ih := ih (fun z hz => h z (List.mem_cons_of_mem _ hz))
    simp only [packL] at hy
    split at hy
    · exact ih _ y hy
    · rcases List.mem_append.1 hy with hy | hy
      · have := signs_digit n y hy; omega
      · rcases List.mem_cons.1 hy with rfl | hy
        · omega
        · exact ih _ y hy
theorem inB_un (l : List Int) (M : Int) (h0 : 0 ≤ M) (h : ∀ x ∈ l, 0 ≤ x ∧ x ≤ M) : ∀ p, ∀ y ∈ unpackL p l, 0 ≤ y ∧ y ≤ M := by
  induction l with
  | nil => intro p y hy; simp [unpackL] at hy
  | cons x l ih =>
    intro p y hy
    have hx := h x (List.mem_cons_self ..)
    have ih := ih (fun z hz => h z (List.mem_cons_of_mem _ hz))
    simp only [unpackL] at hy
    split at hy
    · rcases List.mem_append.1 hy with hy | hy
      · rw [(List.mem_replicate.1 hy).2]; omega
      · exact ih _ y hy
    · rcases List.mem_cons.1 hy with rfl | hy
      · omega
      · exact ih _ y hy
theorem first_half (A : List Int) (h : ∀ x ∈ A, 0 ≤ x ∧ x ≤ 39) (hl : A.length ≤ 1000) : packE A = 0 ∧ packR A = packL 0 A ∧ unE (packL 0 A) = 0 ∧ unR (packL 0 A) = A := by
  have h1 : inB A 1048576 = true := (inB_iff _ _).2 fun x hx => by have := h x hx; omega
  have h2 : inB (packL 0 A) 1048577 = true := (inB_iff _ _).2 fun x hx => by have := inB_pack A 39 (by omega) h 0 x hx; omega
  have e := unpack_pack 0 A (fun x hx => (h x hx).1)
  simp at e
  have h3 : over 1 0 (packL 0 A) = false := by
    rcases ho : over 1 0 (packL 0 A) with _ | _
    · rfl
    · have := over_long _ 1 0 (by omega) ho
      rw [e] at this; omega
  refine ⟨by simp [packE, h1], by simp [packR, h1], by simp [unE, h2, h3], by simp [unR, h2, h3, e]⟩
theorem second_half (B : List Int) (h : ∀ x ∈ B, 0 ≤ x ∧ x ≤ 8) (OV : Bool) (hO : over 1 0 B = OV) : unE B = (if OV then 5 else 0) ∧ unR B = (if OV then [] else unpackL 1 B) ∧ (OV = false → packE (unpackL 1 B) = 0 ∧ packR (unpackL 1 B) = B ∧ (unpackL 1 B).length ≤ 1048576) := by
  have h1 : inB B 1048577 = true := (inB_iff _ _).2 fun x hx => by have := h x hx; omega
  refine ⟨by simp [unE, h1, hO], by simp [unR, h1, hO], fun hf => ?_⟩
  subst hf
  have h2 : inB (unpackL 1 B) 1048576 = true := (inB_iff _ _).2 fun x hx => by have := inB_un B 8 (by omega) h 1 x hx; omega
  have e := pack_unpack [] B (by simp) (fun x hx => (h x hx).1)
  simp [val] at e
  have := over_short B 1 0 (by omega) hO
  exact ⟨by simp [packE, h2], by simp [packR, h2, e], by omega⟩
def fB (x : Int) : Int := x % 9
theorem map_take' (f : Int → Int) (l A : List Int) (hA : l.map f = A) (k : Nat) (h : k < l.length) : A.take k ++ [f (l.getD k 0)] = A.take (k + 1) := by
  subst hA
  rw [take_getD (l.map f) k (by simpa using h)]
  simp [List.getD_eq_getElem?_getD, h]
theorem map_snoc (f : Int → Int) (l : List Int) (k : Nat) (h : k < l.length) : (l.take k).map f ++ [f (l.getD k 0)] = (l.take (k + 1)).map f := by
  rw [take_getD l k h]; simp
def C45 (l r : List Int) (E : Int) : Prop := ∀ w v, IsL w v l → Calls Try.prog 45 #[v] w (Answers r E w)
def C47 (l r : List Int) (E : Int) : Prop := ∀ w v, IsL w v l → Calls Try.prog 47 #[v] w (Answers r E w)
set_option maxHeartbeats 3200000 in
theorem in_walk (a0 : Option Addr) (c0 : Nat) (l : List Int) (a1 : Option Addr) (c1 : Nat) (m : List Int) (w : World) (h0 : IsK .u16 65535 w a0 l) (h1 : IsK .u8 255 w a1 m) (hl : l.length ≤ 1000) (hm : m.length ≤ 40)
    (AL BL PA UB VB : List Int) (E : Int) (hAL : l.map fA = AL) (hBL : m.map fB = BL) (hPl : PA.length ≤ l.length) (C1 : C45 AL PA 0) (C2 : C47 PA AL 0) (C3 : C47 BL UB E) (C4 : C45 UB VB 0) (hc : (E = 5 ∧ UB = []) ∨ (E = 0 ∧ VB = BL)) :
    Calls Try.prog 13 #[.slice a0 l.length c0, .slice a1 m.length c1] w fun e w' => e = .returned (.bool true) ∧ Below w.heap.size w w' := by
  obtain ⟨i0, hi, hz0, hz1, hz2⟩ := info_get info_int
  have H0 := Lib.hid h0; have H1 := Lib.hid h1; clear h0 h1
  have C1 := Lib.hid C1; have C2 := Lib.hid C2; have C3 := Lib.hid C3; have C4 := Lib.hid C4; have HC := Lib.hid hc
  have hAl : AL.length = l.length := by rw [← hAL]; simp
  have hBl : BL.length = m.length := by rw [← hBL]; simp
  have HAl := Lib.hid hAl; have HBl := Lib.hid hBl
  have HAL := Lib.hid hAL; have HBL := Lib.hid hBL
  clear hc hAl hBl hAL hBL
  go_enter Try.func13, Try.ntmps13
  go_wp2
  go_loopw [5, 7] (fun u i wr => ∃ k : Nat, k ≤ l.length ∧ i = .int .i64 k ∧ wr.ownsRow w.heap.size 3 1 u k (intCells (AL.take k)) ∧ Below w.heap.size w wr) (fun _ i _ => l.length - (intOf i).toNat)
  case atStart => exact ⟨0, Nat.zero_le _, rfl, World.ownsRow_nil _ _ _ _, Below.refl _ _⟩
  case round =>
    obtain ⟨k, hk, rfl, hown, hb⟩ := hrel
    have hbs := hb.size
    by_cases hlt : k < l.length
    · obtain ⟨x, rfl, hxb, cx, b0, b1⟩ := H0.out.at k hlt
      have cx : wr.cell? (x.add k) = some (.int .u16 (l.getD k 0)) := by rw [hb.cell (by rw [add_block]; exact hxb)]; exact cx
      have HS := Lib.hid (map_take' fA l AL HAL.out k hlt)
      obtain ⟨X, hX⟩ : ∃ X, l.getD k 0 = X := ⟨_, rfl⟩
      rw [hX] at cx b0 b1 HS
      clear hX
      have hw1 : IntKind.i64.wrap X = X := IntWalk.i64_in _ (by omega)
      have ht1 : X.tmod 40 = X % 40 := Int.tmod_eq_emod_of_nonneg b0
      have ht2 : X.tmod 2 = X % 2 := Int.tmod_eq_emod_of_nonneg b0
      obtain ⟨aa, cc, hv⟩ := own_slice hown
      subst hv
      rcases (show X % 2 = 0 ∨ X % 2 = 1 by omega) with e2 | e2
      · go_wp2
        go_region_law (refine step_append_at rfl (.tmp 32) (.tmp 46) 22 rfl w.heap.size 3 i0 (.int .i64 0) 8 Try.underlying22 hi hz0 hz1 hz2 rfl _ k _ rfl (hown.alloc _) ⟨wr.heap.size, 0, none⟩ 1 1 [.int .i64 _] rfl rfl (int_new1 _ _ _ _ rfl) (int_one _) (by unfold maxLen; omega) (by omega) (by simp; omega) (by decide) ?_; intro g cap w1 hown1 hgrow hk)
        all_goals
          have hb1 : Below w.heap.size w w1 := ((hb.alloc (by omega) _).drew).grown hgrow (by simp; omega) (fun k hk => (hown.lt k hk).1)
          clear hgrow hk
          rw [show IntKind.i64.wrap (0) = fA X by rw [IntWalk.i64_in _ (by omega)]; unfold fA; rw [e2]; simp, intCells_snoc, HS.out] at hown1
          have HO := Lib.hid hown1
          clear hown1 hown hb
          go_wp2
          go_roundw
          (case rel => exact ⟨k + 1, by omega, by go_num, HO.out, hb1⟩)
          (case measure => simp [intOf]; omega)
      · go_wp2
        go_region_law (refine step_append_at rfl (.tmp 32) (.tmp 46) 22 rfl w.heap.size 3 i0 (.int .i64 0) 8 Try.underlying22 hi hz0 hz1 hz2 rfl _ k _ rfl (hown.alloc _) ⟨wr.heap.size, 0, none⟩ 1 1 [.int .i64 _] rfl rfl (int_new1 _ _ _ _ rfl) (int_one _) (by unfold maxLen; omega) (by omega) (by simp; omega) (by decide) ?_; intro g cap w1 hown1 hgrow hk)
        all_goals
          have hb1 : Below w.heap.size w w1 := ((hb.alloc (by omega) _).drew).grown hgrow (by simp; omega) (fun k hk => (hown.lt k hk).1)
          clear hgrow hk
          rw [show IntKind.i64.wrap (X % 40) = fA X by rw [IntWalk.i64_in _ (by omega)]; unfold fA; rw [e2]; simp, intCells_snoc, HS.out] at hown1
          have HO := Lib.hid hown1
          clear hown1 hown hb
          go_wp2
          go_roundw
          (case rel => exact ⟨k + 1, by omega, by go_num, HO.out, hb1⟩)
          (case measure => simp [intOf]; omega)
    · obtain rfl : k = l.length := by omega
      obtain ⟨aa, cc, hv⟩ := own_slice hown
      subst hv
      have hA : IsL wr (.slice aa l.length cc) AL := by
        have h := own_isL hown (by simp; omega)
        rw [← HAl.out, List.take_of_length_le (Nat.le_refl _)] at h
        rw [← HAl.out]; exact h
      have HA := Lib.hid hA
      clear hown hA
      go_wp2
      obtain ⟨wo, rfl⟩ : ∃ wo : World, wo = wr := ⟨_, rfl⟩
      go_loopw [6, 8] (fun u i wr => ∃ j : Nat, j ≤ m.length ∧ i = .int .i64 j ∧ wr.ownsRow wo.heap.size 3 1 u j (intCells (BL.take j)) ∧ Below wo.heap.size wo wr) (fun _ i _ => m.length - (intOf i).toNat)
      case atStart => exact ⟨0, Nat.zero_le _, rfl, World.ownsRow_nil _ _ _ _, Below.refl _ _⟩
      case round =>
        obtain ⟨j, hj, rfl, hown, hbB⟩ := hrel
        have hbsB := hbB.size
        by_cases hjt : j < m.length
        · obtain ⟨x, rfl, hxb, cx, b0, b1⟩ := H1.out.at j hjt
          have cx : wr.cell? (x.add j) = some (.int .u8 (m.getD j 0)) := by rw [hbB.cell (by rw [add_block]; omega), hb.cell (by rw [add_block]; exact hxb)]; exact cx
          have HS := Lib.hid (map_take' fB m BL HBL.out j hjt)
          obtain ⟨X, hX⟩ : ∃ X, m.getD j 0 = X := ⟨_, rfl⟩
          rw [hX] at cx b0 b1 HS
          clear hX
          go_wp2_with (at_builtin; refine wpList_append_own _ rfl _ _ 22 rfl wo.heap.size 3 i0 (.int .i64 0) 1 8 Try.underlying22 hi hz0 hz1 hz2 rfl (by decide) _ _ _ rfl (hown.alloc _) ⟨wr.heap.size, 0, none⟩ 1 1 [Value.int .i64 (X % 9)] rfl rfl ?d1 ?d2 ?d3 ?d4 ?d5 ?_)
          case d1 => exact int_new1 _ _ _ _ rfl
          case d2 => exact int_one _
          case d3 => unfold maxLen; omega
          case d4 => omega
          case d5 => simp; omega
          intro v4 w4 hown4 hgrow4 _
          have hb5 : Below wo.heap.size wo w4 := (hbB.alloc (by omega) _).grown hgrow4 (by simp; omega) (fun k hk => (hown.lt k hk).1)
          clear hgrow4 hown hbB
          rw [show X % 9 = fB X from rfl, intCells_snoc, HS.out] at hown4
          have HO := Lib.hid hown4
          clear hown4
          go_wp2
          go_roundw
          case rel => exact ⟨j + 1, by omega, by go_num, HO.out, hb5⟩
          case measure => simp [intOf]; omega
        · obtain rfl : j = m.length := by omega
          have hB : IsL wr _ BL := own_isL (by rw [← HBl.out, List.take_of_length_le (Nat.le_refl _)] at hown; exact hown) (by have := HBl.out; omega)
          have HB := Lib.hid hB
          have HA := Lib.hid (HA.out.kept hbB)
          have hb := hb.trans (hbB.mono hbs)
          clear hown hbB hB
          go_wp2_with fail
          refine (C1.out _ _ HA.out).mono ?_; rintro e w1 ⟨v1, rfl, h1, hb1⟩
          obtain ⟨p1, q1, rfl, g1⟩ := h1
          have h1 : IsL w1 (.slice p1 PA.length q1) PA := ⟨_, _, rfl, g1⟩
          have HA := Lib.hid (HA.out.kept hb1); have HB := Lib.hid (HB.out.kept hb1)
          have hb := hb.trans (hb1.mono hb.size)
          clear hb1 g1
          have H1 := Lib.hid h1; clear h1
          go_wp2_with fail
          refine (C2.out _ _ H1.out).mono ?_; rintro e w2 ⟨v2, rfl, h2, hb1⟩
          have HA := Lib.hid (HA.out.kept hb1); have HB := Lib.hid (HB.out.kept hb1)
          have hb := hb.trans (hb1.mono hb.size)
          clear hb1
          have H2 := Lib.hid h2; clear h2
          go_wp2_with fail
          refine (C3.out _ _ HB.out).mono ?_; rintro e w3 ⟨v3, rfl, h3, hb1⟩
          obtain ⟨p3, q3, rfl, g3⟩ := h3
          have h3 : IsL w3 (.slice p3 UB.length q3) UB := ⟨_, _, rfl, g3⟩
          have HA := Lib.hid (HA.out.kept hb1); have HB := Lib.hid (HB.out.kept hb1); have H2 := Lib.hid (H2.out.kept hb1)
          have hb := hb.trans (hb1.mono hb.size)
          clear hb1 g3
          have H3 := Lib.hid h3; clear h3
          go_wp2_with fail
          refine (C4.out _ _ H3.out).mono ?_; rintro e w4 ⟨v4, rfl, h4, hb1⟩
          have HA := Lib.hid (HA.out.kept hb1); have HB := Lib.hid (HB.out.kept hb1); have H2 := Lib.hid (H2.out.kept hb1)
          have hb := hb.trans (hb1.mono hb.size)
          clear hb1
          have H4 := Lib.hid h4; clear h4
          have hbO := Lib.hid hb
          go_wp2_with fail
          refine (intsL H2.out HA.out true (by simp)).mono ?_; rintro e w5 ⟨rfl, n1, rfl⟩
          have hb := below_drewN hb n1
          rcases HC.out with ⟨rfl, rfl⟩ | ⟨rfl, rfl⟩
          · go_wp2_with fail
            refine (awake49 _).mono ?_; rintro e w6 ⟨rfl, hb2⟩
            go_wp2_with fail
            go_ret
            exact ⟨rfl, (below_drewN hbO.out _).trans (hb2.mono (by simpa using hbO.out.size))⟩
          · go_wp2_with fail
            refine (intsL (H4.out.drewN n1) (HB.out.drewN n1) true (by simp)).mono ?_; rintro e w5 ⟨rfl, n2, rfl⟩
            have hb := below_drewN hb n2
            go_wp2_with fail
            refine (awake49 _).mono ?_; rintro e w6 ⟨rfl, hb2⟩
            go_wp2_with fail
            go_ret
            exact ⟨rfl, (below_drewN hbO.out _).trans (hb2.mono (by simpa using hbO.out.size))⟩

set_option maxHeartbeats 3200000 in
theorem walk (a0 : Option Addr) (len0 cap0 : Nat) (z0 : List Int) (a1 : Option Addr) (len1 cap1 : Nat) (z1 : List Int) (w : World) (w0 : IsRow .u16 w a0 len0 cap0 z0) (w1 : IsRow .u8 w a1 len1 cap1 z1) :
    Calls Try.prog 13 #[.slice a0 len0 cap0, .slice a1 len1 cap1] w fun e w' => e = .returned (.bool true) ∧ Below w.heap.size w w' := by
  obtain ⟨l, hl, hmax, h0⟩ := K_of (M := 65535) (fun n h => bounds_u16 h) w0
  obtain ⟨m, hm, hmax2, h1⟩ := K_of (M := 255) (fun n h => bounds_u8 h) w1
  clear w0 w1
  subst hl
  subst hm
  by_cases hlong : 1000 < l.length ∨ 40 < m.length
  · unfold maxLen at hmax hmax2
    by_cases h1 : 1000 < l.length
    · go_enter Try.func13, Try.ntmps13
      go_wp2_with fail
      refine (awake49 _).mono ?_; rintro e w1 ⟨rfl, hb⟩
      go_wp2_with fail
      go_ret
      exact ⟨rfl, hb⟩
    · have h2 : 40 < m.length := by omega
      go_enter Try.func13, Try.ntmps13
      go_wp2_with fail
      refine (awake49 _).mono ?_; rintro e w1 ⟨rfl, hb⟩
      go_wp2_with fail
      go_ret
      exact ⟨rfl, hb⟩
  · have hA : ∀ x ∈ l.map fA, 0 ≤ x ∧ x ≤ 39 := by
      intro x hx
      obtain ⟨y, -, rfl⟩ := List.mem_map.1 hx
      exact fA_bd y
    have hB : ∀ x ∈ m.map fB, 0 ≤ x ∧ x ≤ 8 := by
      intro x hx
      obtain ⟨y, -, rfl⟩ := List.mem_map.1 hx
      unfold fB; omega
    obtain ⟨f1, f2, f3, f4⟩ := first_half (l.map fA) hA (by simp; omega)
    obtain ⟨s1, s2, s3⟩ := second_half (m.map fB) hB _ rfl
    have hpl := packL_length 0 (l.map fA)
    simp at hpl
    have C1 : C45 (l.map fA) (packL 0 (l.map fA)) 0 := fun w v h => by have := zPackA h (by simp; omega); rw [f1, f2] at this; exact this
    have C2 : C47 (packL 0 (l.map fA)) (l.map fA) 0 := fun w v h => by have := zUnA h (by omega); rw [f3, f4] at this; exact this
    rcases hO : over 1 0 (m.map fB) with _ | _
    · rw [hO] at s1 s2 s3
      obtain ⟨t1, t2, t3⟩ := s3 rfl
      have C3 : C47 (m.map fB) (unpackL 1 (m.map fB)) 0 := fun w v h => by have := zUnA h (by simp; omega); rw [s1, s2] at this; exact this
      have C4 : C45 (unpackL 1 (m.map fB)) (m.map fB) 0 := fun w v h => by have := zPackA h (by omega); rw [t1, t2] at this; exact this
      exact in_walk a0 cap0 l a1 cap1 m w h0 h1 (by omega) (by omega) _ _ _ _ _ 0 rfl rfl hpl C1 C2 C3 C4 (.inr ⟨rfl, rfl⟩)
    · rw [hO] at s1 s2
      have C3 : C47 (m.map fB) [] 5 := fun w v h => by have := zUnA h (by simp; omega); rw [s1, s2] at this; exact this
      have C4 : C45 [] [] 0 := fun w v h => zPackA h (by simp)
      exact in_walk a0 cap0 l a1 cap1 m w h0 h1 (by omega) (by omega) _ _ _ _ _ 5 rfl rfl hpl C1 C2 C3 C4 (.inl ⟨rfl, rfl⟩)

theorem lifted (os : Os) (started : os.Started) (H : Type) (enc : TypeId × Value → H) :
    ReturnsInHanded {} Try.checked os 13 .any (Rows.zerosBackSpec.pre6 enc Try.prog Try.f13 Rows.zerosBackRow.domain false) (Rows.zerosBackSpec.post enc Try.prog Try.f13 false true false false) := by
  refine returnsInHanded_of_change (C := Try.checked) own started (by kernel_rfl) Try.func13
    (ChangeSpec.witness6 (enc := enc) (C := Try.checked) false ⟨#[], #[.slice none 0 0, .slice none 0 0], []⟩ 8 (by kernel_rfl) (by kernel_rfl) (by kernel_rfl) (by kernel_rfl)) ?_
  intro W base args ds gs before hval0 hW hcnd _
  have hval : ∀ (j : Nat) t v, Try.f13.params[j]? = some t → args[j]? = some v → Value.okWide Try.prog W .any base t v := hval0
  have hW' := hW
  obtain ⟨p, q, hA0, hV, rfl, hfz, hnd⟩ := hW
  have hA : DataW.TrodAll enc Try.prog W 0 (fun _ => true) true Try.f13.params.toList args.toList ds p := hA0
  rw [Try.params13] at hA hval
  obtain ⟨v0, vs0, d0, ds0, p0, q0, hargs, rfl, rfl, h0, r0⟩ := trodAll_cons hA
  obtain ⟨v1, vs1, d1, ds1, p1, q1, rfl, rfl, rfl, h1, r1⟩ := trodAll_cons r0
  obtain ⟨rfl, rfl, rfl⟩ := trodAll_nil r1
  obtain rfl : args = #[v0, v1] := by cases args; simp_all
  obtain ⟨rfl, rfl⟩ := trodVars_none hV
  obtain ⟨a0, len0, cap0, rfl⟩ := okWide_slice Try.underlying73 (hval 0 73 v0 rfl rfl)
  have k0 := h0
  have lt0 : ∀ x ∈ p0, x.block < W.heap.size := by obtain ⟨m, hm⟩ := k0; exact DataW.trod_lt m _ _ _ hm
  obtain ⟨z0, w0⟩ : ∃ zs, IsRow .u16 W a0 len0 cap0 zs := by
    obtain ⟨fuel, hf⟩ := h0
    rcases open_ints Try.underlying73 Try.underlying74 (by kernel_rfl) hf with ⟨hcs, _⟩ | ⟨x, l, c, zs, hcs, _, hl, hm, hz, _, hcell, hwz⟩
    · simp [Value.cells] at hcs
      obtain ⟨rfl, rfl, rfl⟩ := hcs
      exact ⟨[], .inl ⟨rfl, rfl, rfl, rfl⟩⟩
    · simp [Value.cells] at hcs
      obtain ⟨rfl, rfl, rfl⟩ := hcs
      exact ⟨zs, .inr ⟨_, rfl, hl, hm, by simpa using hz, hcell, hwz⟩⟩
  obtain ⟨a1, len1, cap1, rfl⟩ := okWide_slice Try.underlying44 (hval 1 44 v1 rfl rfl)
  have k1 := h1
  have lt1 : ∀ x ∈ p1, x.block < W.heap.size := by obtain ⟨m, hm⟩ := k1; exact DataW.trod_lt m _ _ _ hm
  obtain ⟨z1, w1⟩ : ∃ zs, IsRow .u8 W a1 len1 cap1 zs := by
    obtain ⟨fuel, hf⟩ := h1
    rcases open_ints Try.underlying44 Try.underlying5 (by kernel_rfl) hf with ⟨hcs, _⟩ | ⟨x, l, c, zs, hcs, _, hl, hm, hz, _, hcell, hwz⟩
    · simp [Value.cells] at hcs
      obtain ⟨rfl, rfl, rfl⟩ := hcs
      exact ⟨[], .inl ⟨rfl, rfl, rfl, rfl⟩⟩
    · simp [Value.cells] at hcs
      obtain ⟨rfl, rfl, rfl⟩ := hcs
      exact ⟨zs, .inr ⟨_, rfl, hl, hm, by simpa using hz, hcell, hwz⟩⟩
  clear hA0 hval0
  refine (walk a0 len0 cap0 z0 a1 len1 cap1 z1 W w0 w1).mono fun e W' ⟨he, bel⟩ => ?_
  subst he
  exact ⟨_, rfl, _, _, _, [], _, [], hW', trodAll_mk1 (shut_bool Try.underlying4 _), (trodAll_cons_mk (Below.trod laidOut (by kernel_rfl) (of_decide_eq_true (by kernel_rfl)) k0 bel lt0) (trodAll_cons_mk (Below.trod laidOut (by kernel_rfl) (of_decide_eq_true (by kernel_rfl)) k1 bel lt1) trodAll_mk0)), rfl, bel.frame _, fun h => by cases h⟩

theorem over : Rows.zerosBackRow.holds Try.pinned (OpenSpec.ofChange Rows.zerosBackSpec) :=
  OpenClaim.holds_of_wide 13 Try.f13 rfl rfl rfl rfl rfl rfl rfl ⟨rfl, rfl, rfl, rfl, rfl⟩ rfl rfl rfl rfl rfl (by kernel_rfl) Try.func13 (by kernel_rfl)
    (of_decide_eq_true (by kernel_rfl)) (by unfold Func.isWrapper; first | (rw [if_pos (by decide +kernel)]; kernel_rfl) | (rw [if_neg (by decide +kernel)]; exact ⟨rfl, rfl⟩))
    (fun os started H enc _ => lifted os started H enc)

theorem proved : Rows.ZerosBackSaid := over
#print axioms proved
end Go.Proofs.Ytekageibffhloaa.zerosBack
