/- It is proved that the law 'MtfBack' of the program returns true for every input, with no condition, and leaves what was handed in as it was. The frame was written by a program; the walk is by hand. -/
import Derived.Test.YtmpmioffngonjaaRows
import Derived.WalkKit
import Derived.ProofKit
import Derived.OpenShut
import Derived.ShutString
import Derived.ChangeOld
import Derived.Below
import Derived.Test.YtmpmioffngonjaaBase
import Derived.Test.YtmpmioffngonjaaMo
namespace Go.Proofs.Ytmpmioffngonjaa.mtfBack
open Go.ChangeShapes Go.WideShapes Go.ChangeAt Go.RowKit Go.Deep
open Go.ChangeMaps (open_string shut_string)
set_option linter.unusedVariables false
set_option maxRecDepth 100000

theorem own : ownKnob Try.prog.godebug = none := by kernel_rfl
theorem laidOut : laidOutB Try.prog = true := by kernel_rfl

/-- What the walk is told of a slice of integers that came in: nil, or a row of 'cap' cells that hold the numbers zs, each fitting its kind. -/
def IsRow (k : IntKind) (w : World) (a : Option Addr) (len cap : Nat) (zs : List Int) : Prop :=
  (a = none ∧ len = 0 ∧ cap = 0 ∧ zs = []) ∨
  ∃ x, a = some x ∧ len ≤ cap ∧ cap ≤ maxLen ∧ zs.length = cap ∧ (∀ i, i < zs.length → w.cell? (x.add i) = some (.int k (zs.getD i 0))) ∧ ∀ n ∈ zs, (Lit.int k n).wf = true

open MtfMath
def IsK (k : IntKind) (M : Int) (w : World) (a : Option Addr) (zs : List Int) : Prop := (∀ z ∈ zs, 0 ≤ z ∧ z ≤ M) ∧ (zs = [] ∨ ∃ x, a = some x ∧ ∀ i, i < zs.length → w.cell? (x.add i) = some (.int k (zs.getD i 0)))
theorem IsK.at {k : IntKind} {M : Int} {w : World} {a : Option Addr} {l : List Int} (h : IsK k M w a l) (j : Nat) (hj : j < l.length) : ∃ x : Addr, a = some x ∧ x.block < w.heap.size ∧ w.cell? (x.add j) = some (.int k (l.getD j 0)) ∧ 0 ≤ l.getD j 0 ∧ l.getD j 0 ≤ M := by
  rcases h.2 with rfl | ⟨x, rfl, hc⟩
  · simp at hj
  · have := cell_block (hc j hj)
    rw [add_block] at this
    exact ⟨x, rfl, this, hc j hj, h.1 _ (by simp [List.getD_eq_getElem?_getD, hj])⟩
theorem K_of {k : IntKind} {M : Int} {w : World} {a : Option Addr} {len cap : Nat} {zs : List Int} (hk : ∀ n, (Lit.int k n).wf = true → 0 ≤ n ∧ n ≤ M) (h : IsRow k w a len cap zs) : ∃ l : List Int, l.length = len ∧ len ≤ maxLen ∧ IsK k M w a l := by
  rcases h with ⟨rfl, rfl, rfl, rfl⟩ | ⟨x, rfl, hlc, hcm, hz, hc, hw⟩
  · exact ⟨[], rfl, Nat.zero_le _, by simp, .inl rfl⟩
  · have e : (zs.take len).length = len := by rw [List.length_take]; omega
    refine ⟨zs.take len, e, by omega, fun z hz => hk z (hw z (List.mem_of_mem_take hz)), .inr ⟨x, rfl, fun i hi => ?_⟩⟩
    rw [e] at hi
    rw [hc i (by omega)]
    simp [List.getD, hi]
theorem okB_cast (m : List Nat) (h : ∀ k ∈ m, k < 256) : okB (m.map (fun n : Nat => (n : Int))) = true := by
  unfold okB
  rw [List.all_eq_true]
  intro x hx
  obtain ⟨k, hk, rfl⟩ := List.mem_map.1 hx
  have := h k hk
  simp; omega
theorem toN_cast (m : List Nat) : toN (m.map (fun n : Nat => (n : Int))) = m := by
  unfold toN
  rw [List.map_map]
  conv => rhs; rw [← List.map_id m]
  refine List.map_congr_left fun z _ => ?_
  simp
theorem cast_toN (l : List Int) (h : ∀ z ∈ l, 0 ≤ z) : (toN l).map (fun n : Nat => (n : Int)) = l := by
  unfold toN
  rw [List.map_map]
  conv => rhs; rw [← List.map_id l]
  refine List.map_congr_left fun z hz => ?_
  have := h z hz
  simp; omega
def MB (l : List Int) (s : ByteArray) : Prop := ∀ w v, IsL w v l → Calls Try.prog 49 #[v] w fun e w' => e = .returned (.tuple #[.string s, .int .i64 0]) ∧ Below w.heap.size w w'
def MM (s : ByteArray) (l : List Int) : Prop := ∀ w, Calls Try.prog 52 #[.string s] w fun e w' => ∃ v', e = .returned v' ∧ IsL w' v' l ∧ Below w.heap.size w w'
theorem mb_of (l : List Int) (hl : l.length ≤ 3000) (s : ByteArray) (h : okB l = true) (hs : (backL all (toN l)) = s.data.toList) : MB l s := by
  intro w v hv
  obtain ⟨a, c, rfl, hi⟩ := hv
  have e1 : backS l = s := by
    unfold backS
    rw [if_pos h, hs]
    try exact ByteArray.ext (by simp)
  have e2 : backE l = 0 := by unfold backE; rw [if_pos h]
  have := mBack a c l w hi hl
  rw [e1, e2] at this
  exact this
set_option maxHeartbeats 3200000 in
theorem in_walk (s : ByteArray) (a1 : Option Addr) (c1 : Nat) (l : List Int) (w : World) (h1 : IsK .u8 255 w a1 l) (hs : s.size ≤ 500) (hl : l.length ≤ 500)
    (V : List Int) (T : ByteArray) (hz : ∀ j, (h : j < s.size) → 1 ≤ j → (V.getD j 0 = 0 ↔ s[j].toNat = (s[j - 1]'(by omega)).toNat)) (hVl : V.length = s.size) (C1 : MM s V) (C2 : MB V s) (C3 : MB l T) (C4 : MM T l) :
    Calls Try.prog 12 #[.string s, .slice a1 l.length c1] w fun e w' => e = .returned (.bool true) ∧ Below w.heap.size w w' := by
  obtain ⟨i0, hi, hz0, hz1, hz2⟩ := info_get info_int
  have H1 := Lib.hid h1; have C1 := Lib.hid C1; have C2 := Lib.hid C2; have C3 := Lib.hid C3; have C4 := Lib.hid C4
  have HVL := Lib.hid hVl
  have HZZ := Lib.hid hz
  clear h1 hVl hz
  go_enter Try.func12, Try.ntmps12
  go_wp2_with fail
  refine (C1.out _).mono ?_; rintro e w1 ⟨v1, rfl, hm, hb⟩
  have HM := Lib.hid hm
  have hm2 := hm
  obtain ⟨p, c, hv, hmi⟩ := hm2
  rw [HVL.out] at hv
  subst hv
  have HMI := Lib.hid hmi
  clear hm hmi
  go_wp2_with fail
  refine (C2.out _ _ HM.out).mono ?_; rintro e w2 ⟨rfl, hb2⟩
  have HMI := Lib.hid (HMI.out.kept hb2)
  have hb := hb.trans (hb2.mono hb.size)
  clear hb2
  go_wp2
  go_loopw [8, 9] (fun u i wr => ∃ k : Nat, k ≤ l.length ∧ i = .int .i64 k ∧ wr.ownsRow w2.heap.size 3 1 u k (intCells (l.take k)) ∧ Below w2.heap.size w2 wr) (fun _ i _ => l.length - (intOf i).toNat)
  case atStart => exact ⟨0, Nat.zero_le _, rfl, World.ownsRow_nil _ _ _ _, Below.refl _ _⟩
  case round =>
    obtain ⟨k, hk, rfl, hown, hbB⟩ := hrel
    have hbs := hbB.size
    by_cases hlt : k < l.length
    · obtain ⟨x, rfl, hxb, cx, b0, b1⟩ := H1.out.at k hlt
      have cx : wr.cell? (x.add k) = some (.int .u8 (l.getD k 0)) := by rw [hbB.cell (by rw [add_block]; have := hb.size; omega), hb.cell (by rw [add_block]; exact hxb)]; exact cx
      have HS := Lib.hid (take_getD l k hlt)
      obtain ⟨X, hX⟩ : ∃ X, l.getD k 0 = X := ⟨_, rfl⟩
      rw [hX] at cx b0 b1 HS
      clear hX
      go_wp2_with (at_builtin; refine wpList_append_own _ rfl _ _ 22 rfl w2.heap.size 3 i0 (.int .i64 0) 1 8 Try.underlying22 hi hz0 hz1 hz2 rfl (by decide) _ _ _ rfl (hown.alloc _) ⟨wr.heap.size, 0, none⟩ 1 1 [Value.int .i64 X] rfl rfl ?d1 ?d2 ?d3 ?d4 ?d5 ?_)
      case d1 => exact int_new1 _ _ _ _ rfl
      case d2 => exact int_one _
      case d3 => unfold maxLen; omega
      case d4 => omega
      case d5 => simp; omega
      intro v4 w4 hown4 hgrow4 _
      have hb5 : Below w2.heap.size w2 w4 := (hbB.alloc (by omega) _).grown hgrow4 (by simp; omega) (fun k hk => (hown.lt k hk).1)
      clear hgrow4 hown hbB
      rw [intCells_snoc, ← HS.out] at hown4
      have HO := Lib.hid hown4
      clear hown4
      go_wp2
      go_roundw
      case rel => exact ⟨k + 1, by omega, by go_num, HO.out, hb5⟩
      case measure => simp [intOf]; omega
    · have hkl : l.take k = l := List.take_of_length_le (by omega)
      rw [hkl] at hown
      have HK := Lib.hid (own_isL hown (by omega))
      have HMI := Lib.hid (HMI.out.kept hbB)
      have hb := hb.trans (hbB.mono hb.size)
      clear hkl hown hbB
      go_wp2_with fail
      refine (C3.out _ _ HK.out).mono ?_; rintro e w3 ⟨rfl, hb2⟩
      have HMI := Lib.hid (HMI.out.kept hb2)
      have HK := Lib.hid (HK.out.kept hb2)
      have hb := hb.trans (hb2.mono hb.size)
      clear hb2
      go_wp2
      obtain ⟨wo, rfl⟩ : ∃ wo : World, wo = w3 := ⟨_, rfl⟩
      go_loopw [12] (fun i wr => ∃ j : Nat, 1 ≤ j ∧ (j ≤ s.size ∨ j = 1) ∧ i = .int .i64 j ∧ ∃ q, wr = wo.drewN q) (fun i _ => s.size - (intOf i).toNat)
      case atStart => exact ⟨1, Nat.le_refl _, .inr rfl, rfl, 0, rfl⟩
      case round =>
        obtain ⟨j, hj1, hj2, rfl, q, rfl⟩ := hrel
        by_cases hjs : j < s.size
        · obtain ⟨y, rfl, -, hy⟩ := HMI.out.at j (by rw [HVL.out]; exact hjs)
          have cy := hy j (by rw [HVL.out]; exact hjs)
          have hzj := HZZ.out j hjs hj1
          obtain ⟨Z, hZ⟩ : ∃ Z, V.getD j 0 = Z := ⟨_, rfl⟩
          rw [hZ] at cy hzj
          clear hy hZ
          have hi2 : ((j : Int) - 1).toNat = j - 1 := by omega
          have hw2 : IntKind.i64.wrap ((j : Int) - 1) = (j : Int) - 1 := IntWalk.i64_in _ (by omega)
          have g0 : (0 : Int) ≤ (j : Int) - 1 := by omega
          have g1 : (j : Int) - 1 < (s.size : Int) := by omega
          have g2 : j - 1 < s.size := by omega
          have g3 : (1 : Int) ≤ (j : Int) := by omega
          by_cases hZ0 : Z = 0
          · have hq := hzj.1 hZ0
            have e1 : ((s[j].toNat : Int) == (s[j - 1].toNat : Int)) = true := by rw [hq]; simp
            have e2 : (Z == 0) = true := by rw [hZ0]; rfl
            clear hzj hq hZ0
            go_wp2
            go_region
            all_goals
              go_wp2
              go_roundw
              (case rel => exact ⟨j + 1, by omega, .inl (by omega), by go_num, _, rfl⟩)
              (case measure => simp [intOf]; omega)
          · have hq : ¬ s[j].toNat = s[j - 1].toNat := fun h => hZ0 (hzj.2 h)
            have e1 : ((s[j].toNat : Int) == (s[j - 1].toNat : Int)) = false := by rw [beq_eq_false_iff_ne]; omega
            have e2 : (Z == 0) = false := by rw [beq_eq_false_iff_ne]; exact hZ0
            clear hzj hq hZ0
            go_wp2
            go_region
            all_goals
              go_wp2
              go_roundw
              (case rel => exact ⟨j + 1, by omega, .inl (by omega), by go_num, _, rfl⟩)
              (case measure => simp [intOf]; omega)
        · have HK := Lib.hid (HK.out.drewN q)
          have hb := below_drewN hb q
          go_wp2_with fail
          refine (C4.out _).mono ?_; rintro e w5 ⟨v5, rfl, h5, hb2⟩
          have HK := Lib.hid (HK.out.kept hb2)
          have hb := hb.trans (hb2.mono hb.size)
          have H5 := Lib.hid h5
          clear hb2 h5
          go_wp2_with fail
          refine (intsL H5.out HK.out true (by simp)).mono ?_; rintro e w6 ⟨rfl, q2, rfl⟩
          go_wp2_with fail
          refine (awake47 _).mono ?_; rintro e w7 ⟨rfl, hb2⟩
          go_wp2_with fail
          go_ret
          exact ⟨rfl, (below_drewN hb _).trans (hb2.mono (by simpa using hb.size))⟩

set_option maxHeartbeats 3200000 in
theorem walk (a0 : ByteArray) (a1 : Option Addr) (len1 cap1 : Nat) (z1 : List Int) (w : World) (w0 : a0.size ≤ maxLen) (w1 : IsRow .u8 w a1 len1 cap1 z1) :
    Calls Try.prog 12 #[.string a0, .slice a1 len1 cap1] w fun e w' => e = .returned (.bool true) ∧ Below w.heap.size w w' := by
  obtain ⟨l, hl, hmax, h1⟩ := K_of (M := 255) (fun n h => bounds_u8 h) w1
  clear w1
  subst hl
  unfold maxLen at hmax
  by_cases hlong : 500 < a0.size ∨ 500 < l.length
  · clear h1
    unfold maxLen at w0
    by_cases h2 : 500 < a0.size
    · go_enter Try.func12, Try.ntmps12
      go_wp2_with fail
      refine (awake47 _).mono ?_; rintro e w1 ⟨rfl, hb⟩
      go_wp2_with fail
      go_ret
      exact ⟨rfl, hb⟩
    · have h3 : 500 < l.length := by omega
      go_enter Try.func12, Try.ntmps12
      go_wp2_with fail
      refine (awake47 _).mono ?_; rintro e w1 ⟨rfl, hb⟩
      go_wp2_with fail
      go_ret
      exact ⟨rfl, hb⟩
  · have hokl : okB l = true := by
      unfold okB
      rw [List.all_eq_true]
      intro x hx
      have := h1.1 x hx
      simp; omega
    have hT : (⟨(backL all (toN l)).toArray⟩ : ByteArray).data.toList = backL all (toN l) := by simp
    have hTs : (⟨(backL all (toN l)).toArray⟩ : ByteArray).size = l.length := by
      show (backL all (toN l)).toArray.size = _
      simp [backL_length, toN]
    have hll : a0.data.toList.length = a0.size := by simp
    refine in_walk a0 a1 cap1 l w h1 (by omega) (by omega) _ ⟨(backL all (toN l)).toArray⟩ (fun j hj h1j => ?_) (by simp [moveL_length]) (fun w => mMove a0 (by omega) w)
      (mb_of _ (by simp [moveL_length]; omega) a0 (okB_cast _ (moveL_lt all _ fine_all)) (by rw [toN_cast, back_move all _ fine_all])) (mb_of l (by omega) _ hokl hT.symm) (fun w => ?_)
    rotate_left
    · have := mMove ⟨(backL all (toN l)).toArray⟩ (by rw [hTs]; omega) w
      rw [hT, move_back all _ fine_all (toN_lt l hokl), cast_toN l (fun z hz => (h1.1 z hz).1)] at this
      exact this
    · have h := move_zero all a0.data.toList fine_all j h1j (by omega)
      rw [s_get a0 j hj, s_get a0 (j - 1) (by omega)] at h
      have e : ((moveL all a0.data.toList).map (fun n : Nat => (n : Int))).getD j 0 = (((moveL all a0.data.toList).getD j 0 : Nat) : Int) := by
        simp [List.getD_eq_getElem?_getD, moveL_length, hj]
      rw [e]
      constructor
      · intro h0
        exact congrArg UInt8.toNat (h.1 (by omega))
      · intro h0
        have := h.2 (UInt8.toNat_inj.1 h0)
        omega

theorem lifted (os : Os) (started : os.Started) (H : Type) (enc : TypeId × Value → H) :
    ReturnsInHanded {} Try.checked os 12 .any (Rows.mtfBackSpec.pre6 enc Try.prog Try.f12 Rows.mtfBackRow.domain false) (Rows.mtfBackSpec.post enc Try.prog Try.f12 false true false false) := by
  refine returnsInHanded_of_change (C := Try.checked) own started (by kernel_rfl) Try.func12
    (ChangeSpec.witness6 (enc := enc) (C := Try.checked) false ⟨#[], #[.string ByteArray.empty, .slice none 0 0], []⟩ 8 (by kernel_rfl) (by kernel_rfl) (by kernel_rfl) (by kernel_rfl)) ?_
  intro W base args ds gs before hval0 hW hcnd _
  have hval : ∀ (j : Nat) t v, Try.f12.params[j]? = some t → args[j]? = some v → Value.okWide Try.prog W .any base t v := hval0
  have hW' := hW
  obtain ⟨p, q, hA0, hV, rfl, hfz, hnd⟩ := hW
  have hA : DataW.TrodAll enc Try.prog W 0 (fun _ => true) true Try.f12.params.toList args.toList ds p := hA0
  rw [Try.params12] at hA hval
  obtain ⟨v0, vs0, d0, ds0, p0, q0, hargs, rfl, rfl, h0, r0⟩ := trodAll_cons hA
  obtain ⟨v1, vs1, d1, ds1, p1, q1, rfl, rfl, rfl, h1, r1⟩ := trodAll_cons r0
  obtain ⟨rfl, rfl, rfl⟩ := trodAll_nil r1
  obtain rfl : args = #[v0, v1] := by cases args; simp_all
  obtain ⟨rfl, rfl⟩ := trodVars_none hV
  have k0 := h0
  have lt0 : ∀ x ∈ p0, x.block < W.heap.size := by obtain ⟨m, hm⟩ := k0; exact DataW.trod_lt m _ _ _ hm
  obtain ⟨a0, rfl, rfl, rfl, w0⟩ := open_string Try.underlying9 (hval 0 9 v0 rfl rfl) h0
  obtain ⟨a1, len1, cap1, rfl⟩ := okWide_slice Try.underlying82 (hval 1 82 v1 rfl rfl)
  have k1 := h1
  have lt1 : ∀ x ∈ p1, x.block < W.heap.size := by obtain ⟨m, hm⟩ := k1; exact DataW.trod_lt m _ _ _ hm
  obtain ⟨z1, w1⟩ : ∃ zs, IsRow .u8 W a1 len1 cap1 zs := by
    obtain ⟨fuel, hf⟩ := h1
    rcases open_ints Try.underlying82 Try.underlying5 (by kernel_rfl) hf with ⟨hcs, _⟩ | ⟨x, l, c, zs, hcs, _, hl, hm, hz, _, hcell, hwz⟩
    · simp [Value.cells] at hcs
      obtain ⟨rfl, rfl, rfl⟩ := hcs
      exact ⟨[], .inl ⟨rfl, rfl, rfl, rfl⟩⟩
    · simp [Value.cells] at hcs
      obtain ⟨rfl, rfl, rfl⟩ := hcs
      exact ⟨zs, .inr ⟨_, rfl, hl, hm, by simpa using hz, hcell, hwz⟩⟩
  clear hA0 hval0
  refine (walk a0 a1 len1 cap1 z1 W w0 w1).mono fun e W' ⟨he, bel⟩ => ?_
  subst he
  exact ⟨_, rfl, _, _, _, [], _, [], hW', trodAll_mk1 (shut_bool Try.underlying4 _), (trodAll_cons_mk (Below.trod laidOut (by kernel_rfl) (of_decide_eq_true (by kernel_rfl)) k0 bel lt0) (trodAll_cons_mk (Below.trod laidOut (by kernel_rfl) (of_decide_eq_true (by kernel_rfl)) k1 bel lt1) trodAll_mk0)), rfl, bel.frame _, fun h => by cases h⟩

theorem over : Rows.mtfBackRow.holds Try.pinned (OpenSpec.ofChange Rows.mtfBackSpec) :=
  OpenClaim.holds_of_wide 12 Try.f12 rfl rfl rfl rfl rfl rfl rfl ⟨rfl, rfl, rfl, rfl, rfl⟩ rfl rfl rfl rfl rfl (by kernel_rfl) Try.func12 (by kernel_rfl)
    (of_decide_eq_true (by kernel_rfl)) (by unfold Func.isWrapper; first | (rw [if_pos (by decide +kernel)]; kernel_rfl) | (rw [if_neg (by decide +kernel)]; exact ⟨rfl, rfl⟩))
    (fun os started H enc _ => lifted os started H enc)

theorem proved : Rows.MtfBackSaid := over
#print axioms proved
end Go.Proofs.Ytmpmioffngonjaa.mtfBack
