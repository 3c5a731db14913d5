/- It is proved that the law 'PriceChecks' of the program returns true for every input, with no condition, and leaves what was handed in as it was. The frame was written by a program; the walk is by hand. -/
import Derived.Test.YtekageibffhloaaRows
import Derived.WalkKit
import Derived.ProofKit
import Derived.OpenShut
import Derived.ShutString
import Derived.ChangeOld
import Derived.Below
import Derived.Test.YtekageibffhloaaBase
import Derived.Test.YtekageibffhloaaP6
import Derived.Deep.RegionHeld3
namespace Go.Proofs.Ytekageibffhloaa.priceChecks
open Go.ChangeShapes Go.WideShapes Go.ChangeAt Go.RowKit Go.Deep
open Go.ChangeMaps (open_string shut_string)
set_option linter.unusedVariables false
set_option maxRecDepth 100000

theorem own : ownKnob Try.prog.godebug = none := by kernel_rfl
theorem laidOut : laidOutB Try.prog = true := by kernel_rfl

/-- What the walk is told of a slice of integers that came in: nil, or a row of 'cap' cells that hold the numbers zs, each fitting its kind. -/
def IsRow (k : IntKind) (w : World) (a : Option Addr) (len cap : Nat) (zs : List Int) : Prop :=
  (a = none ∧ len = 0 ∧ cap = 0 ∧ zs = []) ∨
  ∃ x, a = some x ∧ len ≤ cap ∧ cap ≤ maxLen ∧ zs.length = cap ∧ (∀ i, i < zs.length → w.cell? (x.add i) = some (.int k (zs.getD i 0))) ∧ ∀ n ∈ zs, (Lit.int k n).wf = true

theorem ints_of {w : World} {a : Option Addr} {len cap : Nat} {zs : List Int} (h : IsRow .i64 w a len cap zs) : ∃ l : List Int, l.length = len ∧ len ≤ maxLen ∧ (l.length ≤ 70368744177664 → IsInts w a l) := by
  rcases h with ⟨rfl, rfl, rfl, rfl⟩ | ⟨x, rfl, hlc, hcm, hz, hc, -⟩
  · exact ⟨[], rfl, Nat.zero_le _, fun _ => ⟨by simp, .inl rfl⟩⟩
  · have e : (zs.take len).length = len := by rw [List.length_take]; omega
    refine ⟨zs.take len, e, by omega, fun h11 => ⟨by omega, .inr ⟨x, rfl, fun i hi => ?_⟩⟩⟩
    rw [e] at hi
    rw [hc i (by omega)]
    simp [List.getD, hi]
theorem rep_getD (n k : Nat) (x d : Int) (h : k < n) : (List.replicate n x).getD k d = x := by simp [List.getD, h]
def PX (wo : World) (g0 g1 : Nat) (x y fa fb : Option Addr) (l m la lb : List Int) (W : World) : Prop :=
  IsInts W x l ∧ IsInts W y m ∧ IsInts W fa la ∧ IsInts W fb lb ∧ g0 < W.heap.size ∧ g1 < W.heap.size ∧ Below wo.heap.size wo W
abbrev PS (wo : World) (g0 g1 : Nat) (x y fa fb : Option Addr) (c d fc fd : Nat) (l m la lb : List Int) (W : World) : Prop :=
  W.cell? ⟨g0, 0, none⟩ = some (.slice x l.length c) ∧ W.cell? ⟨g0, 1, none⟩ = some (.slice y m.length d) ∧ W.cell? ⟨g1, 0, none⟩ = some (.slice fa 401 fc) ∧ W.cell? ⟨g1, 1, none⟩ = some (.slice fb 52 fd) ∧ PX wo g0 g1 x y fa fb l m la lb W
theorem keepP {wo : World} {g0 g1 : Nat} {x y fa fb : Option Addr} {c d fc fd : Nat} {l m la lb : List Int} {w1 w2 : World}
    (h : PS wo g0 g1 x y fa fb c d fc fd l m la lb w1) (hb : Below w1.heap.size w1 w2) : PS wo g0 g1 x y fa fb c d fc fd l m la lb w2 := by
  obtain ⟨p0, p1, c0, c1, h0, h1, h2, h3, l0, l1, hB⟩ := h
  exact ⟨(hb.cell (p := ⟨g0, 0, none⟩) l0).trans p0, (hb.cell (p := ⟨g0, 1, none⟩) l0).trans p1, (hb.cell (p := ⟨g1, 0, none⟩) l1).trans c0, (hb.cell (p := ⟨g1, 1, none⟩) l1).trans c1,
    h0.kept hb, h1.kept hb, h2.kept hb, h3.kept hb, Nat.lt_of_lt_of_le l0 hb.size, Nat.lt_of_lt_of_le l1 hb.size, hB.trans (hb.mono hB.size)⟩
set_option maxHeartbeats 1600000 in
theorem pc_walk (a b : Int) (x y : Option Addr) (c d : Nat) (l m : List Int) (w : World) (h0 : IsInts w x l) (h1 : IsInts w y m) (hl : l.length ≤ 500) (hm : m.length ≤ 500) :
    Calls Try.prog 8 #[.agg #[.slice x l.length c, .slice y m.length d], .int .i64 a, .int .i64 b] w fun e w' => e = .returned (.bool true) ∧ Below w.heap.size w w' := by
  have C1 := Lib.hid (fun W (k1 : IsInts W x l) (k2 : IsInts W y m) => pCheck (.slice x l.length c) (.slice y m.length d) l m W ⟨_, _, rfl, k1⟩ ⟨_, _, rfl, k2⟩ _ rfl)
  have C2 := Lib.hid (fun W (k1 : IsInts W x l) (k2 : IsInts W y m) => dCheckP (.slice x l.length c) (.slice y m.length d) l m W ⟨_, _, rfl, k1⟩ ⟨_, _, rfl, k2⟩ _ rfl)
  obtain ⟨E, hE⟩ : ∃ E, checkP l m = E := ⟨_, rfl⟩
  rw [hE] at C1 C2
  have h0_ := Lib.hid h0
  have h1_ := Lib.hid h1
  clear h0 h1
  clear hE
  have hli : (l.length : Int) ≤ 500 := by omega
  have hmi : (m.length : Int) ≤ 500 := by omega
  go_enter Try.func8, Try.ntmps8
  go_wp2_with fail
  refine (flatA a b _).mono ?_; rintro e w1 ⟨fa, fc, fb, fd, rfl, hA, hB, hb1⟩
  obtain ⟨p0, p1⟩ : w1.cell? ⟨w.heap.size, 0, none⟩ = some (.slice x l.length c) ∧ w1.cell? ⟨w.heap.size, 1, none⟩ = some (.slice y m.length d) := ⟨(hb1.cell (by simp)).trans (cell_lit (heap_alloc_new w _) 0 _ rfl), (hb1.cell (by simp)).trans (cell_lit (heap_alloc_new w _) 1 _ rfl)⟩
  have hb := below_box hb1
  have hlt0 : w.heap.size < w1.heap.size := by have := hb1.size; simp at this; omega
  clear hb1
  have c0 : (w1.alloc (.cells #[.slice fa 401 fc, .slice fb 52 fd] 47)).cell? ⟨w1.heap.size, 0, none⟩ = some (.slice fa 401 fc) := cell_lit (heap_alloc_new w1 _) 0 _ rfl
  have c1 : (w1.alloc (.cells #[.slice fa 401 fc, .slice fb 52 fd] 47)).cell? ⟨w1.heap.size, 1, none⟩ = some (.slice fb 52 fd) := cell_lit (heap_alloc_new w1 _) 1 _ rfl
  have hA := hA.alloc (.cells #[.slice fa 401 fc, .slice fb 52 fd] 47)
  have hB := hB.alloc (.cells #[.slice fa 401 fc, .slice fb 52 fd] 47)
  have p0 : (w1.alloc (.cells #[.slice fa 401 fc, .slice fb 52 fd] 47)).cell? ⟨w.heap.size, 0, none⟩ = _ := ((bx w1 _).cell hlt0).trans p0
  have p1 : (w1.alloc (.cells #[.slice fa 401 fc, .slice fb 52 fd] 47)).cell? ⟨w.heap.size, 1, none⟩ = _ := ((bx w1 _).cell hlt0).trans p1
  have hb := hb.alloc hb.size (.cells #[.slice fa 401 fc, .slice fb 52 fd] 47)
  have hlt : w1.heap.size < (w1.alloc (.cells #[.slice fa 401 fc, .slice fb 52 fd] 47)).heap.size := by simp
  have hlt0 : w.heap.size < (w1.alloc (.cells #[.slice fa 401 fc, .slice fb 52 fd] 47)).heap.size := by simp; omega
  obtain ⟨W, hW⟩ : ∃ W, w1.alloc (.cells #[.slice fa 401 fc, .slice fb 52 fd] 47) = W := ⟨_, rfl⟩
  rw [hW] at p0 p1 c0 c1 hA hB hb hlt hlt0
  obtain ⟨la, hla⟩ : ∃ la, List.replicate 401 (clampP a) = la := ⟨_, rfl⟩
  obtain ⟨lb, hlb⟩ : ∃ lb, List.replicate 52 (clampP b) = lb := ⟨_, rfl⟩
  rw [hla] at hA
  rw [hlb] at hB
  have hP : PS w w.heap.size w1.heap.size x y fa fb c d fc fd l m la lb W := ⟨p0, p1, c0, c1, h0_.out.kept hb, h1_.out.kept hb, hA, hB, hlt0, hlt, hb⟩
  have K1 := Lib.hid (fun V (h : PS w w.heap.size w1.heap.size x y fa fb c d fc fd l m la lb V) => C1.out V h.2.2.2.2.1 h.2.2.2.2.2.1)
  have K2 := Lib.hid (fun V (h : PS w w.heap.size w1.heap.size x y fa fb c d fc fd l m la lb V) => C2.out V h.2.2.2.2.1 h.2.2.2.2.2.1)
  have K3 := Lib.hid (fun V (h : PS w w.heap.size w1.heap.size x y fa fb c d fc fd l m la lb V) => ckFlat fc fd a b (by rw [hla]; exact h.2.2.2.2.2.2.1) (by rw [hlb]; exact h.2.2.2.2.2.2.2.1))
  have HLA := Lib.hid hla
  have HLB := Lib.hid hlb
  clear h0_ h1_ C1 C2 hA hB hla hlb
  go_wp2_with fail
  go_region_held3 (fun W' => W'.cell? ⟨w.heap.size, 0, none⟩ = some (.slice x l.length c) ∧ W'.cell? ⟨w.heap.size, 1, none⟩ = some (.slice y m.length d) ∧ W'.cell? ⟨w1.heap.size, 0, none⟩ = some (.slice fa 401 fc) ∧ W'.cell? ⟨w1.heap.size, 1, none⟩ = some (.slice fb 52 fd) ∧ PX w w.heap.size w1.heap.size x y fa fb l m la lb W') (first | exact keepP (by assumption) (by assumption) | exact keepP hP (Below.refl _ _).drew) (first | (go_at_call 33; with_reducible refine (K1.out _ (by assumption)).mono ?_; rintro e wx ⟨rfl, hbx⟩) | (go_at_call 34; with_reducible refine (K2.out _ (by assumption)).mono ?_; rintro e wx ⟨rfl, hbx⟩) | (go_at_call 33; with_reducible refine (K3.out _ (by assumption)).mono ?_; rintro e wx ⟨rfl, hbx⟩))
  simp only [Exit.then]
  rename_i Ka hKa K hK wxa hba wxb hbb hH
  refine hK _ _ ?_
  obtain ⟨-, -, c0, c1, -, -, hA, hB, -, hlt, hb⟩ := hH
  have hA_ := Lib.hid hA
  have hB_ := Lib.hid hB
  clear hA hB
  clear hba hbb hbx hP p0 p1 K1 K2 K3 hlt0 hW hli hmi hl hm
  clear hK
  have HM := Lib.hid (show ∀ k : Nat, k < 401 → la.getD k 0 = clampP a by intro k hk; rw [← HLA.out]; exact rep_getD _ _ _ _ hk)
  have HN := Lib.hid (show ∀ k : Nat, k < 52 → lb.getD k 0 = clampP b by intro k hk; rw [← HLB.out]; exact rep_getD _ _ _ _ hk)
  have hla : la.length = 401 := by rw [← HLA.out, List.length_replicate]
  have hlb : lb.length = 52 := by rw [← HLB.out, List.length_replicate]
  obtain ⟨xa, rfl, hxa, ca⟩ := hA_.out.at 0 (by omega)
  obtain ⟨xb, rfl, hxb, cb⟩ := hB_.out.at 0 (by omega)
  have CA := Lib.hid (show ∀ k : Nat, k < 401 → wx.cell? (xa.add k) = some (.int .i64 (clampP a)) by intro k hk; rw [ca k (by omega), HM.out k hk])
  have CB := Lib.hid (show ∀ k : Nat, k < 52 → wx.cell? (xb.add k) = some (.int .i64 (clampP b)) by intro k hk; rw [cb k (by omega), HN.out k hk])
  clear hA_ hB_ HM HN hla hlb ca cb HLA HLB
  go_wp2_with fail
  rw [show max 1 (min a 1048576) = clampP a by unfold clampP; omega, show max 1 (min b 1048576) = clampP b by unfold clampP; omega]
  have hAB := And.intro (clampP_in a) (clampP_in b)
  obtain ⟨A, hA⟩ : ∃ A, clampP a = A := ⟨_, rfl⟩
  obtain ⟨B, hB⟩ : ∃ B, clampP b = B := ⟨_, rfl⟩
  rw [hA, hB] at hAB ⊢
  rw [hA] at CA
  rw [hB] at CB
  clear hA hB
  go_loopw [10] (fun i wr => ∃ k : Nat, k ≤ 401 ∧ i = .int .i64 k ∧ ∃ q, wr = wx.drewN q) (fun i _ => 401 - (intOf i).toNat)
  case atStart => exact ⟨0, Nat.zero_le _, rfl, 0, rfl⟩
  case round =>
    obtain ⟨k, hk, rfl, q, rfl⟩ := hrel
    by_cases hlt : k < 401
    · have ca := CA.out k hlt
      have cb := CB.out (k % 52) (Nat.mod_lt _ (by decide))
      go_wp2
      go_roundw
      case rel => exact ⟨k + 1, by omega, by go_num, _, rfl⟩
      case measure => simp [intOf]; omega
    · obtain rfl : k = 401 := by omega
      go_wp2_with fail
      refine (awake23 _).mono ?_; rintro e w4 ⟨rfl, hb4⟩
      go_wp2_with fail
      go_ret
      exact ⟨rfl, (below_dn hb _).trans (hb4.mono (below_dn hb _).size)⟩

set_option maxHeartbeats 3200000 in
theorem walk (s0_0 : Option Addr) (len0_0 cap0_0 : Nat) (z0_0 : List Int) (s0_1 : Option Addr) (len0_1 cap0_1 : Nat) (z0_1 : List Int) (a1 : Int) (a2 : Int) (w : World) (w0_0 : IsRow .i64 w s0_0 len0_0 cap0_0 z0_0) (w0_1 : IsRow .i64 w s0_1 len0_1 cap0_1 z0_1) (w1 : (Lit.int .i64 a1).wf = true) (w2 : (Lit.int .i64 a2).wf = true) :
    Calls Try.prog 8 #[.agg #[.slice s0_0 len0_0 cap0_0, .slice s0_1 len0_1 cap0_1], .int .i64 a1, .int .i64 a2] w fun e w' => e = .returned (.bool true) ∧ Below w.heap.size w w' := by
  obtain ⟨l, hl, hmax0, h0⟩ := ints_of w0_0
  obtain ⟨m, hm, hmax1, h1⟩ := ints_of w0_1
  clear w0_0 w0_1
  subst hl hm
  unfold maxLen at hmax0 hmax1
  by_cases hlong : 500 < l.length
  · have hli : (500 : Int) < (l.length : Int) := by omega
    clear h0 h1
    go_enter Try.func8, Try.ntmps8
    go_wp2_with fail
    refine (awake23 _).mono ?_; rintro e w1 ⟨rfl, hb⟩
    have hb := below_box hb
    go_wp2_with fail
    go_ret
    exact ⟨rfl, hb⟩
  · by_cases hlong2 : 500 < m.length
    · have hli : (l.length : Int) ≤ 500 := by omega
      have hmi : (500 : Int) < (m.length : Int) := by omega
      clear h0 h1
      go_enter Try.func8, Try.ntmps8
      go_wp2_with fail
      refine (awake23 _).mono ?_; rintro e w1 ⟨rfl, hb⟩
      have hb := below_box hb
      go_wp2_with fail
      go_ret
      exact ⟨rfl, hb⟩
    · exact pc_walk a1 a2 _ _ _ _ l m w (h0 (by omega)) (h1 (by omega)) (by omega) (by omega)

theorem lifted (os : Os) (started : os.Started) (H : Type) (enc : TypeId × Value → H) :
    ReturnsInHanded {} Try.checked os 8 .any (Rows.priceChecksSpec.pre6 enc Try.prog Try.f8 Rows.priceChecksRow.domain false) (Rows.priceChecksSpec.post enc Try.prog Try.f8 false true false false) := by
  refine returnsInHanded_of_change (C := Try.checked) own started (by kernel_rfl) Try.func8
    (ChangeSpec.witness6 (enc := enc) (C := Try.checked) false ⟨#[], #[.agg #[.slice none 0 0, .slice none 0 0], .int .i64 0, .int .i64 0], []⟩ 8 (by kernel_rfl) (by kernel_rfl) (by kernel_rfl) (by kernel_rfl)) ?_
  intro W base args ds gs before hval0 hW hcnd _
  have hval : ∀ (j : Nat) t v, Try.f8.params[j]? = some t → args[j]? = some v → Value.okWide Try.prog W .any base t v := hval0
  have hW' := hW
  obtain ⟨p, q, hA0, hV, rfl, hfz, hnd⟩ := hW
  have hA : DataW.TrodAll enc Try.prog W 0 (fun _ => true) true Try.f8.params.toList args.toList ds p := hA0
  rw [Try.params8] at hA hval
  obtain ⟨v0, vs0, d0, ds0, p0, q0, hargs, rfl, rfl, h0, r0⟩ := trodAll_cons hA
  obtain ⟨v1, vs1, d1, ds1, p1, q1, rfl, rfl, rfl, h1, r1⟩ := trodAll_cons r0
  obtain ⟨v2, vs2, d2, ds2, p2, q2, rfl, rfl, rfl, h2, r2⟩ := trodAll_cons r1
  obtain ⟨rfl, rfl, rfl⟩ := trodAll_nil r2
  obtain rfl : args = #[v0, v1, v2] := by cases args; simp_all
  obtain ⟨rfl, rfl⟩ := trodVars_none hV
  have k0 := h0
  have lt0 : ∀ x ∈ p0, x.block < W.heap.size := by obtain ⟨m, hm⟩ := k0; exact DataW.trod_lt m _ _ _ hm
  obtain ⟨l, rfl, hl, hcs⟩ := agg_struct Try.underlying47 (by kernel_rfl) (by kernel_rfl) (hval 0 47 v0 rfl rfl) h0
  obtain ⟨x0, x1, rfl⟩ := len2 l hl
  obtain ⟨n0, c, y, hc, hy⟩ := hcs 0 _ rfl
  simp only [List.getElem?_cons_zero, Option.some.injEq] at hc
  subst hc
  obtain ⟨s0_0, len0_0, cap0_0, z0_0, hc, w0_0⟩ : ∃ (a : Option Addr) (len cap : Nat) (zs : List Int), [x0] = [.slice a len cap] ∧ IsRow .i64 W a len cap zs := by
    rcases open_ints Try.underlying22 Try.underlying3 (by kernel_rfl) hy with ⟨hcs, _⟩ | ⟨x, l, c, zs, hcs, _, hl, hm, hz, _, hcell, hwz⟩
    · exact ⟨none, 0, 0, [], hcs, .inl ⟨rfl, rfl, rfl, rfl⟩⟩
    · exact ⟨_, _, _, zs, hcs, .inr ⟨_, rfl, hl, hm, by simpa using hz, hcell, hwz⟩⟩
  simp only [List.cons.injEq, and_true] at hc
  subst hc
  clear hy
  obtain ⟨n1, c, y, hc, hy⟩ := hcs 1 _ rfl
  simp only [List.getElem?_cons_zero, List.getElem?_cons_succ, Option.some.injEq] at hc
  subst hc
  obtain ⟨s0_1, len0_1, cap0_1, z0_1, hc, w0_1⟩ : ∃ (a : Option Addr) (len cap : Nat) (zs : List Int), [x1] = [.slice a len cap] ∧ IsRow .i64 W a len cap zs := by
    rcases open_ints Try.underlying22 Try.underlying3 (by kernel_rfl) hy with ⟨hcs, _⟩ | ⟨x, l, c, zs, hcs, _, hl, hm, hz, _, hcell, hwz⟩
    · exact ⟨none, 0, 0, [], hcs, .inl ⟨rfl, rfl, rfl, rfl⟩⟩
    · exact ⟨_, _, _, zs, hcs, .inr ⟨_, rfl, hl, hm, by simpa using hz, hcell, hwz⟩⟩
  simp only [List.cons.injEq, and_true] at hc
  subst hc
  clear hy
  clear hl hcs
  have k1 := h1
  have lt1 : ∀ x ∈ p1, x.block < W.heap.size := by obtain ⟨m, hm⟩ := k1; exact DataW.trod_lt m _ _ _ hm
  obtain ⟨a1, rfl, rfl, rfl, w1⟩ := open_int Try.underlying3 (hval 1 3 v1 rfl rfl) h1
  have k2 := h2
  have lt2 : ∀ x ∈ p2, x.block < W.heap.size := by obtain ⟨m, hm⟩ := k2; exact DataW.trod_lt m _ _ _ hm
  obtain ⟨a2, rfl, rfl, rfl, w2⟩ := open_int Try.underlying3 (hval 2 3 v2 rfl rfl) h2
  clear hA0 hval0
  refine (walk s0_0 len0_0 cap0_0 z0_0 s0_1 len0_1 cap0_1 z0_1 a1 a2 W w0_0 w0_1 w1 w2).mono fun e W' ⟨he, bel⟩ => ?_
  subst he
  exact ⟨_, rfl, _, _, _, [], _, [], hW', trodAll_mk1 (shut_bool Try.underlying4 _), (trodAll_cons_mk (Below.trod laidOut (by kernel_rfl) (of_decide_eq_true (by kernel_rfl)) k0 bel lt0) (trodAll_cons_mk (Below.trod laidOut (by kernel_rfl) (of_decide_eq_true (by kernel_rfl)) k1 bel lt1) (trodAll_cons_mk (Below.trod laidOut (by kernel_rfl) (of_decide_eq_true (by kernel_rfl)) k2 bel lt2) trodAll_mk0))), rfl, bel.frame _, fun h => by cases h⟩

theorem over : Rows.priceChecksRow.holds Try.pinned (OpenSpec.ofChange Rows.priceChecksSpec) :=
  OpenClaim.holds_of_wide 8 Try.f8 rfl rfl rfl rfl rfl rfl rfl ⟨rfl, rfl, rfl, rfl, rfl⟩ rfl rfl rfl rfl rfl (by kernel_rfl) Try.func8 (by kernel_rfl)
    (of_decide_eq_true (by kernel_rfl)) (by unfold Func.isWrapper; first | (rw [if_pos (by decide +kernel)]; kernel_rfl) | (rw [if_neg (by decide +kernel)]; exact ⟨rfl, rfl⟩))
    (fun os started H enc _ => lifted os started H enc)

theorem proved : Rows.PriceChecksSaid := over
#print axioms proved
end Go.Proofs.Ytekageibffhloaa.priceChecks
