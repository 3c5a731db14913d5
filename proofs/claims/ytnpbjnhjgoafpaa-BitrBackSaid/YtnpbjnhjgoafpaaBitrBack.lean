/- It is proved that the law 'BitrBack' of the program returns true for every input, with no condition, and leaves what was handed in as it was. The frame was written by a program; the walk is by hand. -/
import Derived.Test.YtnpbjnhjgoafpaaRows
import Derived.WalkKit
import Derived.ProofKit
import Derived.OpenShut
import Derived.ShutString
import Derived.ChangeOld
import Derived.Below
import Derived.Test.YtnpbjnhjgoafpaaBase
import Derived.Test.YtnpbjnhjgoafpaaBh
namespace Go.Proofs.Ytnpbjnhjgoafpaa.bitrBack
open Go.ChangeShapes Go.WideShapes Go.ChangeAt Go.RowKit Go.Deep
open Go.ChangeMaps (open_string shut_string)
set_option linter.unusedVariables false
set_option maxRecDepth 100000

theorem own : ownKnob Try.prog.godebug = none := by kernel_rfl
theorem laidOut : laidOutB Try.prog = true := by kernel_rfl

/-- What the walk is told of a slice of integers that came in: nil, or a row of 'cap' cells that hold the numbers zs, each fitting its kind. -/
def IsRow (k : IntKind) (w : World) (a : Option Addr) (len cap : Nat) (zs : List Int) : Prop :=
  (a = none ∧ len = 0 ∧ cap = 0 ∧ zs = []) ∨
  ∃ x, a = some x ∧ len ≤ cap ∧ cap ≤ maxLen ∧ zs.length = cap ∧ (∀ i, i < zs.length → w.cell? (x.add i) = some (.int k (zs.getD i 0))) ∧ ∀ n ∈ zs, (Lit.int k n).wf = true

open Bits
def IsK (k : IntKind) (M : Int) (w : World) (a : Option Addr) (zs : List Int) : Prop := (∀ z ∈ zs, 0 ≤ z ∧ z ≤ M) ∧ (zs = [] ∨ ∃ x, a = some x ∧ ∀ i, i < zs.length → w.cell? (x.add i) = some (.int k (zs.getD i 0)))
theorem IsK.at {k : IntKind} {M : Int} {w : World} {a : Option Addr} {l : List Int} (h : IsK k M w a l) (j : Nat) (hj : j < l.length) : ∃ x : Addr, a = some x ∧ x.block < w.heap.size ∧ w.cell? (x.add j) = some (.int k (l.getD j 0)) ∧ 0 ≤ l.getD j 0 ∧ l.getD j 0 ≤ M := by
  rcases h.2 with rfl | ⟨x, rfl, hc⟩
  · simp at hj
  · have := cell_blk (hc j hj)
    rw [add_blk] at this
    exact ⟨x, rfl, this, hc j hj, h.1 _ (by simp [List.getD_eq_getElem?_getD, hj])⟩
theorem K_of {k : IntKind} {M : Int} {w : World} {a : Option Addr} {len cap : Nat} {zs : List Int} (hk : ∀ n, (Lit.int k n).wf = true → 0 ≤ n ∧ n ≤ M) (h : IsRow k w a len cap zs) : ∃ l : List Int, l.length = len ∧ len ≤ maxLen ∧ IsK k M w a l := by
  rcases h with ⟨rfl, rfl, rfl, rfl⟩ | ⟨x, rfl, hlc, hcm, hz, hc, hw⟩
  · exact ⟨[], rfl, Nat.zero_le _, by simp, .inl rfl⟩
  · have e : (zs.take len).length = len := by rw [List.length_take]; omega
    refine ⟨zs.take len, e, by omega, fun z hz => hk z (hw z (List.mem_of_mem_take hz)), .inr ⟨x, rfl, fun i hi => ?_⟩⟩
    rw [e] at hi
    rw [hc i (by omega)]
    simp [List.getD, hi]
def wid (us : List Int) (k : Nat) : Nat := (us.getD k 0 % 57).toNat
def val (ws us : List Int) (k : Nat) : Nat := (ws.getD k 0).toNat % 2 ^ wid us k
def catTo (ws us : List Int) : Nat → List Bool
  | 0 => []
  | k + 1 => catTo ws us k ++ bitsOf (val ws us k) (wid us k)
theorem wid_le (us : List Int) (k : Nat) : wid us k ≤ 56 := by unfold wid; omega
theorem val_lt (ws us : List Int) (k : Nat) : val ws us k < 2 ^ wid us k := Nat.mod_lt _ (Nat.pow_pos (by decide))
theorem catTo_len (ws us : List Int) (k : Nat) : (catTo ws us k).length ≤ 56 * k := by
  induction k with
  | zero => simp [catTo]
  | succ k ih => simp only [catTo, List.length_append, bitsOf_length]; have := wid_le us k; omega
theorem catTo_split (ws us : List Int) (k N : Nat) (h : k < N) : ∃ r, catTo ws us N = catTo ws us k ++ (bitsOf (val ws us k) (wid us k) ++ r) := by
  induction N with
  | zero => omega
  | succ N ih =>
    by_cases e : k = N
    · subst e; exact ⟨[], by simp [catTo]⟩
    · obtain ⟨r, hr⟩ := ih (by omega)
      exact ⟨r ++ bitsOf (val ws us N) (wid us N), by simp only [catTo, hr, List.append_assoc]⟩
theorem peek_at (ws us : List Int) (k N : Nat) (h : k < N) : peek ((spread (pack (catTo ws us N))).drop (catTo ws us k).length) (wid us k) = val ws us k ∧ (catTo ws us k).length + wid us k ≤ 8 * (pack (catTo ws us N)).length := by
  obtain ⟨r, hr⟩ := catTo_split ws us k N h
  obtain ⟨j, hj, e, -⟩ := spread_pack (catTo ws us N)
  constructor
  · rw [e, hr, List.append_assoc, List.drop_left' rfl]
    unfold peek
    rw [List.append_assoc, List.take_left' (bitsOf_length _ _), wordOf_bitsOf, Nat.mod_eq_of_lt (val_lt ws us k)]
  · have hl := congrArg List.length hr
    rw [List.length_append, List.length_append, bitsOf_length] at hl
    rw [pack_length]
    omega
theorem and_mask (x n : Nat) (hn : n ≤ 56) (hx : x < 2 ^ 64) : bits .and .u64 (x : Int) (IntKind.u64.wrap (IntKind.u64.wrap (2 ^ n) - 1)) = ((x % 2 ^ n : Nat) : Int) := by
  have := and_step x 0 n _ hn hx rfl
  simpa using this
/-- What a round is told of a word and its width. -/
theorem round_of (ws us : List Int) (w : World) (a b : Option Addr) (M : Int) (hM : M < 2 ^ 64) (h0 : IsK .u64 M w a ws) (h1 : IsK .u8 255 w b us) (k : Nat) (hk : k < ws.length) (hk2 : k < us.length) :
    ∃ (x y : Addr) (X A Y : Nat) (U : Int), a = some x ∧ b = some y ∧ x.block < w.heap.size ∧ y.block < w.heap.size ∧ w.cell? (x.add k) = some (.int .u64 (X : Int)) ∧ w.cell? (y.add k) = some (.int .u8 U) ∧ 0 ≤ U ∧ U ≤ 255 ∧ U % 57 = (A : Int) ∧ A ≤ 56 ∧
      bits .and .u64 (X : Int) (IntKind.u64.wrap (IntKind.u64.wrap (2 ^ A) - 1)) = (Y : Int) ∧ wid us k = A ∧ val ws us k = Y := by
  obtain ⟨x, hx, hxb, cx, x0, x1⟩ := h0.at k hk
  obtain ⟨y, hy, hyb, cy, y0, y1⟩ := h1.at k hk2
  refine ⟨x, y, (ws.getD k 0).toNat, wid us k, val ws us k, us.getD k 0, hx, hy, hxb, hyb, ?_, cy, y0, y1, by unfold wid; omega, wid_le us k, ?_, rfl, rfl⟩
  · rw [cx]; congr 2; omega
  · exact and_mask _ _ (wid_le us k) (by omega)
set_option maxHeartbeats 6400000 in
theorem in_walk (a0 : Option Addr) (c0 : Nat) (ws : List Int) (a1 : Option Addr) (c1 : Nat) (us : List Int) (w : World) (M : Int) (hM : M < 2 ^ 64) (h0 : IsK .u64 M w a0 ws) (h1 : IsK .u8 255 w a1 us) (hl : ws.length ≤ 60) (hlen : us.length = ws.length) :
    Calls Try.prog 7 #[.slice a0 ws.length c0, .slice a1 us.length c1] w fun e w' => e = .returned (.bool true) ∧ Below w.heap.size w w' := by
  have H := Lib.hid (fun k hk => round_of ws us w a0 a1 M hM h0 h1 k hk (by omega))
  rw [hlen]
  clear h0 h1 hM hlen
  obtain ⟨LF, hLF⟩ : ∃ LF, catTo ws us ws.length = LF := ⟨_, rfl⟩
  have hLl : LF.length ≤ 3360 := by rw [← hLF]; have := catTo_len ws us ws.length; omega
  have HLF := Lib.hid hLF
  clear hLF
  go_enter Try.func7, Try.ntmps7
  go_wp2
  go_loopw [5, 6] (fun u i wr => ∃ k : Nat, k ≤ ws.length ∧ i = .int .i64 k ∧ wr.ownsRow w.heap.size 4 1 u (catTo ws us k).length (boolCells (catTo ws us k)) ∧ Below w.heap.size w wr) (fun _ i _ => ws.length - (intOf i).toNat)
  case atStart => exact ⟨0, Nat.zero_le _, rfl, World.ownsRow_nil _ _ _ _, Below.refl _ _⟩
  case round =>
    obtain ⟨k, hk, rfl, hown, hb⟩ := hrel
    have hbs := hb.size
    by_cases hlt : k < ws.length
    · obtain ⟨x, y, X, A, Y, U, rfl, rfl, hxb, hyb, cx, cy, u0, u1, hA, hA56, hY, hwid, hval⟩ := H.out k hlt
      have cx : wr.cell? (x.add k) = some (.int .u64 (X : Int)) := by rw [hb.cell (by rw [add_blk]; exact hxb)]; exact cx
      have cy : wr.cell? (y.add k) = some (.int .u8 U) := by rw [hb.cell (by rw [add_blk]; exact hyb)]; exact cy
      have HS := Lib.hid (show catTo ws us k ++ bitsOf Y A = catTo ws us (k + 1) by simp only [catTo]; rw [hwid, hval])
      have hYl := val_lt ws us k
      rw [hwid, hval] at hYl
      have HYL := Lib.hid hYl
      have hcl := catTo_len ws us k
      have HO := Lib.hid hown
      have HB := Lib.hid hb
      clear hwid hval hYl hown hb
      go_wp2_with fail
      try rw [hY]
      refine (rPut w.heap.size _ _ Y A (catTo ws us k) _ HO.out (by omega) (by omega) hA56 HYL.out).mono ?_
      rintro e w1 ⟨v1, rfl, ho1, hb1⟩
      rw [HS.out] at ho1
      have HO1 := Lib.hid ho1
      have hb2 := HB.out.trans hb1
      clear ho1 hb1
      go_wp2_with fail
      go_roundw
      case rel => exact ⟨k + 1, by omega, by go_num, HO1.out, hb2⟩
      case measure => simp [intOf]; omega
    · obtain rfl : k = ws.length := by omega
      rw [HLF.out] at hown
      obtain ⟨la, lc, hv, hbo⟩ := own_boo hown
      subst hv
      have HBO := Lib.hid hbo
      clear hown hbo
      go_wp2_with fail
      refine (rBytes la lc LF _ HBO.out (by omega)).mono ?_
      rintro e w1 ⟨rfl, hb1⟩
      have hb2 := hb.trans (hb1.mono hbs)
      have hpl := pack_length LF
      clear hb1 hb
      have CN := rNew ⟨(pack LF).toArray⟩ (by show (pack LF).toArray.size ≤ _; unfold maxLen; simp; omega) w1
      rw [show (⟨(pack LF).toArray⟩ : ByteArray).data.toList = pack LF by simp] at CN
      have CN := Lib.hid CN
      go_wp2_with fail
      refine CN.out.mono ?_
      rintro e w2 ⟨rfl, hr0, hb3, hz3⟩
      have hb4 := hb2.trans (hb3.mono hb2.size)
      have hg0 : w.heap.size ≤ w1.heap.size + 1 := by have := hb2.size; omega
      clear hb3 hb2 hz3
      have HPL := Lib.hid hpl
      have HR0 := Lib.hid hr0
      clear hpl hr0
      go_wp2
      go_loopw [11] (fun i wr => ∃ k : Nat, k ≤ ws.length ∧ i = .int .i64 k ∧ IsReader wr (w1.heap.size + 1) (pack LF) (catTo ws us k).length ∧ Below w.heap.size w wr) (fun i _ => ws.length - (intOf i).toNat)
      case atStart => exact ⟨0, Nat.zero_le _, rfl, HR0.out, hb4⟩
      case round =>
        clear hb4 hk
        obtain ⟨k, hk, rfl, hr, hb⟩ := hrel
        by_cases hlt2 : k < ws.length
        · obtain ⟨x, y, X, A, Y, U, rfl, rfl, hxb, hyb, cx, cy, u0, u1, hA, hA56, hY, hwid, hval⟩ := H.out k hlt2
          have cx : wr.cell? (x.add k) = some (.int .u64 (X : Int)) := by rw [hb.cell (by rw [add_blk]; exact hxb)]; exact cx
          have cy : wr.cell? (y.add k) = some (.int .u8 U) := by rw [hb.cell (by rw [add_blk]; exact hyb)]; exact cy
          obtain ⟨hpk, hfit⟩ := peek_at ws us k ws.length hlt2
          rw [HLF.out, hwid, hval] at hpk
          rw [HLF.out, hwid] at hfit
          have HS := Lib.hid (show (catTo ws us k).length + A = (catTo ws us (k + 1)).length by simp only [catTo, List.length_append, bitsOf_length]; rw [hwid])
          have CP := rPeek wr (w1.heap.size + 1) (catTo ws us k).length A (pack LF) hr hA56
          have CT := fun j => rTakeIn (wr.drewN j) (w1.heap.size + 1) (catTo ws us k).length A (pack LF) (hr.drewN j) hA56 hfit
          rw [hpk] at CP
          simp only [hpk] at CT
          have CP := Lib.hid CP
          have CT := Lib.hid CT
          have HB := Lib.hid hb
          clear hwid hval hpk hfit hr hb
          go_wp2_with fail
          refine CP.out.mono ?_; rintro e w3 ⟨rfl, j1, rfl⟩
          go_wp2_with fail
          refine (CT.out _).mono ?_; rintro e w3 ⟨rfl, hr3, hk3, hz3⟩
          have hb5 := below_keeps (below_drewN HB.out _) hk3 hg0
          rw [HS.out] at hr3
          have HR3 := Lib.hid hr3
          have HB5 := Lib.hid hb5
          clear hk3 hz3 hr3 hb5
          go_wp2_with fail
          go_roundw
          case rel => exact ⟨k + 1, by omega, by go_num, HR3.out, HB5.out⟩
          case measure => simp [intOf]; omega
        · obtain rfl : k = ws.length := by omega
          rw [HLF.out] at hr
          have CL := rLeft wr (w1.heap.size + 1) LF.length (pack LF) hr
          obtain ⟨D, hD⟩ : ∃ D, 8 * (pack LF).length - LF.length = D := ⟨_, rfl⟩
          have hD8 : D < 8 := by have := HPL.out; omega
          rw [hD] at CL
          have CL := Lib.hid CL
          clear hD hr
          go_wp2_with fail
          refine CL.out.mono ?_; rintro e w3 ⟨rfl, j1, rfl⟩
          go_wp2_with fail
          refine (awake02 _).mono ?_; rintro e w4 ⟨rfl, hb6⟩
          go_wp2_with fail
          go_ret
          exact ⟨rfl, (below_drewN hb _).trans (hb6.mono (by simpa using hb.size))⟩

set_option maxHeartbeats 6400000 in
theorem walk (a0 : Option Addr) (len0 cap0 : Nat) (z0 : List Int) (a1 : Option Addr) (len1 cap1 : Nat) (z1 : List Int) (w : World) (w0 : IsRow .u64 w a0 len0 cap0 z0) (w1 : IsRow .u8 w a1 len1 cap1 z1) :
    Calls Try.prog 7 #[.slice a0 len0 cap0, .slice a1 len1 cap1] w fun e w' => e = .returned (.bool true) ∧ Below w.heap.size w w' := by
  obtain ⟨l, hl, hmax, h0⟩ := K_of (M := 18446744073709551615) (fun n h => by have := bounds_u64 h; omega) w0
  obtain ⟨m, hm, hmax2, h1⟩ := K_of (M := 255) (fun n h => bounds_u8 h) w1
  clear w0 w1
  subst hl
  subst hm
  by_cases hlong : 60 < l.length
  · clear h0 h1
    unfold maxLen at hmax hmax2
    go_enter Try.func7, Try.ntmps7
    go_wp2_with fail
    refine (awake02 _).mono ?_; rintro e w1 ⟨rfl, hb⟩
    go_wp2_with fail
    go_ret
    exact ⟨rfl, hb⟩
  · by_cases hne : m.length = l.length
    · exact in_walk a0 cap0 l a1 cap1 m w _ (by decide) h0 h1 (by omega) hne
    · clear h0 h1
      have e1 : ((m.length : Int) == (l.length : Int)) = false := by rw [beq_eq_false_iff_ne]; omega
      have e2 : ((m.length : Int) != (l.length : Int)) = true := by rw [bne, e1]; rfl
      unfold maxLen at hmax hmax2
      clear hne
      go_enter Try.func7, Try.ntmps7
      go_wp2_with fail
      refine (awake02 _).mono ?_; rintro e w1 ⟨rfl, hb⟩
      go_wp2_with fail
      go_ret
      exact ⟨rfl, hb⟩

theorem lifted (os : Os) (started : os.Started) (H : Type) (enc : TypeId × Value → H) :
    ReturnsInHanded {} Try.checked os 7 .any (Rows.bitrBackSpec.pre6 enc Try.prog Try.f7 Rows.bitrBackRow.domain false) (Rows.bitrBackSpec.post enc Try.prog Try.f7 false true false false) := by
  refine returnsInHanded_of_change (C := Try.checked) own started (by kernel_rfl) Try.func7
    (ChangeSpec.witness6 (enc := enc) (C := Try.checked) false ⟨#[], #[.slice none 0 0, .slice none 0 0], []⟩ 8 (by kernel_rfl) (by kernel_rfl) (by kernel_rfl) (by kernel_rfl)) ?_
  intro W base args ds gs before hval0 hW hcnd _
  have hval : ∀ (j : Nat) t v, Try.f7.params[j]? = some t → args[j]? = some v → Value.okWide Try.prog W .any base t v := hval0
  have hW' := hW
  obtain ⟨p, q, hA0, hV, rfl, hfz, hnd⟩ := hW
  have hA : DataW.TrodAll enc Try.prog W 0 (fun _ => true) true Try.f7.params.toList args.toList ds p := hA0
  rw [Try.params7] at hA hval
  obtain ⟨v0, vs0, d0, ds0, p0, q0, hargs, rfl, rfl, h0, r0⟩ := trodAll_cons hA
  obtain ⟨v1, vs1, d1, ds1, p1, q1, rfl, rfl, rfl, h1, r1⟩ := trodAll_cons r0
  obtain ⟨rfl, rfl, rfl⟩ := trodAll_nil r1
  obtain rfl : args = #[v0, v1] := by cases args; simp_all
  obtain ⟨rfl, rfl⟩ := trodVars_none hV
  obtain ⟨a0, len0, cap0, rfl⟩ := okWide_slice Try.underlying53 (hval 0 53 v0 rfl rfl)
  have k0 := h0
  have lt0 : ∀ x ∈ p0, x.block < W.heap.size := by obtain ⟨m, hm⟩ := k0; exact DataW.trod_lt m _ _ _ hm
  obtain ⟨z0, w0⟩ : ∃ zs, IsRow .u64 W a0 len0 cap0 zs := by
    obtain ⟨fuel, hf⟩ := h0
    rcases open_ints Try.underlying53 Try.underlying27 (by kernel_rfl) hf with ⟨hcs, _⟩ | ⟨x, l, c, zs, hcs, _, hl, hm, hz, _, hcell, hwz⟩
    · simp [Value.cells] at hcs
      obtain ⟨rfl, rfl, rfl⟩ := hcs
      exact ⟨[], .inl ⟨rfl, rfl, rfl, rfl⟩⟩
    · simp [Value.cells] at hcs
      obtain ⟨rfl, rfl, rfl⟩ := hcs
      exact ⟨zs, .inr ⟨_, rfl, hl, hm, by simpa using hz, hcell, hwz⟩⟩
  obtain ⟨a1, len1, cap1, rfl⟩ := okWide_slice Try.underlying54 (hval 1 54 v1 rfl rfl)
  have k1 := h1
  have lt1 : ∀ x ∈ p1, x.block < W.heap.size := by obtain ⟨m, hm⟩ := k1; exact DataW.trod_lt m _ _ _ hm
  obtain ⟨z1, w1⟩ : ∃ zs, IsRow .u8 W a1 len1 cap1 zs := by
    obtain ⟨fuel, hf⟩ := h1
    rcases open_ints Try.underlying54 Try.underlying5 (by kernel_rfl) hf with ⟨hcs, _⟩ | ⟨x, l, c, zs, hcs, _, hl, hm, hz, _, hcell, hwz⟩
    · simp [Value.cells] at hcs
      obtain ⟨rfl, rfl, rfl⟩ := hcs
      exact ⟨[], .inl ⟨rfl, rfl, rfl, rfl⟩⟩
    · simp [Value.cells] at hcs
      obtain ⟨rfl, rfl, rfl⟩ := hcs
      exact ⟨zs, .inr ⟨_, rfl, hl, hm, by simpa using hz, hcell, hwz⟩⟩
  clear hA0 hval0
  refine (walk a0 len0 cap0 z0 a1 len1 cap1 z1 W w0 w1).mono fun e W' ⟨he, bel⟩ => ?_
  subst he
  exact ⟨_, rfl, _, _, _, [], _, [], hW', trodAll_mk1 (shut_bool Try.underlying4 _), (trodAll_cons_mk (Below.trod laidOut (by kernel_rfl) (of_decide_eq_true (by kernel_rfl)) k0 bel lt0) (trodAll_cons_mk (Below.trod laidOut (by kernel_rfl) (of_decide_eq_true (by kernel_rfl)) k1 bel lt1) trodAll_mk0)), rfl, bel.frame _, fun h => by cases h⟩

theorem over : Rows.bitrBackRow.holds Try.pinned (OpenSpec.ofChange Rows.bitrBackSpec) :=
  OpenClaim.holds_of_wide 7 Try.f7 rfl rfl rfl rfl rfl rfl rfl ⟨rfl, rfl, rfl, rfl, rfl⟩ rfl rfl rfl rfl rfl (by kernel_rfl) Try.func7 (by kernel_rfl)
    (of_decide_eq_true (by kernel_rfl)) (by unfold Func.isWrapper; first | (rw [if_pos (by decide +kernel)]; kernel_rfl) | (rw [if_neg (by decide +kernel)]; exact ⟨rfl, rfl⟩))
    (fun os started H enc _ => lifted os started H enc)

theorem proved : Rows.BitrBackSaid := over
#print axioms proved
end Go.Proofs.Ytnpbjnhjgoafpaa.bitrBack
