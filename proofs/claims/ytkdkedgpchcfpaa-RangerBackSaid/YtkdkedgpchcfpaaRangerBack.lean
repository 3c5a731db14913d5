/- It is proved that the law 'RangerBack' of the program returns true for every input, with no condition, and leaves what was handed in as it was. The frame was written by a program; the walk is by hand. -/
import Derived.Test.YtkdkedgpchcfpaaRows
import Derived.WalkKit
import Derived.ProofKit
import Derived.OpenShut
import Derived.ShutString
import Derived.ChangeOld
import Derived.Below
import Derived.Test.YtkdkedgpchcfpaaBase
import Derived.Deep.Grids
import Derived.Test.YtkdkedgpchcfpaaG11
import Derived.Test.YtkdkedgpchcfpaaK3
namespace Go.Proofs.Ytkdkedgpchcfpaa.rangerBack
open Go.ChangeShapes Go.WideShapes Go.ChangeAt Go.RowKit Go.Deep
open Go.ChangeMaps (open_string shut_string)
set_option linter.unusedVariables false
set_option maxRecDepth 100000

theorem own : ownKnob Try.prog.godebug = none := by kernel_rfl
theorem laidOut : laidOutB Try.prog = true := by kernel_rfl

/-- What the walk is told of a slice of integers that came in: nil, or a row of 'cap' cells that hold the numbers zs, each fitting its kind. -/
def IsRow (k : IntKind) (w : World) (a : Option Addr) (len cap : Nat) (zs : List Int) : Prop :=
  (a = none ∧ len = 0 ∧ cap = 0 ∧ zs = []) ∨
  ∃ x, a = some x ∧ len ≤ cap ∧ cap ≤ maxLen ∧ zs.length = cap ∧ (∀ i, i < zs.length → w.cell? (x.add i) = some (.int k (zs.getD i 0))) ∧ ∀ n ∈ zs, (Lit.int k n).wf = true

/-- What the walk is told of a slice of bools that came in. -/
def IsBools (w : World) (a : Option Addr) (len : Nat) (bs : List Bool) : Prop :=
  bs.length = len ∧ len ≤ maxLen ∧ (bs = [] ∨ ∃ x, a = some x ∧ ∀ i, i < bs.length → w.cell? (x.add i) = some (.bool (bs.getD i false)))

open Range
theorem K_of {k : IntKind} {M : Int} {w : World} {a : Option Addr} {len cap : Nat} {zs : List Int} (hk : ∀ n, (Lit.int k n).wf = true → 0 ≤ n ∧ n ≤ M) (h : IsRow k w a len cap zs) : ∃ l : List Int, l.length = len ∧ len ≤ maxLen ∧ IsK k M w a l := by
  rcases h with ⟨rfl, rfl, rfl, rfl⟩ | ⟨x, rfl, hlc, hcm, hz, hc, hw⟩
  · exact ⟨[], rfl, Nat.zero_le _, by simp, .inl rfl⟩
  · have e : (zs.take len).length = len := by rw [List.length_take]; omega
    refine ⟨zs.take len, e, by omega, fun z hz => hk z (hw z (List.mem_of_mem_take hz)), .inr ⟨x, rfl, fun i hi => ?_⟩⟩
    rw [e] at hi
    rw [hc i (by omega)]
    simp [List.getD, hi]
def chan (l : List Int) : List Int := l.map fun x => x % 2047 + 1
theorem chan_ok (l : List Int) : (chan l).all okB = true := by
  rw [List.all_eq_true]
  intro x hx
  obtain ⟨z, -, rfl⟩ := List.mem_map.1 hx
  unfold okB
  simp; omega
theorem prs_map (bl : List Bool) (l : List Int) (h : bl.length = l.length) : (prs bl l).map (·.2) = nats l ∧ (prs bl l).map (·.1) = bl := by
  unfold prs
  constructor
  · exact List.map_snd_zip (by rw [nats_len]; omega)
  · exact List.map_fst_zip (by rw [nats_len]; omega)
theorem enc_back (bl : List Bool) (l : List Int) (r : List UInt8) (h : bl.length = l.length) (ho : l.all okB = true) : ∃ S, encS bl l = (S, 0) ∧ decS (S ++ r) l = (bl, 0) ∧ S.length ≤ 4 * l.length + 4 := by
  refine ⟨told (prs bl l), ?_, ?_, ?_⟩
  · unfold encS; rw [if_neg (by omega), ho, if_neg (by decide)]
  · unfold decS
    rw [ho, if_neg (by decide)]
    have hb := back (prs bl l) r (prs_lt bl l ho)
    rw [(prs_map bl l h).1, (prs_map bl l h).2] at hb
    rw [hb]
  · unfold told
    split
    · simp
    · have := run_len 0 top (prs bl l)
      have hp : (prs bl l).length ≤ l.length := by unfold prs; rw [List.length_zip, nats_len]; omega
      rw [List.length_append]
      have : (four (run 0 top (prs bl l)).2.1).length = 4 := rfl
      omega
set_option maxHeartbeats 3200000 in
theorem back_walk (a0 a1 : Option Addr) (c0 c1 : Nat) (bl : List Bool) (l : List Int) (b : ByteArray) (w : World) (h0 : IsBoo w a0 bl) (h1 : IsK .u16 65535 w a1 l) (hb : bl.length ≤ 500) (hl : bl.length = l.length) (hs : b.size ≤ 100) :
    Calls Try.prog 5 #[.slice a0 bl.length c0, .slice a1 l.length c1, .string b] w fun e w' => e = .returned (.bool true) ∧ Below w.heap.size w w' := by
  have g0 : IsB w (.slice a0 bl.length c0) bl := ⟨_, _, rfl, h0⟩
  obtain ⟨S, hS1, hS2, hS3⟩ := enc_back bl (chan l) b.data.toList (by unfold chan; simpa using hl) (chan_ok l)
  have hcl : (chan l).length = l.length := by unfold chan; simp
  have HS1 := Lib.hid hS1; have HS2 := Lib.hid hS2; have HCL := Lib.hid hcl
  have hSs : (sB S).size ≤ 2004 := by rw [sB_size]; omega
  have hne : ((l.length : Int) != (bl.length : Int)) = false := by rw [bne_eq_false_iff_eq]; omega
  have HK := Lib.hid h1
  have HG0 := Lib.hid g0
  have HL := Lib.hid hl
  have hl5 : l.length ≤ 500 := by omega
  clear h0 h1 g0 hS1 hS2 hcl hS3 hl
  go_enter Try.func5, Try.ntmps5
  go_wp2_with fail
  clear hne
  go_loopw [7, 8] (fun u i wr => ∃ k : Nat, k ≤ l.length ∧ i = .int .i64 k ∧ OwnI w.heap.size wr u (chan (l.take k)) ∧ Below w.heap.size w wr) (fun _ i _ => l.length - (intOf i).toNat)
  case atStart => exact ⟨0, Nat.zero_le _, rfl, by simpa [chan] using OwnS.nil, Below.refl _ _⟩
  case round =>
    obtain ⟨k, hk, rfl, hown, hbe⟩ := hrel
    by_cases hlt : k < l.length
    · obtain ⟨x, rfl, hxb, cx, z0, z1⟩ := HK.out.at k hlt
      have hbs := hbe.size
      have HT := Lib.hid (map_take1 (fun x => x % 2047 + 1) l k hlt)
      rw [← hbe.cell (by rw [add_block]; exact hxb)] at cx
      obtain ⟨Z, hZ⟩ : ∃ Z, l.getD k 0 = Z := ⟨_, rfl⟩
      rw [hZ] at cx z0 z1 HT
      have HLn := Lib.hid (show (chan (l.take k)).length ≤ 1099511627776 by unfold chan; rw [List.length_map, List.length_take]; omega)
      have HBs := Lib.hid hbs
      have hown_ := Lib.hid hown
      have hbe_ := Lib.hid hbe
      clear hown hbe
      clear hZ
      go_wp2_with (at_builtin; refine app_int rfl _ _ rfl _ _ _ _ _ rfl hown_.out _ 1 rfl rfl HLn.out HBs.out ?_; intro v2 w2 hown2 hb2 hg2)
      have hown2 : OwnI w.heap.size w2 v2 (chan (l.take (k + 1))) := by
        unfold chan at hown2 ⊢
        rw [← HT.out]; exact hown2
      have hb3 := hbe_.out.trans hb2
      have hown2_ := Lib.hid hown2
      have hb3_ := Lib.hid hb3
      clear hown2 hb3
      clear hb2 hg2
      go_wp2_with fail
      go_roundw
      case rel => exact ⟨k + 1, by omega, by go_num, hown2_.out, hb3_.out⟩
      case measure => simp [intOf]; omega
    · obtain rfl : k = l.length := by omega
      rw [List.take_length] at hown
      have g1 := hown.isL (by rw [HCL.out]; omega)
      have G1 := Lib.hid g1
      have G0 := Lib.hid (HG0.out.kept hbe)
      have HB := Lib.hid hbe
      clear hown g1 hbe
      go_wp2_with fail
      refine (gEncodeT G0.out G1.out (by rw [HCL.out]; omega) S 0 HS1.out).mono ?_; rintro e w2 ⟨rfl, hb2⟩
      have G0 := Lib.hid (G0.out.kept hb2)
      have G1 := Lib.hid (G1.out.kept hb2)
      have HB := Lib.hid (HB.out.trans (hb2.mono HB.out.size))
      clear hb2
      have HD := Lib.hid (show decS (sB S ++ b).data.toList (chan l) = (bl, 0) by
        have : (sB S ++ b).data.toList = S ++ b.data.toList := by simp [sB]
        rw [this]; exact HS2.out)
      go_wp2_with fail
      refine (gDecodeT (sB S ++ b) (by rw [ByteArray.size_append]; omega) G1.out (by rw [HCL.out]; omega) bl 0 HD.out).mono ?_; rintro e w3 ⟨v3, rfl, i3, hb3⟩
      have I3 := Lib.hid i3
      have G0 := Lib.hid (G0.out.kept hb3)
      have HB := Lib.hid (HB.out.trans (hb3.mono HB.out.size))
      clear i3 hb3
      go_wp2_with fail
      refine (dBoolsT I3.out G0.out (by omega) (by omega) true (by simp)).mono ?_; rintro e w4 ⟨rfl, hb4⟩
      have HB := Lib.hid (HB.out.trans (hb4.mono HB.out.size))
      clear hb4
      go_wp2_with fail
      refine (awake45 _).mono ?_; rintro e w5 ⟨rfl, hb5⟩
      go_wp2_with fail
      go_ret
      exact ⟨rfl, HB.out.trans (hb5.mono HB.out.size)⟩

set_option maxHeartbeats 3200000 in
theorem walk (a0 : Option Addr) (len0 cap0 : Nat) (z0 : List Bool) (a1 : Option Addr) (len1 cap1 : Nat) (z1 : List Int) (a2 : ByteArray) (w : World) (w0 : IsBools w a0 len0 z0) (w1 : IsRow .u16 w a1 len1 cap1 z1) (w2 : a2.size ≤ maxLen) :
    Calls Try.prog 5 #[.slice a0 len0 cap0, .slice a1 len1 cap1, .string a2] w fun e w' => e = .returned (.bool true) ∧ Below w.heap.size w w' := by
  obtain ⟨hz, hm0, h0⟩ := w0
  obtain ⟨l, hl, hmax, h1⟩ := K_of (M := 65535) (fun n h => by have := bounds_u16 h; omega) w1
  clear w1
  subst hl
  subst hz
  unfold maxLen at hmax hm0 w2
  by_cases hlong : 500 < z0.length
  · go_enter Try.func5, Try.ntmps5
    go_wp2_with fail
    refine (awake45 _).mono ?_; rintro e w1 ⟨rfl, hb⟩
    go_wp2_with fail
    go_ret
    exact ⟨rfl, hb⟩
  · by_cases hlen : l.length = z0.length
    · by_cases hs : 100 < a2.size
      · have hne : ((l.length : Int) != (z0.length : Int)) = false := by rw [bne_eq_false_iff_eq]; omega
        have hs2 : (100 : Int) < (a2.size : Int) := by omega
        go_enter Try.func5, Try.ntmps5
        go_wp2_with fail
        refine (awake45 _).mono ?_; rintro e w1 ⟨rfl, hb⟩
        go_wp2_with fail
        go_ret
        exact ⟨rfl, hb⟩
      · exact back_walk a0 a1 cap0 cap1 z0 l a2 w h0 h1 (by omega) hlen.symm (by omega)
    · have hne : ((l.length : Int) != (z0.length : Int)) = true := by rw [bne_iff_ne]; omega
      go_enter Try.func5, Try.ntmps5
      go_wp2_with fail
      refine (awake45 _).mono ?_; rintro e w1 ⟨rfl, hb⟩
      go_wp2_with fail
      go_ret
      exact ⟨rfl, hb⟩

theorem lifted (os : Os) (started : os.Started) (H : Type) (enc : TypeId × Value → H) :
    ReturnsInHanded {} Try.checked os 5 .any (Rows.rangerBackSpec.pre6 enc Try.prog Try.f5 Rows.rangerBackRow.domain false) (Rows.rangerBackSpec.post enc Try.prog Try.f5 false true false false) := by
  refine returnsInHanded_of_change (C := Try.checked) own started (by kernel_rfl) Try.func5
    (ChangeSpec.witness6 (enc := enc) (C := Try.checked) false ⟨#[], #[.slice none 0 0, .slice none 0 0, .string ByteArray.empty], []⟩ 8 (by kernel_rfl) (by kernel_rfl) (by kernel_rfl) (by kernel_rfl)) ?_
  intro W base args ds gs before hval0 hW hcnd _
  have hval : ∀ (j : Nat) t v, Try.f5.params[j]? = some t → args[j]? = some v → Value.okWide Try.prog W .any base t v := hval0
  have hW' := hW
  obtain ⟨p, q, hA0, hV, rfl, hfz, hnd⟩ := hW
  have hA : DataW.TrodAll enc Try.prog W 0 (fun _ => true) true Try.f5.params.toList args.toList ds p := hA0
  rw [Try.params5] at hA hval
  obtain ⟨v0, vs0, d0, ds0, p0, q0, hargs, rfl, rfl, h0, r0⟩ := trodAll_cons hA
  obtain ⟨v1, vs1, d1, ds1, p1, q1, rfl, rfl, rfl, h1, r1⟩ := trodAll_cons r0
  obtain ⟨v2, vs2, d2, ds2, p2, q2, rfl, rfl, rfl, h2, r2⟩ := trodAll_cons r1
  obtain ⟨rfl, rfl, rfl⟩ := trodAll_nil r2
  obtain rfl : args = #[v0, v1, v2] := by cases args; simp_all
  obtain ⟨rfl, rfl⟩ := trodVars_none hV
  obtain ⟨a0, len0, cap0, rfl⟩ := okWide_slice Try.underlying22 (hval 0 22 v0 rfl rfl)
  have k0 := h0
  have lt0 : ∀ x ∈ p0, x.block < W.heap.size := by obtain ⟨m, hm⟩ := k0; exact DataW.trod_lt m _ _ _ hm
  obtain ⟨z0, w0⟩ : ∃ zs, IsBools W a0 len0 zs := by
    obtain ⟨fuel, hf⟩ := h0
    rcases open_bools Try.underlying22 Try.underlying4 (by kernel_rfl) hf with ⟨hcs, _⟩ | ⟨x, l, c, B, hcs, _, hl, hm, _, hcell⟩
    · simp [Value.cells] at hcs
      obtain ⟨rfl, rfl, rfl⟩ := hcs
      exact ⟨[], rfl, Nat.zero_le _, .inl rfl⟩
    · simp [Value.cells] at hcs
      obtain ⟨rfl, rfl, rfl⟩ := hcs
      exact ⟨(List.range len0).map B, by simp, by omega, .inr ⟨_, rfl, fun i hi => by rw [hcell i (by simp at hi; omega)]; simp at hi; simp [List.getD, hi]⟩⟩
  obtain ⟨a1, len1, cap1, rfl⟩ := okWide_slice Try.underlying47 (hval 1 47 v1 rfl rfl)
  have k1 := h1
  have lt1 : ∀ x ∈ p1, x.block < W.heap.size := by obtain ⟨m, hm⟩ := k1; exact DataW.trod_lt m _ _ _ hm
  obtain ⟨z1, w1⟩ : ∃ zs, IsRow .u16 W a1 len1 cap1 zs := by
    obtain ⟨fuel, hf⟩ := h1
    rcases open_ints Try.underlying47 Try.underlying48 (by kernel_rfl) hf with ⟨hcs, _⟩ | ⟨x, l, c, zs, hcs, _, hl, hm, hz, _, hcell, hwz⟩
    · simp [Value.cells] at hcs
      obtain ⟨rfl, rfl, rfl⟩ := hcs
      exact ⟨[], .inl ⟨rfl, rfl, rfl, rfl⟩⟩
    · simp [Value.cells] at hcs
      obtain ⟨rfl, rfl, rfl⟩ := hcs
      exact ⟨zs, .inr ⟨_, rfl, hl, hm, by simpa using hz, hcell, hwz⟩⟩
  have k2 := h2
  have lt2 : ∀ x ∈ p2, x.block < W.heap.size := by obtain ⟨m, hm⟩ := k2; exact DataW.trod_lt m _ _ _ hm
  obtain ⟨a2, rfl, rfl, rfl, w2⟩ := open_string Try.underlying9 (hval 2 9 v2 rfl rfl) h2
  clear hA0 hval0
  refine (walk a0 len0 cap0 z0 a1 len1 cap1 z1 a2 W w0 w1 w2).mono fun e W' ⟨he, bel⟩ => ?_
  subst he
  exact ⟨_, rfl, _, _, _, [], _, [], hW', trodAll_mk1 (shut_bool Try.underlying4 _), (trodAll_cons_mk (Below.trod laidOut (by kernel_rfl) (of_decide_eq_true (by kernel_rfl)) k0 bel lt0) (trodAll_cons_mk (Below.trod laidOut (by kernel_rfl) (of_decide_eq_true (by kernel_rfl)) k1 bel lt1) (trodAll_cons_mk (Below.trod laidOut (by kernel_rfl) (of_decide_eq_true (by kernel_rfl)) k2 bel lt2) trodAll_mk0))), rfl, bel.frame _, fun h => by cases h⟩

theorem over : Rows.rangerBackRow.holds Try.pinned (OpenSpec.ofChange Rows.rangerBackSpec) :=
  OpenClaim.holds_of_wide 5 Try.f5 rfl rfl rfl rfl rfl rfl rfl ⟨rfl, rfl, rfl, rfl, rfl⟩ rfl rfl rfl rfl rfl (by kernel_rfl) Try.func5 (by kernel_rfl)
    (of_decide_eq_true (by kernel_rfl)) (by unfold Func.isWrapper; first | (rw [if_pos (by decide +kernel)]; kernel_rfl) | (rw [if_neg (by decide +kernel)]; exact ⟨rfl, rfl⟩))
    (fun os started H enc _ => lifted os started H enc)

theorem proved : Rows.RangerBackSaid := over
#print axioms proved
end Go.Proofs.Ytkdkedgpchcfpaa.rangerBack
