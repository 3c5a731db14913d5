/- It is proved that the law 'SlowBack' of the program returns true for every input, with no condition, and leaves what was handed in as it was. The frame was written by a program; the walk is by hand. -/
import Derived.Test.YtlampmedeebekaaRows
import Derived.WalkKit
import Derived.ProofKit
import Derived.OpenShut
import Derived.ShutString
import Derived.ChangeOld
import Derived.Below
import Derived.Test.YtlampmedeebekaaBase
import Derived.Deep.Grids
import Derived.Test.YtlampmedeebekaaE10
namespace Go.Proofs.Ytlampmedeebekaa.slowBack
open Go.ChangeShapes Go.WideShapes Go.ChangeAt Go.RowKit Go.Deep
open Go.ChangeMaps (open_string shut_string)
set_option linter.unusedVariables false
set_option maxRecDepth 100000

theorem own : ownKnob Try.prog.godebug = none := by kernel_rfl
theorem laidOut : laidOutB Try.prog = true := by kernel_rfl

/-- What the walk is told of a slice of integers that came in: nil, or a row of 'cap' cells that hold the numbers zs, each fitting its kind. -/
def IsRow (k : IntKind) (w : World) (a : Option Addr) (len cap : Nat) (zs : List Int) : Prop :=
  (a = none ∧ len = 0 ∧ cap = 0 ∧ zs = []) ∨
  ∃ x, a = some x ∧ len ≤ cap ∧ cap ≤ maxLen ∧ zs.length = cap ∧ (∀ i, i < zs.length → w.cell? (x.add i) = some (.int k (zs.getD i 0))) ∧ ∀ n ∈ zs, (Lit.int k n).wf = true

/-- What the walk is told of a slice of bools that came in. -/
def IsBools (w : World) (a : Option Addr) (len : Nat) (bs : List Bool) : Prop :=
  bs.length = len ∧ len ≤ maxLen ∧ (bs = [] ∨ ∃ x, a = some x ∧ ∀ i, i < bs.length → w.cell? (x.add i) = some (.bool (bs.getD i false)))

open KraftMath CanonMath
theorem ints_of {w : World} {a : Option Addr} {len cap : Nat} {zs : List Int} (h : IsRow .i64 w a len cap zs) : ∃ l : List Int, l.length = len ∧ len ≤ maxLen ∧ (l.length ≤ 70368744177664 → IsInts w a l) := by
  rcases h with ⟨rfl, rfl, rfl, rfl⟩ | ⟨x, rfl, hlc, hcm, hz, hc, -⟩
  · exact ⟨[], rfl, Nat.zero_le _, fun _ => ⟨by simp, .inl rfl⟩⟩
  · have e : (zs.take len).length = len := by rw [List.length_take]; omega
    refine ⟨zs.take len, e, by omega, fun h11 => ⟨by omega, .inr ⟨x, rfl, fun i hi => ?_⟩⟩⟩
    rw [e] at hi
    rw [hc i (by omega)]
    simp [List.getD, hi]
theorem run_nilB {B : Nat} {W : World} {v : Value} {l : List Bool} (h : OwnB B W v l) (ty : TypeId) (c : Nat) : (Builtin.append_ #[23, 23] ty #[v, .slice none 0 c]).run Try.prog W = .ok v W := by
  obtain ⟨i0, hi, h1, h2, h3⟩ := info_get info_bool
  rcases h.2 with ⟨rfl, -⟩ | ⟨g, cap, cur, rfl, -, -, hnc, -⟩
  · simp [Builtin.append_, run_underlying Try.underlying23, sizeOf, typeInfo, hi, Builtin.lenOf, Builtin.firstCells]
  · simp [Builtin.append_, run_underlying Try.underlying23, sizeOf, typeInfo, hi, Builtin.lenOf, Builtin.firstCells, hnc, storeCells]
theorem app_rowB {W : World} {ops : Array Oper} {rest : List Oper} {o : Oper} {a : Act} {Q : Exit → Act → World → Prop} (hgd : o.guard = none) (s x : Operand)
    (ho : o.op = .call { callee := .builtin .append, args := #[s, x], argTypes := #[23, 23] })
    (B : Nat) (v : Value) (l ys : List Bool) (hs : a.eval s = v) (hown : OwnB B W v l) (va : Option Addr) (m c : Nat) (hx : a.eval x = .slice va m c) (hm : m = ys.length) (hys : IsBoo W va ys) (hl : l.length + ys.length ≤ 1000000) (hB : B ≤ W.heap.size)
    (h : ∀ v' w', OwnB B w' v' (l ++ ys) → Below B W w' → wpList Try.prog ops Q rest (a.put o.dst v') w') : wpList Try.prog ops Q (o :: rest) a W := by
  by_cases hpos : 1 ≤ ys.length
  · exact wpList_step (fun K hK => step_rowB hgd s x ho B v l ys hs hown va m c hx hm hys hpos hl hB (fun v' w' h1 h2 => hK _ _ (h v' w' h1 h2)))
  · have hy : ys = [] := List.length_eq_zero_iff.1 (by omega)
    subst hy
    obtain rfl : m = 0 := by simpa using hm
    cases va with
    | none =>
      refine wpList_plain hgd fun K hK => ?_
      have hrun := run_nilB hown o.type c
      unfold Oper.wp
      simp only [execOp, ho, resolve, invoke, builtin, Sem.run_bind, Sem.run_pure, Result.andThen_ok, List.map_toArray, List.map_cons, List.map_nil, hs, hx, hrun]
      exact hK _ _ (h v W (by rw [List.append_nil]; exact hown) (Below.refl _ _))
    | some ad =>
      obtain ⟨i0, hi, h1, h2, h3⟩ := info_get info_bool
      refine wpList_append_own _ hgd s x 23 ho B 4 i0 (.bool false) 1 1 Try.underlying23 hi h1 h2 h3 rfl (by decide) v l.length (l.flatMap fB) hs hown ad 0 c [] hx rfl (by intro j u hj; simp at hj) (by simp) (by unfold maxLen; simp at hl; omega) (by simp at hl; omega) hB ?_
      intro v' w' ho' hg' _
      refine h v' w' ?_ ((Below.refl _ _).grown hg' hB (fun j hj => (World.ownsRow.lt hown j hj).1))
      rw [List.append_nil]
      simpa [OwnS] using ho'
theorem enc_ok {l syms : List Int} {S : List Bool} (h : encL l syms = (S, 0)) : check l 16 = 0 ∧ syms.all (goodS l) = true ∧ S = encT l syms := by
  unfold encL at h
  by_cases h1 : check l 16 ≠ 0
  · rw [if_pos h1] at h
    injection h with e1 e2
    exact absurd e2 h1
  · rw [if_neg h1] at h
    by_cases h2 : syms.all (goodS l) = true
    · rw [if_pos h2] at h
      injection h with e1 e2
      exact ⟨by simpa using h1, h2, e1.symm⟩
    · rw [if_neg h2] at h
      injection h with e1 e2
      cases e2
theorem enc_bad {l syms : List Int} {S : List Bool} {E : Int} (h : encL l syms = (S, E)) (hE : E ≠ 0) : S = [] := by
  unfold encL at h
  by_cases h1 : check l 16 ≠ 0
  · rw [if_pos h1] at h
    injection h with e1 e2
    exact e1.symm
  · rw [if_neg h1] at h
    by_cases h2 : syms.all (goodS l) = true
    · rw [if_pos h2] at h
      injection h with e1 e2
      exact absurd e2.symm hE
    · rw [if_neg h2] at h
      injection h with e1 e2
      exact e1.symm
/-- What is left of the bits when k symbols have been read. -/
def restB (l syms : List Int) (beh : List Bool) (k : Nat) : List Bool := encT l (syms.drop k) ++ beh
theorem rest_step {l syms : List Int} (h : check l 16 = 0) (hg : syms.all (goodS l) = true) (beh : List Bool) (k : Nat) (hk : k < syms.length) :
    ∃ s n : Nat, syms.getD k 0 = s ∧ 1 ≤ n ∧ n ≤ (restB l syms beh k).length ∧ decL l (restB l syms beh k) = ((s : Int), (n : Int), 0) ∧ (restB l syms beh k).drop n = restB l syms beh (k + 1) := by
  have hgk := List.all_eq_true.1 hg (syms.getD k 0) (by simp [List.getD_eq_getElem?_getD, hk])
  have hgk2 := hgk
  unfold goodS at hgk2
  simp only [Bool.and_eq_true, decide_eq_true_eq] at hgk2
  obtain ⟨⟨g1, g2⟩, g3⟩ := hgk2
  obtain ⟨s, hs⟩ : ∃ s : Nat, syms.getD k 0 = s := ⟨(syms.getD k 0).toNat, by omega⟩
  rw [hs] at g1 g2 g3
  rw [Int.toNat_natCast] at g3
  have hsl : s < l.length := by omega
  have hn : len l s ≠ 0 := by have := lenI h hsl; omega
  have hd : syms.drop k = syms.getD k 0 :: syms.drop (k + 1) := by
    rw [List.drop_eq_getElem_cons hk]; simp [List.getD_eq_getElem?_getD, hk]
  have hr : restB l syms beh k = msb (code l s) (len l s) ++ restB l syms beh (k + 1) := by
    unfold restB
    rw [hd, hs]
    show (bitsS l (s : Int) ++ encT l (syms.drop (k + 1))) ++ beh = _
    unfold bitsS
    rw [Int.toNat_natCast, List.append_assoc]
  have hml := msb_len (code l s) (len l s)
  refine ⟨s, len l s, hs, by omega, by rw [hr, List.length_append, hml]; omega, ?_, ?_⟩
  · refine decL_hit h ⟨hsl, hn, ?_⟩
    unfold begL
    rw [hr, hml, List.length_append, hml, Bool.and_eq_true, decide_eq_true_iff, decide_eq_true_iff]
    refine ⟨by omega, ?_⟩
    have := List.take_left (l₁ := msb (code l s) (len l s)) (l₂ := restB l syms beh (k + 1))
    rw [hml] at this
    exact this
  · have := List.drop_left (l₁ := msb (code l s) (len l s)) (l₂ := restB l syms beh (k + 1))
    rw [hml] at this
    rw [hr]
    exact this
theorem add_add (x : Addr) (n i : Nat) : (x.add n).add i = x.add (n + i) := by
  unfold Addr.add
  by_cases hn : n = 0
  · subst hn; simp
  · by_cases hi : i = 0
    · subst hi; simp
    · simp [hn, hi]; omega
theorem boo_drop {w : World} {x : Addr} {l : List Bool} (h : IsBoo w (some x) l) (n : Nat) : IsBoo w (some (x.add n)) (l.drop n) := by
  rcases h with rfl | ⟨x', e, hc⟩
  · exact .inl (by simp)
  · injection e with e
    subst e
    refine .inr ⟨x.add n, rfl, fun i hi => ?_⟩
    rw [List.length_drop] at hi
    have := hc (n + i) (by omega)
    rw [add_add x n i, this]
    simp [List.getD_eq_getElem?_getD, List.getElem?_drop]
set_option maxHeartbeats 3200000 in
theorem back_walk (a0 a1 a2 : Option Addr) (c0 c1 c2 : Nat) (l syms : List Int) (beh : List Bool) (w : World) (h1 : IsInts w a0 l) (h2 : IsInts w a1 syms) (h3 : IsBoo w a2 beh) (hl : l.length ≤ 100) (hs : syms.length ≤ 50) (hr : beh.length ≤ 100) :
    Calls Try.prog 4 #[.slice a0 l.length c0, .slice a1 syms.length c1, .slice a2 beh.length c2] w fun e w' => e = .returned (.bool true) ∧ Below w.heap.size w w' := by
  obtain ⟨⟨S, F⟩, hE⟩ : ∃ r, encL l syms = r := ⟨_, rfl⟩
  have C1 := Lib.hid (sEncode9 a0 a1 c0 c1 l syms w h1 h2 (by omega) S F hE)
  by_cases hF : F = 0
  · subst hF
    obtain ⟨hok, hall, hS⟩ := enc_ok hE
    have HSL := Lib.hid (encT_len (l := l) hok syms hall)
    have HST := Lib.hid (fun k hk => rest_step hok hall beh k hk)
    have HR0 := Lib.hid (show S ++ beh = restB l syms beh 0 by rw [hS]; rfl)
    have HBL := Lib.hid (fun k => show (restB l syms beh k).length ≤ 2000 by
      have h2 := encT_len (l := l) hok (syms.drop k) (by rw [List.all_eq_true] at hall ⊢; exact fun z hz => hall z (List.mem_of_mem_drop hz))
      unfold restB
      rw [List.length_append]
      rw [List.length_drop] at h2
      omega)
    have HRN := Lib.hid (show restB l syms beh syms.length = beh by unfold restB; rw [List.drop_length]; simp [encT])
    rw [← hS] at HSL
    have G1 := Lib.hid (show IsL w (.slice a0 l.length c0) l from ⟨_, _, rfl, h1⟩)
    have G2 := Lib.hid h2
    have G3 := Lib.hid h3
    clear h1 h2 h3 hE hok hall hS
    go_enter Try.func4, Try.ntmps4
    go_wp2_with fail
    refine C1.out.mono ?_; rintro e w1 ⟨v1, rfl, ho1, hb1⟩
    have HO1 := Lib.hid ho1
    have HB1 := Lib.hid hb1
    have HB1s := Lib.hid hb1.size
    have G3a := Lib.hid (G3.out.kept hb1)
    have HL1 := Lib.hid (show S.length + beh.length ≤ 1000000 by have := HSL.out; omega)
    clear ho1 hb1 C1
    go_wp2_with (at_builtin; refine app_rowB rfl _ _ rfl w.heap.size _ S beh rfl HO1.out a2 _ c2 rfl rfl G3a.out HL1.out HB1s.out ?_; intro v2 w2 ho2 hb2)
    obtain ⟨ua, uc, rfl, hi2⟩ := ho2.isB
    have hcap : (S ++ beh).length ≤ uc ∧ uc ≤ 9223372036854775807 := by
      rcases ho2.2 with ⟨e, e2⟩ | ⟨g, cap, cur, e, -, -, e2, e3, -⟩
      · injection e with _ _ e; subst e; rw [e2]; simp
      · injection e with _ _ e; subst e
        unfold maxLen at e3
        exact ⟨e2, by omega⟩
    rw [HR0.out] at hi2 hcap ⊢
    have HI2 := Lib.hid hi2
    have HB2 := Lib.hid (HB1.out.trans hb2)
    obtain ⟨hcap1, hcap2⟩ := hcap
    clear ho2 hb2 hi2 HO1
    go_wp2_with fail
    go_loopw [7, 9] (fun u i wr => ∃ (k : Nat) (ua : Option Addr) (uc : Nat), k ≤ syms.length ∧ i = .int .i64 k ∧ u = .slice ua (restB l syms beh k).length uc ∧ (restB l syms beh k).length ≤ uc ∧ uc ≤ 9223372036854775807 ∧ Hid (IsBoo wr ua (restB l syms beh k)) ∧ Hid (Below w.heap.size w wr)) (fun _ i _ => syms.length - (intOf i).toNat)
    case atStart => exact ⟨0, ua, uc, Nat.zero_le _, rfl, rfl, hcap1, hcap2, HI2, HB2⟩
    case round =>
      obtain ⟨k, ua, uc, hk, rfl, rfl, hc1, hc2, hbo, hb⟩ := hrel
      by_cases hlt : k < syms.length
      · obtain ⟨s, n, hsk, hn1, hn2, hdec, hdrop⟩ := HST.out k hlt
        obtain ⟨x, rfl, -, -⟩ := hbo.out.at 0 (by omega)
        have CD := Lib.hid (sDecT (G1.out.kept hb.out) (⟨_, uc, rfl, hbo.out⟩ : IsB wr (.slice (some x) (restB l syms beh k).length uc) (restB l syms beh k)) (by have h0 := HBL.out k; omega) s n 0 hdec)
        obtain ⟨y, hy, hyb, cy0⟩ := G2.out.at k hlt
        subst hy
        have cy := (hb.out.cell (p := y.add k) (by rw [add_block]; exact hyb)).trans (cy0 k hlt)
        rw [hsk] at cy
        have HDR := Lib.hid hdrop
        obtain ⟨RL, hRL⟩ : ∃ RL, restB l syms beh k = RL := ⟨_, rfl⟩
        rw [hRL] at hc1 hbo hn2 CD HDR ⊢
        obtain ⟨RN, hRN⟩ : ∃ RN, RL.length = RN := ⟨_, rfl⟩
        rw [hRN] at hc1 hn2 CD ⊢
        have HRN2 := Lib.hid hRN
        clear hRL hdec hdrop hsk cy0 hRN
        go_wp2_with fail
        refine CD.out.mono ?_; rintro e w3 ⟨rfl, hb3⟩
        have cy3 := (hb3.cell (p := y.add k) (by rw [add_block]; have := hb.out.size; omega)).trans cy
        have HB3 := Lib.hid (hb.out.trans (hb3.mono hb.out.size))
        have HO3 := Lib.hid (hbo.out.kept hb3)
        have h1n : (1 : Int) ≤ (n : Int) := by omega
        have h2n : (n : Int) ≤ (RN : Int) := by omega
        have h3n : (RN : Int) ≤ (uc : Int) := by omega
        clear hb3 cy CD
        go_wp2_with fail
        go_roundw
        case rel =>
          have hlen : RN - n = (restB l syms beh (k + 1)).length := by rw [← HDR.out, List.length_drop, HRN2.out]
          refine ⟨k + 1, (if uc = n then some x else some (x.add n)), uc - n, by omega, by go_num, by rw [hlen], by omega, by omega, Lib.hid ?_, HB3⟩
          rw [← HDR.out]
          split
          · exact .inl (List.length_eq_zero_iff.1 (by rw [List.length_drop, HRN2.out]; omega))
          · exact boo_drop HO3.out n
        case measure => simp [intOf]; omega
      · obtain rfl : k = syms.length := by omega
        rw [HRN.out] at hbo ⊢
        have g3 := G3.out.kept hb.out
        have CB := Lib.hid (dBools ua a2 uc c2 beh beh wr hbo.out g3 (by omega) (by omega) true (by simp))
        clear g3
        go_wp2_with fail
        refine CB.out.mono ?_; rintro e w4 ⟨rfl, k4, rfl⟩
        have HB4 := Lib.hid (below_dn hb.out k4)
        go_wp2_with fail
        refine (awake09 _).mono ?_; rintro e w5 ⟨rfl, hb5⟩
        go_wp2_with fail
        go_ret
        exact ⟨rfl, HB4.out.trans (hb5.mono HB4.out.size)⟩
  · obtain rfl := enc_bad hE hF
    have hne : (F != 0) = true := by rw [bne_iff_ne]; exact hF
    clear hE h1 h2 h3
    go_enter Try.func4, Try.ntmps4
    go_wp2_with fail
    refine C1.out.mono ?_; rintro e w1 ⟨v1, rfl, ho1, hb1⟩
    obtain ⟨a, d, rfl⟩ := own_slice ho1
    have HB := Lib.hid hb1
    clear ho1 hb1
    go_wp2_with fail
    refine (awake09 _).mono ?_; rintro e w5 ⟨rfl, hb5⟩
    go_wp2_with fail
    go_ret
    exact ⟨rfl, HB.out.trans (hb5.mono HB.out.size)⟩

set_option maxHeartbeats 3200000 in
theorem walk (a0 : Option Addr) (len0 cap0 : Nat) (z0 : List Int) (a1 : Option Addr) (len1 cap1 : Nat) (z1 : List Int) (a2 : Option Addr) (len2 cap2 : Nat) (z2 : List Bool) (w : World) (w0 : IsRow .i64 w a0 len0 cap0 z0) (w1 : IsRow .i64 w a1 len1 cap1 z1) (w2 : IsBools w a2 len2 z2) :
    Calls Try.prog 4 #[.slice a0 len0 cap0, .slice a1 len1 cap1, .slice a2 len2 cap2] w fun e w' => e = .returned (.bool true) ∧ Below w.heap.size w w' := by
  obtain ⟨l, hl, hmax, h0⟩ := ints_of w0
  obtain ⟨l2, hl2, hmax2, h1⟩ := ints_of w1
  obtain ⟨hz, hm2, h2⟩ := w2
  subst hl
  subst hl2
  subst hz
  unfold maxLen at hmax hmax2 hm2
  by_cases hlong : 100 < l.length
  · go_enter Try.func4, Try.ntmps4
    go_wp2_with fail
    refine (awake09 _).mono ?_; rintro e w1 ⟨rfl, hb⟩
    go_wp2_with fail
    go_ret
    exact ⟨rfl, hb⟩
  · by_cases hlong2 : 50 < l2.length
    · go_enter Try.func4, Try.ntmps4
      go_wp2_with fail
      refine (awake09 _).mono ?_; rintro e w1 ⟨rfl, hb⟩
      go_wp2_with fail
      go_ret
      exact ⟨rfl, hb⟩
    · by_cases hlong3 : 100 < z2.length
      · go_enter Try.func4, Try.ntmps4
        go_wp2_with fail
        refine (awake09 _).mono ?_; rintro e w1 ⟨rfl, hb⟩
        go_wp2_with fail
        go_ret
        exact ⟨rfl, hb⟩
      · exact back_walk a0 a1 a2 cap0 cap1 cap2 l l2 z2 w (h0 (by omega)) (h1 (by omega)) h2 (by omega) (by omega) (by omega)

theorem lifted (os : Os) (started : os.Started) (H : Type) (enc : TypeId × Value → H) :
    ReturnsInHanded {} Try.checked os 4 .any (Rows.slowBackSpec.pre6 enc Try.prog Try.f4 Rows.slowBackRow.domain false) (Rows.slowBackSpec.post enc Try.prog Try.f4 false true false false) := by
  refine returnsInHanded_of_change (C := Try.checked) own started (by kernel_rfl) Try.func4
    (ChangeSpec.witness6 (enc := enc) (C := Try.checked) false ⟨#[], #[.slice none 0 0, .slice none 0 0, .slice none 0 0], []⟩ 8 (by kernel_rfl) (by kernel_rfl) (by kernel_rfl) (by kernel_rfl)) ?_
  intro W base args ds gs before hval0 hW hcnd _
  have hval : ∀ (j : Nat) t v, Try.f4.params[j]? = some t → args[j]? = some v → Value.okWide Try.prog W .any base t v := hval0
  have hW' := hW
  obtain ⟨p, q, hA0, hV, rfl, hfz, hnd⟩ := hW
  have hA : DataW.TrodAll enc Try.prog W 0 (fun _ => true) true Try.f4.params.toList args.toList ds p := hA0
  rw [Try.params4] at hA hval
  obtain ⟨v0, vs0, d0, ds0, p0, q0, hargs, rfl, rfl, h0, r0⟩ := trodAll_cons hA
  obtain ⟨v1, vs1, d1, ds1, p1, q1, rfl, rfl, rfl, h1, r1⟩ := trodAll_cons r0
  obtain ⟨v2, vs2, d2, ds2, p2, q2, rfl, rfl, rfl, h2, r2⟩ := trodAll_cons r1
  obtain ⟨rfl, rfl, rfl⟩ := trodAll_nil r2
  obtain rfl : args = #[v0, v1, v2] := by cases args; simp_all
  obtain ⟨rfl, rfl⟩ := trodVars_none hV
  obtain ⟨a0, len0, cap0, rfl⟩ := okWide_slice Try.underlying22 (hval 0 22 v0 rfl rfl)
  have k0 := h0
  have lt0 : ∀ x ∈ p0, x.block < W.heap.size := by obtain ⟨m, hm⟩ := k0; exact DataW.trod_lt m _ _ _ hm
  obtain ⟨z0, w0⟩ : ∃ zs, IsRow .i64 W a0 len0 cap0 zs := by
    obtain ⟨fuel, hf⟩ := h0
    rcases open_ints Try.underlying22 Try.underlying3 (by kernel_rfl) hf with ⟨hcs, _⟩ | ⟨x, l, c, zs, hcs, _, hl, hm, hz, _, hcell, hwz⟩
    · simp [Value.cells] at hcs
      obtain ⟨rfl, rfl, rfl⟩ := hcs
      exact ⟨[], .inl ⟨rfl, rfl, rfl, rfl⟩⟩
    · simp [Value.cells] at hcs
      obtain ⟨rfl, rfl, rfl⟩ := hcs
      exact ⟨zs, .inr ⟨_, rfl, hl, hm, by simpa using hz, hcell, hwz⟩⟩
  obtain ⟨a1, len1, cap1, rfl⟩ := okWide_slice Try.underlying22 (hval 1 22 v1 rfl rfl)
  have k1 := h1
  have lt1 : ∀ x ∈ p1, x.block < W.heap.size := by obtain ⟨m, hm⟩ := k1; exact DataW.trod_lt m _ _ _ hm
  obtain ⟨z1, w1⟩ : ∃ zs, IsRow .i64 W a1 len1 cap1 zs := by
    obtain ⟨fuel, hf⟩ := h1
    rcases open_ints Try.underlying22 Try.underlying3 (by kernel_rfl) hf with ⟨hcs, _⟩ | ⟨x, l, c, zs, hcs, _, hl, hm, hz, _, hcell, hwz⟩
    · simp [Value.cells] at hcs
      obtain ⟨rfl, rfl, rfl⟩ := hcs
      exact ⟨[], .inl ⟨rfl, rfl, rfl, rfl⟩⟩
    · simp [Value.cells] at hcs
      obtain ⟨rfl, rfl, rfl⟩ := hcs
      exact ⟨zs, .inr ⟨_, rfl, hl, hm, by simpa using hz, hcell, hwz⟩⟩
  obtain ⟨a2, len2, cap2, rfl⟩ := okWide_slice Try.underlying23 (hval 2 23 v2 rfl rfl)
  have k2 := h2
  have lt2 : ∀ x ∈ p2, x.block < W.heap.size := by obtain ⟨m, hm⟩ := k2; exact DataW.trod_lt m _ _ _ hm
  obtain ⟨z2, w2⟩ : ∃ zs, IsBools W a2 len2 zs := by
    obtain ⟨fuel, hf⟩ := h2
    rcases open_bools Try.underlying23 Try.underlying4 (by kernel_rfl) hf with ⟨hcs, _⟩ | ⟨x, l, c, B, hcs, _, hl, hm, _, hcell⟩
    · simp [Value.cells] at hcs
      obtain ⟨rfl, rfl, rfl⟩ := hcs
      exact ⟨[], rfl, Nat.zero_le _, .inl rfl⟩
    · simp [Value.cells] at hcs
      obtain ⟨rfl, rfl, rfl⟩ := hcs
      exact ⟨(List.range len2).map B, by simp, by omega, .inr ⟨_, rfl, fun i hi => by rw [hcell i (by simp at hi; omega)]; simp at hi; simp [List.getD, hi]⟩⟩
  clear hA0 hval0
  refine (walk a0 len0 cap0 z0 a1 len1 cap1 z1 a2 len2 cap2 z2 W w0 w1 w2).mono fun e W' ⟨he, bel⟩ => ?_
  subst he
  exact ⟨_, rfl, _, _, _, [], _, [], hW', trodAll_mk1 (shut_bool Try.underlying4 _), (trodAll_cons_mk (Below.trod laidOut (by kernel_rfl) (of_decide_eq_true (by kernel_rfl)) k0 bel lt0) (trodAll_cons_mk (Below.trod laidOut (by kernel_rfl) (of_decide_eq_true (by kernel_rfl)) k1 bel lt1) (trodAll_cons_mk (Below.trod laidOut (by kernel_rfl) (of_decide_eq_true (by kernel_rfl)) k2 bel lt2) trodAll_mk0))), rfl, bel.frame _, fun h => by cases h⟩

theorem over : Rows.slowBackRow.holds Try.pinned (OpenSpec.ofChange Rows.slowBackSpec) :=
  OpenClaim.holds_of_wide 4 Try.f4 rfl rfl rfl rfl rfl rfl rfl ⟨rfl, rfl, rfl, rfl, rfl⟩ rfl rfl rfl rfl rfl (by kernel_rfl) Try.func4 (by kernel_rfl)
    (of_decide_eq_true (by kernel_rfl)) (by unfold Func.isWrapper; first | (rw [if_pos (by decide +kernel)]; kernel_rfl) | (rw [if_neg (by decide +kernel)]; exact ⟨rfl, rfl⟩))
    (fun os started H enc _ => lifted os started H enc)

theorem proved : Rows.SlowBackSaid := over
#print axioms proved
end Go.Proofs.Ytlampmedeebekaa.slowBack
