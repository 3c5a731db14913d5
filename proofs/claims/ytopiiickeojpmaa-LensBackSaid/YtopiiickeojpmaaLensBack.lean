import Derived.Test.YtopiiickeojpmaaRows
import Derived.WalkKit
import Derived.ProofKit
import Derived.OpenShut
import Derived.ShutString
import Derived.ChangeOld
import Derived.Below
import Derived.Test.YtopiiickeojpmaaJ01
import Derived.Test.YtopiiickeojpmaaJ23
/- It is proved that the law 'LensBack' of the program returns true for every input, with no condition, and leaves what was handed in as it was. The frame was written by a program; the walk is by hand. -/
namespace Go.Proofs.Ytopiiickeojpmaa.lensBack
open Go.ChangeShapes Go.WideShapes Go.ChangeAt Go.RowKit Go.Deep
open Go.ChangeMaps (open_string shut_string)
set_option linter.unusedVariables false
set_option maxRecDepth 100000

theorem own : ownKnob Try.prog.godebug = none := by kernel_rfl
theorem laidOut : laidOutB Try.prog = true := by kernel_rfl

/-- What the walk is told of a slice of integers that came in: nil, or a row of 'cap' cells that hold the numbers zs, each fitting its kind. -/
def IsRow (k : IntKind) (w : World) (a : Option Addr) (len cap : Nat) (zs : List Int) : Prop :=
  (a = none ∧ len = 0 ∧ cap = 0 ∧ zs = []) ∨
  ∃ x, a = some x ∧ len ≤ cap ∧ cap ≤ maxLen ∧ zs.length = cap ∧ (∀ i, i < zs.length → w.cell? (x.add i) = some (.int k (zs.getD i 0))) ∧ ∀ n ∈ zs, (Lit.int k n).wf = true

open Bits hiding packF pack_length
open RunsMath KraftMath CanonMath TurnMath Pm
theorem ints_of {w : World} {a : Option Addr} {len cap : Nat} {zs : List Int} (h : IsRow .i64 w a len cap zs) : ∃ l : List Int, l.length = len ∧ len ≤ maxLen ∧ (l.length ≤ 70368744177664 → IsInts w a l) := by
  rcases h with ⟨rfl, rfl, rfl, rfl⟩ | ⟨x, rfl, hlc, hcm, hz, hc, -⟩
  · exact ⟨[], rfl, Nat.zero_le _, fun _ => ⟨by simp, .inl rfl⟩⟩
  · have e : (zs.take len).length = len := by rw [List.length_take]; omega
    refine ⟨zs.take len, e, by omega, fun h11 => ⟨by omega, .inr ⟨x, rfl, fun i hi => ?_⟩⟩⟩
    rw [e] at hi
    rw [hc i (by omega)]
    simp [List.getD, hi]
set_option maxHeartbeats 3200000 in
theorem lensback_bad (a0 : Option Addr) (c0 n : Nat) (B : ByteArray) (E : Int) (hE : E ≠ 0) (w : World) (hn : n ≤ 1024) (hB : B.size ≤ 100) (CK : ∀ W, Below w.heap.size w W → Calls Try.prog 23 #[.slice a0 n c0] W fun e w' => e = .returned (.int .i64 E) ∧ w' = W) :
    Calls Try.prog 4 #[.slice a0 n c0, .string B] w fun e w' => e = .returned (.bool true) ∧ Below w.heap.size w w' := by
  have CN := Lib.hid (wNew w)
  have CP := Lib.hid (fun (W : World) (g : Nat) (h : Below w.heap.size w W) => cPutBad ⟨g, 0, none⟩ (.slice a0 n c0) E hE W (CK W h))
  have CL := Lib.hid (fun W g B (h : IsWriter W g B []) => show Calls Try.prog 9 #[.pointer (some ⟨g, 0, none⟩)] W fun e w' => e = .returned (.int .i64 0) ∧ ∃ k, w' = W.drewN k from wLen W g B [] h)
  have hb : (E != 0) = true := by rw [bne_iff_ne]; exact hE
  have hni : (n : Int) ≤ 1024 := by omega
  clear hE CK
  go_enter Try.func4, Try.ntmps4
  go_wp2_with fail
  refine CN.out.mono ?_; rintro e w1 ⟨rfl, hw, hbw, hz, hf⟩
  have HW := Lib.hid (show Wr w.heap.size w w1 w.heap.size w.heap.size [] from ⟨hw, hbw, hf⟩)
  have hsz := hbw.size
  have C := Lib.hid (CP.out w1 w.heap.size hbw)
  clear hw hbw hz hf CN CP
  go_wp2_with fail
  refine C.out.mono ?_; rintro e w2 ⟨rfl, h2⟩; rw [h2]; clear h2 w2
  go_wp2_with fail
  refine (CL.out _ _ _ HW.out.wr).mono ?_; rintro e w3 ⟨rfl, k, rfl⟩
  go_wp2_with fail
  refine (awake13 _).mono ?_; rintro e w4 ⟨rfl, hb4⟩
  have HB := Lib.hid ((below_dn HW.out.old k).trans (hb4.mono hsz))
  clear hb4 HW
  go_wp2_with fail
  go_ret
  exact ⟨rfl, HB.out⟩
theorem list_str (S : List UInt8) (B : ByteArray) : (⟨S.toArray⟩ : ByteArray) ++ B = ⟨(S ++ B.data.toList).toArray⟩ := by
  cases B with | mk d => 
  cases d with | mk l =>
  simp [ByteArray.ext_iff]
set_option maxHeartbeats 3200000 in
theorem lensback_ok (a0 : Option Addr) (c0 : Nat) (l : List Int) (B : ByteArray) (w : World) (h0 : l ≠ []) (hl : l.length ≤ 1024) (hok : okB l = true) (hi : IsInts w a0 l) (hB : B.size ≤ 100) :
    Calls Try.prog 4 #[.slice a0 l.length c0, .string B] w fun e w' => e = .returned (.bool true) ∧ Below w.heap.size w w' := by
  have hR : RunsOk (packL l) := pack_ok h0 hl hok
  have hwl : (writeB (packL l) (ofR (packL l))).length ≤ 61 + 14 * 1024 := by
    unfold writeB
    have h1 := runs_len hR (packL l).length (Nat.le_refl _)
    rw [List.take_length] at h1
    have h2 : (headB (ofR (packL l))).length ≤ 61 := by
      unfold headB; rw [headTo_len]; have := headN_le (ofR (packL l)) 19; omega
    have := hR.few
    rw [List.length_append]; omega
  have CRd := Lib.hid (fun W g s rest hs hr => cReadOk W g s l h0 hl hok rest hs hr)
  have CN := Lib.hid (wNew w)
  have HI := Lib.hid hi
  have CP := Lib.hid (fun W g B (h : IsWriter W g B []) (hi : IsInts W a0 l) => cPutOk W g B [] h (by simp) a0 c0 l hi h0 hl hok)
  obtain ⟨b, hb⟩ : ∃ b, writeB (packL l) (ofR (packL l)) = b := ⟨_, rfl⟩
  rw [hb] at CP CRd hwl
  obtain ⟨k, -, hsp, -⟩ := spread_pack b
  have CB := Lib.hid (fun W g B (h : IsWriter W g B b) => wBytes W g B b h)
  have CL := Lib.hid (fun W g B (h : IsWriter W g B b) => wLen W g B b h)
  obtain ⟨L, hL⟩ : ∃ L, b.length = L := ⟨_, rfl⟩
  have hpkl := Bits.pack_length b
  have HST := Lib.hid (list_str (pack b) B)
  obtain ⟨S, hS⟩ : ∃ S, pack b ++ B.data.toList = S := ⟨_, rfl⟩
  have hsp2 : ∃ rest, spread S = b ++ rest := ⟨List.replicate k false ++ spread B.data.toList, by rw [← hS, spread_append, hsp, List.append_assoc]⟩
  obtain ⟨rest, hrest⟩ := hsp2
  have hSl : S.length ≤ 3000 := by rw [← hS, List.length_append, hpkl]; have : B.data.toList.length = B.size := Array.length_toList
                                   omega
  rw [hS] at HST
  rw [hL] at CL CRd hpkl
  have CR := Lib.hid (fun W g (h : IsReader W g S 0) => CRd.out W g S rest hrest h)
  have CRN := Lib.hid (fun W => rNew ⟨S.toArray⟩ (by show S.toArray.size ≤ _; rw [List.size_toArray]; exact Nat.le_trans hSl (by decide)) W)
  have CAT := Lib.hid (fun W g (h : IsReader W g S L) => rAt W g L S h)
  have CC := Lib.hid (fun W => show Calls Try.prog 20 #[.slice none 0 0, .slice none 0 0] W fun e w' => e = .returned (.int .i64 0) ∧ ∃ k, w' = W.drewN k from
    dCost none none 0 0 0 0 [] [] W rfl ⟨by decide, .inl rfl⟩ rfl ⟨by decide, .inl rfl⟩ (by decide))
  have CIN := Lib.hid (fun W v u (h1 : IsL W v l) (h2 : IsL W u l) => show Calls Try.prog 18 #[v, u] W fun e w' => e = .returned (.bool true) ∧ ∃ k, w' = W.drewN k from intsL h1 h2 true (by simp))
  have hni : (l.length : Int) ≤ 1024 := by omega
  clear hR h0 hok hi hb hsp hS CRd hrest
  go_enter Try.func4, Try.ntmps4
  go_wp2_with fail
  refine CN.out.mono ?_; rintro e w1 ⟨rfl, hw, hbw, hz, hf⟩
  have HW := Lib.hid (show Wr w.heap.size w w1 w.heap.size w.heap.size [] from ⟨hw, hbw, hf⟩)
  have hsz := hbw.size
  have C := Lib.hid (CP.out w1 w.heap.size w.heap.size hw (HI.out.kept hbw))
  clear hw hbw hz hf CN CP
  go_wp2_with fail
  refine C.out.mono ?_; rintro e w2 ⟨rfl, hp⟩
  rw [List.nil_append] at hp
  have HW2 := Lib.hid (HW.out.pen hp hsz)
  have hsz2 := Nat.le_trans hsz hp.2.1.size
  clear hp C HW hsz
  go_wp2_with fail
  refine (CL.out _ _ _ HW2.out.wr).mono ?_; rintro e w3 ⟨rfl, kk, h3⟩
  have HW3 := Lib.hid (show Wr w.heap.size w w3 w.heap.size w.heap.size b by rw [h3]; exact HW2.out.below (below_dn (Below.refl _ _) kk) hsz2)
  have hsz3 : w.heap.size ≤ w3.heap.size := HW3.out.old.size
  clear h3 HW2 hsz2 CL
  go_wp2_with fail
  refine (CB.out _ _ _ HW3.out.wr).mono ?_; rintro e w4 ⟨rfl, hb4⟩
  have HB4 := Lib.hid (HW3.out.old.trans (hb4.mono hsz3))
  clear hb4 HW3 CB hsz3
  go_wp2_with fail
  rw [HST.out]
  have hsz4 := HB4.out.size
  refine (CRN.out w4).mono ?_; rintro e w5 ⟨rfl, hr5, hb5, hz5⟩
  obtain ⟨g5, hg5⟩ : ∃ g5, w4.heap.size + 1 = g5 := ⟨_, rfl⟩
  rw [hg5] at hr5 ⊢
  have C5 := Lib.hid (CR.out w5 g5 hr5)
  have HX5 := Lib.hid (And.intro hb5 (And.intro hz5 hg5))
  clear hr5 hb5 hz5 hg5 CR CRN HST
  go_wp2_with fail
  refine C5.out.mono ?_; rintro e w6 ⟨v6, rfl, hk6, ho6, hr6⟩
  have hb6 : Below w4.heap.size w4 w6 := HX5.out.1.trans (hk6.below (B := w4.heap.size) (fun k hk => ⟨by have := HX5.out.2.1; omega, fun e => by have := HX5.out.2.2; omega⟩))
  have HB6 := Lib.hid (HB4.out.trans (hb6.mono hsz4))
  have hsz6 := HB6.out.size
  have HO6 := Lib.hid (OwnS.isL ho6 (by omega))
  have HI6 := Lib.hid (show IsL w6 (.slice a0 l.length c0) l from ⟨_, _, rfl, HI.out.kept HB6.out⟩)
  have HR6 := Lib.hid hr6
  clear hk6 ho6 hr6 hb6 C5 HX5 HB4 hsz4 HI
  go_wp2_with fail
  refine (CIN.out _ _ _ HI6.out HO6.out).mono ?_; rintro e w7 ⟨rfl, k7, h7⟩
  have HR7 := Lib.hid (show IsReader w7 g5 S L by rw [h7]; exact HR6.out.drewN k7)
  have HB7 := Lib.hid (show Below w.heap.size w w7 by rw [h7]; exact below_dn HB6.out k7)
  have hsz7 := HB7.out.size
  clear h7 HR6 HB6 hsz6 HO6 HI6 CIN
  go_wp2_with fail
  refine (CAT.out w7 g5 HR7.out).mono ?_; rintro e w8 ⟨rfl, h8⟩; rw [h8]; clear h8 w8
  go_wp2_with fail
  refine (CC.out w7).mono ?_; rintro e w9 ⟨rfl, k9, h9⟩
  have HB9 := Lib.hid (show Below w.heap.size w w9 by rw [h9]; exact below_dn HB7.out k9)
  have hsz9 := HB9.out.size
  clear h9 HB7 hsz7 HR7
  go_wp2_with fail
  refine (awake13 _).mono ?_; rintro e w10 ⟨rfl, hb10⟩
  have HB := Lib.hid (HB9.out.trans (hb10.mono hsz9))
  clear hb10 HB9
  go_wp2_with fail
  go_ret
  exact ⟨rfl, HB.out⟩

set_option maxHeartbeats 3200000 in
theorem walk (a0 : Option Addr) (len0 cap0 : Nat) (z0 : List Int) (a1 : ByteArray) (w : World) (w0 : IsRow .i64 w a0 len0 cap0 z0) (w1 : a1.size ≤ maxLen) :
    Calls Try.prog 4 #[.slice a0 len0 cap0, .string a1] w fun e w' => e = .returned (.bool true) ∧ Below w.heap.size w w' := by
  obtain ⟨l, hl, hmax, h0⟩ := ints_of w0
  clear w0
  subst hl
  unfold maxLen at hmax
  by_cases hlong : 1024 < l.length
  · go_enter Try.func4, Try.ntmps4
    go_wp2_with fail
    refine (awake13 _).mono ?_; rintro e w1 ⟨rfl, hb⟩
    go_wp2_with fail
    go_ret
    exact ⟨rfl, hb⟩
  · by_cases hs : 100 < a1.size
    · go_enter Try.func4, Try.ntmps4
      go_wp2_with fail
      refine (awake13 _).mono ?_; rintro e w1 ⟨rfl, hb⟩
      go_wp2_with fail
      go_ret
      exact ⟨rfl, hb⟩
    · have hi := h0 (by omega)
      by_cases he : l = []
      · subst he
        exact lensback_bad a0 cap0 0 a1 5 (by decide) w (by decide) (by omega) (fun W _ => cCheckLim a0 cap0 0 (.inl rfl) (by decide) W)
      · have hl0 : l.length ≠ 0 := fun e => he (List.length_eq_zero_iff.1 e)
        rcases hok : okB l with _ | _
        · exact lensback_bad a0 cap0 l.length a1 2 (by decide) w (by omega) (by omega) (fun W hb => cCheckIn a0 cap0 l hl0 (by omega) W (hi.kept hb) 2 (by unfold chkL; rw [if_neg (by omega), if_pos hok]))
        · exact lensback_ok a0 cap0 l a1 w he (by omega) hok hi (by omega)

theorem lifted (os : Os) (started : os.Started) (H : Type) (enc : TypeId × Value → H) :
    ReturnsInHanded {} Try.checked os 4 .any (Rows.lensBackSpec.pre6 enc Try.prog Try.f4 Rows.lensBackRow.domain false) (Rows.lensBackSpec.post enc Try.prog Try.f4 false true false false) := by
  refine returnsInHanded_of_change (C := Try.checked) own started (by kernel_rfl) Try.func4
    (ChangeSpec.witness6 (enc := enc) (C := Try.checked) false ⟨#[], #[.slice none 0 0, .string ByteArray.empty], []⟩ 8 (by kernel_rfl) (by kernel_rfl) (by kernel_rfl) (by kernel_rfl)) ?_
  intro W base args ds gs before hval0 hW hcnd _
  have hval : ∀ (j : Nat) t v, Try.f4.params[j]? = some t → args[j]? = some v → Value.okWide Try.prog W .any base t v := hval0
  have hW' := hW
  obtain ⟨p, q, hA0, hV, rfl, hfz, hnd⟩ := hW
  have hA : DataW.TrodAll enc Try.prog W 0 (fun _ => true) true Try.f4.params.toList args.toList ds p := hA0
  rw [Try.params4] at hA hval
  obtain ⟨v0, vs0, d0, ds0, p0, q0, hargs, rfl, rfl, h0, r0⟩ := trodAll_cons hA
  obtain ⟨v1, vs1, d1, ds1, p1, q1, rfl, rfl, rfl, h1, r1⟩ := trodAll_cons r0
  obtain ⟨rfl, rfl, rfl⟩ := trodAll_nil r1
  obtain rfl : args = #[v0, v1] := by cases args; simp_all
  obtain ⟨rfl, rfl⟩ := trodVars_none hV
  obtain ⟨a0, len0, cap0, rfl⟩ := okWide_slice Try.underlying22 (hval 0 22 v0 rfl rfl)
  have k0 := h0
  have lt0 : ∀ x ∈ p0, x.block < W.heap.size := by obtain ⟨m, hm⟩ := k0; exact DataW.trod_lt m _ _ _ hm
  obtain ⟨z0, w0⟩ : ∃ zs, IsRow .i64 W a0 len0 cap0 zs := by
    obtain ⟨fuel, hf⟩ := h0
    rcases open_ints Try.underlying22 Try.underlying3 (by kernel_rfl) hf with ⟨hcs, _⟩ | ⟨x, l, c, zs, hcs, _, hl, hm, hz, _, hcell, hwz⟩
    · simp [Value.cells] at hcs
      obtain ⟨rfl, rfl, rfl⟩ := hcs
      exact ⟨[], .inl ⟨rfl, rfl, rfl, rfl⟩⟩
    · simp [Value.cells] at hcs
      obtain ⟨rfl, rfl, rfl⟩ := hcs
      exact ⟨zs, .inr ⟨_, rfl, hl, hm, by simpa using hz, hcell, hwz⟩⟩
  have k1 := h1
  have lt1 : ∀ x ∈ p1, x.block < W.heap.size := by obtain ⟨m, hm⟩ := k1; exact DataW.trod_lt m _ _ _ hm
  obtain ⟨a1, rfl, rfl, rfl, w1⟩ := open_string Try.underlying9 (hval 1 9 v1 rfl rfl) h1
  clear hA0 hval0
  refine (walk a0 len0 cap0 z0 a1 W w0 w1).mono fun e W' ⟨he, bel⟩ => ?_
  subst he
  exact ⟨_, rfl, _, _, _, [], _, [], hW', trodAll_mk1 (shut_bool Try.underlying4 _), (trodAll_cons_mk (Below.trod laidOut (by kernel_rfl) (of_decide_eq_true (by kernel_rfl)) k0 bel lt0) (trodAll_cons_mk (Below.trod laidOut (by kernel_rfl) (of_decide_eq_true (by kernel_rfl)) k1 bel lt1) trodAll_mk0)), rfl, bel.frame _, fun h => by cases h⟩

theorem over : Rows.lensBackRow.holds Try.pinned (OpenSpec.ofChange Rows.lensBackSpec) :=
  OpenClaim.holds_of_wide 4 Try.f4 rfl rfl rfl rfl rfl rfl rfl ⟨rfl, rfl, rfl, rfl, rfl⟩ rfl rfl rfl rfl rfl (by kernel_rfl) Try.func4 (by kernel_rfl)
    (of_decide_eq_true (by kernel_rfl)) (by unfold Func.isWrapper; first | (rw [if_pos (by decide +kernel)]; kernel_rfl) | (rw [if_neg (by decide +kernel)]; exact ⟨rfl, rfl⟩))
    (fun os started H enc _ => lifted os started H enc)

theorem proved : Rows.LensBackSaid := over
#print axioms proved
end Go.Proofs.Ytopiiickeojpmaa.lensBack
