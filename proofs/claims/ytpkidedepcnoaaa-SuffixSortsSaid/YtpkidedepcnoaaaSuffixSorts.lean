/- It is proved that the law 'SuffixSorts' of the program returns true for every input, with no condition, and leaves what was handed in as it was. The frame was written by a program; the walk is by hand. -/
import Derived.Test.YtpkidedepcnoaaaRows
import Derived.WalkKit
import Derived.ProofKit
import Derived.OpenShut
import Derived.ShutString
import Derived.ChangeOld
import Derived.Below
import Derived.Test.YtpkidedepcnoaaaBase
import Derived.Test.YtpkidedepcnoaaaU12
namespace Go.Proofs.Ytpkidedepcnoaaa.suffixSorts
open Go.ChangeShapes Go.WideShapes Go.ChangeAt Go.RowKit Go.Deep
open Go.ChangeMaps (open_string shut_string)
set_option linter.unusedVariables false
set_option maxRecDepth 100000

theorem own : ownKnob Try.prog.godebug = none := by kernel_rfl
theorem laidOut : laidOutB Try.prog = true := by kernel_rfl

/-- What the walk is told of a slice of integers that came in: nil, or a row of 'cap' cells that hold the numbers zs, each fitting its kind. -/
def IsRow (k : IntKind) (w : World) (a : Option Addr) (len cap : Nat) (zs : List Int) : Prop :=
  (a = none ∧ len = 0 ∧ cap = 0 ∧ zs = []) ∨
  ∃ x, a = some x ∧ len ≤ cap ∧ cap ≤ maxLen ∧ zs.length = cap ∧ (∀ i, i < zs.length → w.cell? (x.add i) = some (.int k (zs.getD i 0))) ∧ ∀ n ∈ zs, (Lit.int k n).wf = true

theorem ints_of {w : World} {a : Option Addr} {len cap : Nat} {zs : List Int} (h : IsRow .i64 w a len cap zs) : ∃ l : List Int, l.length = len ∧ len ≤ maxLen ∧ (l.length ≤ 70368744177664 → IsInts w a l) := by
  rcases h with ⟨rfl, rfl, rfl, rfl⟩ | ⟨x, rfl, hlc, hcm, hz, hc, -⟩
  · exact ⟨[], rfl, Nat.zero_le _, fun _ => ⟨by simp, .inl rfl⟩⟩
  · have e : (zs.take len).length = len := by rw [List.length_take]; omega
    refine ⟨zs.take len, e, by omega, fun h11 => ⟨by omega, .inr ⟨x, rfl, fun i hi => ?_⟩⟩⟩
    rw [e] at hi
    rw [hc i (by omega)]
    simp [List.getD, hi]

set_option maxHeartbeats 6400000 in
theorem walk (a0 : ByteArray) (a1 : Option Addr) (len1 cap1 : Nat) (z1 : List Int) (w : World) (w0 : a0.size ≤ maxLen) (w1 : IsRow .i64 w a1 len1 cap1 z1) :
    Calls Try.prog 3 #[.string a0, .slice a1 len1 cap1] w fun e w' => e = .returned (.bool true) ∧ Below w.heap.size w w' := by
  obtain ⟨l, hl, hlm, hi⟩ := ints_of w1
  by_cases hlong : 400 < a0.size
  · go_enter Try.func3, Try.ntmps3
    go_wp2_with fail
    refine (awake19 _).mono ?_; rintro e w1 ⟨rfl, hb⟩
    go_wp2_with fail
    go_ret
    exact ⟨rfl, hb⟩
  · by_cases hlong2 : 400 < len1
    · have h1 : (400 : Int) < len1 := by omega
      clear hi hl
      go_enter Try.func3, Try.ntmps3
      go_wp2_with fail
      refine (awake19 _).mono ?_; rintro e w1 ⟨rfl, hb⟩
      go_wp2_with fail
      go_ret
      exact ⟨rfl, hb⟩
    · have hi := hi (by omega)
      rw [← sM_self a0] at hlong ⊢
      generalize a0.data.toList = L at *
      rw [sM_size] at hlong
      have hS : (sM L).size = L.length := sM_size L
      have hm1 : (len1 : Int) ≤ 400 := by omega
      have HA := Lib.hid (show IsL w (.slice a1 len1 cap1) l from ⟨a1, cap1, by rw [hl], hi⟩)
      have HLL := Lib.hid (show l.length ≤ 1000000 by omega)
      have CS := Lib.hid (fun W => sortV L W (by omega))
      have DS := Lib.hid (fun W => dSort L W (by omega))
      have CI := Lib.hid (fun (v : Value) (m : List Int) (W : World) (h : IsL W v m) (hm : m.length ≤ 1000000) (B : Bool) (hB : B = true ↔ SufI L m) => isV L h hm (by omega) B hB)
      have hL4 : L.length ≤ 400 := by omega
      clear hi hl hlm
      go_enter Try.func3, Try.ntmps3
      go_wp2_with fail
      refine (DS.out _).mono ?_; rintro e w1 ⟨u, b, rfl, ho, hsb, hb1⟩
      have HU := Lib.hid (ho.isL (by rw [nI_len, hsb.len]; omega))
      have HA := Lib.hid (HA.out.kept hb1)
      have HB := Lib.hid hb1
      clear ho hb1 DS
      go_wp2_with fail
      refine (CS.out _).mono ?_; rintro e w2 ⟨v, a, rfl, hsa, hv, hb2⟩
      obtain rfl := hsa.unique hsb
      have HSA := Lib.hid hsa
      have HBL := Lib.hid (show (nI a).length ≤ 1000000 by rw [nI_len, hsa.len]; omega)
      have HV := Lib.hid hv
      have HU := Lib.hid (HU.out.kept hb2)
      have HA := Lib.hid (HA.out.kept hb2)
      have HB := Lib.hid (HB.out.trans (hb2.mono HB.out.size))
      clear hv hb2 CS hsa hsb
      go_wp2_with fail
      refine (intsV HV.out HU.out true (by simp)).mono ?_; rintro e w3 ⟨rfl, hb3⟩
      have HU := Lib.hid (HU.out.kept hb3)
      have HA := Lib.hid (HA.out.kept hb3)
      have HB := Lib.hid (HB.out.trans (hb3.mono HB.out.size))
      clear hb3 HV
      go_wp2_with fail
      refine (ranksV HA.out HLL.out).mono ?_; rintro e w4 ⟨r1, rfl, hr1, hb4⟩
      have HR := Lib.hid hr1
      have HU := Lib.hid (HU.out.kept hb4)
      have HA := Lib.hid (HA.out.kept hb4)
      have HB := Lib.hid (HB.out.trans (hb4.mono HB.out.size))
      clear hb4 hr1
      go_wp2_with fail
      refine (dRanksV HA.out HLL.out).mono ?_; rintro e w5 ⟨r2, rfl, hr2, hb5⟩
      have HR := Lib.hid (HR.out.kept hb5)
      have HR2 := Lib.hid hr2
      have HU := Lib.hid (HU.out.kept hb5)
      have HA := Lib.hid (HA.out.kept hb5)
      have HB := Lib.hid (HB.out.trans (hb5.mono HB.out.size))
      clear hb5 hr2
      go_wp2_with fail
      refine (intsV HR.out HR2.out true (by simp)).mono ?_; rintro e w6 ⟨rfl, hb6⟩
      have HU := Lib.hid (HU.out.kept hb6)
      have HA := Lib.hid (HA.out.kept hb6)
      have HB := Lib.hid (HB.out.trans (hb6.mono HB.out.size))
      clear hb6 HR HR2
      obtain ⟨B, hB⟩ : ∃ B, decide (l = nI a) = B := ⟨_, rfl⟩
      have HBB := Lib.hid (show B = true ↔ SufI L l by
        rw [← hB, decide_eq_true_iff]
        constructor
        · intro h; exact ⟨a, HSA.out, h⟩
        · rintro ⟨a', ha', e⟩; rw [e, ha'.unique HSA.out]; rfl)
      have HB0 := Lib.hid hB
      clear hB
      go_wp2_with fail
      refine (CI.out _ _ _ HA.out HLL.out B HBB.out).mono ?_; rintro e w7 ⟨rfl, hb7⟩
      have HU := Lib.hid (HU.out.kept hb7)
      have HA := Lib.hid (HA.out.kept hb7)
      have HB := Lib.hid (HB.out.trans (hb7.mono HB.out.size))
      clear hb7
      go_wp2_with fail
      refine (intsV HA.out HU.out B HB0.out.symm).mono ?_; rintro e w8 ⟨rfl, hb8⟩
      have HU := Lib.hid (HU.out.kept hb8)
      have HB := Lib.hid (HB.out.trans (hb8.mono HB.out.size))
      clear hb8 HA
      go_wp2_with fail
      refine (CI.out _ _ _ HU.out HBL.out true ⟨fun _ => ⟨a, HSA.out, rfl⟩, fun _ => rfl⟩).mono ?_; rintro e w9 ⟨rfl, hb9⟩
      have HB := Lib.hid (HB.out.trans (hb9.mono HB.out.size))
      clear hb9 HU
      go_wp2_with fail
      refine (awake19 _).mono ?_; rintro e w10 ⟨rfl, hb10⟩
      have HB := Lib.hid (HB.out.trans (hb10.mono HB.out.size))
      clear hb10
      go_wp2_with fail
      go_ret
      exact ⟨rfl, HB.out⟩

theorem lifted (os : Os) (started : os.Started) (H : Type) (enc : TypeId × Value → H) :
    ReturnsInHanded {} Try.checked os 3 .any (Rows.suffixSortsSpec.pre6 enc Try.prog Try.f3 Rows.suffixSortsRow.domain false) (Rows.suffixSortsSpec.post enc Try.prog Try.f3 false true false false) := by
  refine returnsInHanded_of_change (C := Try.checked) own started (by kernel_rfl) Try.func3
    (ChangeSpec.witness6 (enc := enc) (C := Try.checked) false ⟨#[], #[.string ByteArray.empty, .slice none 0 0], []⟩ 8 (by kernel_rfl) (by kernel_rfl) (by kernel_rfl) (by kernel_rfl)) ?_
  intro W base args ds gs before hval0 hW hcnd _
  have hval : ∀ (j : Nat) t v, Try.f3.params[j]? = some t → args[j]? = some v → Value.okWide Try.prog W .any base t v := hval0
  have hW' := hW
  obtain ⟨p, q, hA0, hV, rfl, hfz, hnd⟩ := hW
  have hA : DataW.TrodAll enc Try.prog W 0 (fun _ => true) true Try.f3.params.toList args.toList ds p := hA0
  rw [Try.params3] at hA hval
  obtain ⟨v0, vs0, d0, ds0, p0, q0, hargs, rfl, rfl, h0, r0⟩ := trodAll_cons hA
  obtain ⟨v1, vs1, d1, ds1, p1, q1, rfl, rfl, rfl, h1, r1⟩ := trodAll_cons r0
  obtain ⟨rfl, rfl, rfl⟩ := trodAll_nil r1
  obtain rfl : args = #[v0, v1] := by cases args; simp_all
  obtain ⟨rfl, rfl⟩ := trodVars_none hV
  have k0 := h0
  have lt0 : ∀ x ∈ p0, x.block < W.heap.size := by obtain ⟨m, hm⟩ := k0; exact DataW.trod_lt m _ _ _ hm
  obtain ⟨a0, rfl, rfl, rfl, w0⟩ := open_string Try.underlying9 (hval 0 9 v0 rfl rfl) h0
  obtain ⟨a1, len1, cap1, rfl⟩ := okWide_slice Try.underlying22 (hval 1 22 v1 rfl rfl)
  have k1 := h1
  have lt1 : ∀ x ∈ p1, x.block < W.heap.size := by obtain ⟨m, hm⟩ := k1; exact DataW.trod_lt m _ _ _ hm
  obtain ⟨z1, w1⟩ : ∃ zs, IsRow .i64 W a1 len1 cap1 zs := by
    obtain ⟨fuel, hf⟩ := h1
    rcases open_ints Try.underlying22 Try.underlying3 (by kernel_rfl) hf with ⟨hcs, _⟩ | ⟨x, l, c, zs, hcs, _, hl, hm, hz, _, hcell, hwz⟩
    · simp [Value.cells] at hcs
      obtain ⟨rfl, rfl, rfl⟩ := hcs
      exact ⟨[], .inl ⟨rfl, rfl, rfl, rfl⟩⟩
    · simp [Value.cells] at hcs
      obtain ⟨rfl, rfl, rfl⟩ := hcs
      exact ⟨zs, .inr ⟨_, rfl, hl, hm, by simpa using hz, hcell, hwz⟩⟩
  clear hA0 hval0
  refine (walk a0 a1 len1 cap1 z1 W w0 w1).mono fun e W' ⟨he, bel⟩ => ?_
  subst he
  exact ⟨_, rfl, _, _, _, [], _, [], hW', trodAll_mk1 (shut_bool Try.underlying4 _), (trodAll_cons_mk (Below.trod laidOut (by kernel_rfl) (of_decide_eq_true (by kernel_rfl)) k0 bel lt0) (trodAll_cons_mk (Below.trod laidOut (by kernel_rfl) (of_decide_eq_true (by kernel_rfl)) k1 bel lt1) trodAll_mk0)), rfl, bel.frame _, fun h => by cases h⟩

theorem over : Rows.suffixSortsRow.holds Try.pinned (OpenSpec.ofChange Rows.suffixSortsSpec) :=
  OpenClaim.holds_of_wide 3 Try.f3 rfl rfl rfl rfl rfl rfl rfl ⟨rfl, rfl, rfl, rfl, rfl⟩ rfl rfl rfl rfl rfl (by kernel_rfl) Try.func3 (by kernel_rfl)
    (of_decide_eq_true (by kernel_rfl)) (by unfold Func.isWrapper; first | (rw [if_pos (by decide +kernel)]; kernel_rfl) | (rw [if_neg (by decide +kernel)]; exact ⟨rfl, rfl⟩))
    (fun os started H enc _ => lifted os started H enc)

theorem proved : Rows.SuffixSortsSaid := over
#print axioms proved
end Go.Proofs.Ytpkidedepcnoaaa.suffixSorts
