/- It is proved that the law 'BitwParts' of the program returns true for every input, with no condition, and leaves what was handed in as it was. The frame was written by a program; the walk is by hand. -/
import Derived.Test.YtnpbjnhjgoafpaaRows
import Derived.WalkKit
import Derived.ProofKit
import Derived.OpenShut
import Derived.ShutString
import Derived.ChangeOld
import Derived.Below
import Derived.Test.YtnpbjnhjgoafpaaBase
import Derived.Test.YtnpbjnhjgoafpaaBwa
namespace Go.Proofs.Ytnpbjnhjgoafpaa.bitwParts
open Go.ChangeShapes Go.WideShapes Go.ChangeAt Go.RowKit Go.Deep
open Go.ChangeMaps (open_string shut_string)
set_option linter.unusedVariables false
set_option maxRecDepth 100000

theorem own : ownKnob Try.prog.godebug = none := by kernel_rfl
theorem laidOut : laidOutB Try.prog = true := by kernel_rfl

open Bits
theorem and_mask (x n : Nat) (hn : n ≤ 56) (hx : x < 2 ^ 64) : bits .and .u64 (x : Int) (IntKind.u64.wrap (IntKind.u64.wrap (2 ^ n) - 1)) = ((x % 2 ^ n : Nat) : Int) := by
  have := and_step x 0 n _ hn hx rfl
  simpa using this
theorem bits_cut (x n k : Nat) (hk : k ≤ n) : bitsOf (x % 2 ^ n % 2 ^ k) k ++ bitsOf (x % 2 ^ n / 2 ^ k) (n - k) = bitsOf (x % 2 ^ n) n := by
  rw [bitsOf_mod (x % 2 ^ n) k]
  conv => rhs; rw [show n = k + (n - k) from by omega, bitsOf_add]
  rw [show k + (n - k) = n from by omega]
theorem div_lt_pow (x n k : Nat) (hk : k ≤ n) (hx : x < 2 ^ n) : x / 2 ^ k < 2 ^ (n - k) := by
  have h : 2 ^ n = 2 ^ k * 2 ^ (n - k) := by rw [← Nat.pow_add, Nat.add_sub_cancel' hk]
  rw [h] at hx
  exact Nat.div_lt_of_lt_mul hx

set_option maxHeartbeats 3200000 in
theorem walk (a0 : Int) (a1 : Int) (a2 : Int) (w : World) (w0 : (Lit.int .u64 a0).wf = true) (w1 : (Lit.int .u8 a1).wf = true) (w2 : (Lit.int .u8 a2).wf = true) :
    Calls Try.prog 4 #[.int .u64 a0, .int .u8 a1, .int .u8 a2] w fun e w' => e = .returned (.bool true) ∧ Below w.heap.size w w' := by
  obtain ⟨n0, n1⟩ := bounds_u8 w1
  obtain ⟨k0, k1⟩ := bounds_u8 w2
  obtain ⟨A, hA⟩ : ∃ A : Nat, a1 % 57 = A := ⟨(a1 % 57).toNat, by omega⟩
  obtain ⟨L, hL⟩ : ∃ L : Nat, a2 % ((A : Int) + 1) = L := ⟨(a2 % ((A : Int) + 1)).toNat, by have := Int.emod_nonneg a2 (show (A : Int) + 1 ≠ 0 by omega); omega⟩
  have hA1 : A ≤ 56 := by omega
  have hL1 : L ≤ A := by have := Int.emod_lt_of_pos a2 (show 0 < (A : Int) + 1 by omega); omega
  obtain ⟨X, hX, hX64⟩ : ∃ X : Nat, a0 = X ∧ X < 2 ^ 64 := ⟨a0.toNat, by have := bounds_u64 w0; omega, by have := bounds_u64 w0; omega⟩
  subst hX
  obtain ⟨Y, hY⟩ : ∃ Y : Nat, X % 2 ^ A = Y := ⟨_, rfl⟩
  have hYlt : Hid (Y < 2 ^ A) := by show _ < _; rw [← hY]; exact Nat.mod_lt _ (Nat.pow_pos (by decide))
  have hY64 : Hid (Y < 2 ^ 64) := Nat.lt_of_le_of_lt (by rw [← hY]; exact Nat.mod_le _ _) hX64
  have HM := Lib.hid (and_mask X A hA1 hX64)
  rw [hY] at HM
  have HC := Lib.hid (bits_cut X A L hL1)
  rw [hY] at HC
  have HY := Lib.hid hY
  have HX := Lib.hid hX64
  have HL := Lib.hid hL
  clear hY hX64
  go_enter Try.func4, Try.ntmps4
  go_wp2_with fail
  rw [HM.out]
  try rw [HL.out]
  refine (wNew _).mono ?_; rintro e v1 ⟨rfl, ha1, hb1, hz1, hf1⟩
  go_wp2_with fail
  refine (wNew _).mono ?_; rintro e v2 ⟨rfl, hc2, hb2, hz2, hf2⟩
  obtain ⟨ha2, hq2⟩ := ha1.keep (S := fun _ => False) (Keeps.of_below hb2) (fun _ _ h => h)
  have hg2 : ∀ k, foot v2 w.heap.size k → w.heap.size ≤ k ∧ k < v1.heap.size := fun k h => ⟨hf1 k ((hq2 k).1 h), foot_lt ha1 k ((hq2 k).1 h)⟩
  have hd2 := hb1.trans (hb2.mono hb1.size)
  have hs1 := hb1.size
  have hs2 := hb2.size
  clear ha1 hb2 hq2 hf1 hb1
  go_wp2_with fail
  rw [hz1] at hc2 hf2 hz2
  have hg2' : ∀ k, foot v2 w.heap.size k → w.heap.size ≤ k ∧ k < w.heap.size + 1 := fun k h => by have := hg2 k h; omega
  clear hg2
  refine (wPut _ _ _ _ Y A ha2 hA1 hYlt.out (by simp [bitsOf_length]; omega)).mono ?_; rintro e v3 ⟨rfl, ha3, hk3, hq3⟩
  obtain ⟨hc3, hp3⟩ := hc2.keep hk3 (fun k h h' => by have := hf2 k h; have := hg2' k h'; omega)
  have hf3 : ∀ k, foot v3 (w.heap.size + 1) k → w.heap.size + 1 ≤ k ∧ k < v2.heap.size := fun k h => ⟨hf2 k ((hp3 k).1 h), foot_lt hc2 k ((hp3 k).1 h)⟩
  obtain ⟨hd3, hg3⟩ := put_frame hd2 hd2.size (fun k h => (hg2' k h).1) hk3 hq3
  have hn3 : ∀ k, foot v3 w.heap.size k → k < w.heap.size + 1 ∨ v2.heap.size ≤ k := fun k h => by
    rcases hq3 k h with h | h
    · exact .inl (hg2' k h).2
    · exact .inr h
  clear hc2 hq3 hp3 hd2 hf2 hg2' ha2
  go_wp2_with fail
  rw [and_mask Y L (by omega) hY64.out]
  refine (wPut _ _ _ _ (Y % 2 ^ L) L hc3 (by omega) (Nat.mod_lt _ (Nat.pow_pos (by decide))) (by simp [bitsOf_length]; omega)).mono ?_; rintro e v4 ⟨rfl, hc4, hk4, hq4⟩
  obtain ⟨ha4, hp4⟩ := ha3.keep hk4 (fun k h h' => by have := hf3 k h'; have := hn3 k h; omega)
  have hs3 := hk3.size
  have hs4 := hk4.size
  obtain ⟨hd4, hf4⟩ := put_frame hd3 hd3.size (fun k h => by have := hf3 k h; omega) hk4 hq4
  have hl3 := foot_lt ha3
  have hn4 : ∀ k, foot v4 w.heap.size k → ¬ foot v4 (w.heap.size + 1) k := fun k h h' => by
    have h1 := (hp4 k).1 h
    rcases hq4 k h' with h2 | h2
    · have := hf3 k h2; have := hn3 k h1; omega
    · have := hl3 k h1; omega
  clear hk3 hg3 hk4 hq4 hp4 hd3 hf3 hn3 hc3 ha3 hl3
  go_wp2_with fail
  have e1 : (Y : Int) / 2 ^ L = ((Y / 2 ^ L : Nat) : Int) := by simp
  have e2 : (A : Int) - (L : Int) = ((A - L : Nat) : Int) := by omega
  rw [e1, e2]
  have E1 := Lib.hid e1; have E2 := Lib.hid e2; clear e1 e2
  refine (wPut _ _ _ _ (Y / 2 ^ L) (A - L) hc4 (by omega) (div_lt_pow Y A L hL1 hYlt.out) (by simp [bitsOf_length]; omega)).mono ?_; rintro e v5 ⟨rfl, hc5, hk5, hq5⟩
  obtain ⟨ha5, hp5⟩ := ha4.keep hk5 (fun k h h' => hn4 k h h')
  obtain ⟨hd5, hf5⟩ := put_frame hd4 hd4.size (fun k h => hf4 k h) hk5 hq5
  rw [List.append_assoc, HC.out] at hc5
  clear hk5 hq5 hp5 hd4 hf4 hn4 hc4 ha4
  go_wp2_with fail
  refine (wBytes _ _ _ _ ha5).mono ?_; rintro e v6 ⟨rfl, hb6⟩
  obtain ⟨ha6, -⟩ := ha5.keep (S := fun _ => False) (Keeps.of_below hb6) (fun _ _ h => h)
  obtain ⟨hc6, -⟩ := hc5.keep (S := fun _ => False) (Keeps.of_below hb6) (fun _ _ h => h)
  have hd6 := hd5.trans (hb6.mono hd5.size)
  clear hb6 hd5 ha5 hc5
  go_wp2_with fail
  refine (wBytes _ _ _ _ hc6).mono ?_; rintro e v7 ⟨rfl, hb7⟩
  obtain ⟨ha7, -⟩ := ha6.keep (S := fun _ => False) (Keeps.of_below hb7) (fun _ _ h => h)
  obtain ⟨hc7, -⟩ := hc6.keep (S := fun _ => False) (Keeps.of_below hb7) (fun _ _ h => h)
  have hd7 := hd6.trans (hb7.mono hd6.size)
  clear hb7 hd6 ha6 hc6
  go_wp2_with fail
  refine (wLen _ _ _ _ ha7).mono ?_; rintro e v8 ⟨rfl, k8, rfl⟩
  go_wp2_with fail
  refine (wLen _ _ _ _ (hc7.drewN k8)).mono ?_; rintro e v9 ⟨rfl, k9, rfl⟩
  go_wp2_with fail
  refine (awake01 _).mono ?_; rintro e v10 ⟨rfl, hb10⟩
  have hd10 : Below w.heap.size w v10 := (below_drewN hd7 _).trans (hb10.mono (by have := hd7.size; simpa using this))
  go_wp2_with fail
  go_ret
  exact ⟨rfl, hd10⟩

theorem lifted (os : Os) (started : os.Started) (H : Type) (enc : TypeId × Value → H) :
    ReturnsInHanded {} Try.checked os 4 .any (Rows.bitwPartsSpec.pre6 enc Try.prog Try.f4 Rows.bitwPartsRow.domain false) (Rows.bitwPartsSpec.post enc Try.prog Try.f4 false true false false) := by
  refine returnsInHanded_of_change (C := Try.checked) own started (by kernel_rfl) Try.func4
    (ChangeSpec.witness6 (enc := enc) (C := Try.checked) false ⟨#[], #[.int .u64 0, .int .u8 0, .int .u8 0], []⟩ 8 (by kernel_rfl) (by kernel_rfl) (by kernel_rfl) (by kernel_rfl)) ?_
  intro W base args ds gs before hval0 hW hcnd _
  have hval : ∀ (j : Nat) t v, Try.f4.params[j]? = some t → args[j]? = some v → Value.okWide Try.prog W .any base t v := hval0
  have hW' := hW
  obtain ⟨p, q, hA0, hV, rfl, hfz, hnd⟩ := hW
  have hA : DataW.TrodAll enc Try.prog W 0 (fun _ => true) true Try.f4.params.toList args.toList ds p := hA0
  rw [Try.params4] at hA hval
  obtain ⟨v0, vs0, d0, ds0, p0, q0, hargs, rfl, rfl, h0, r0⟩ := trodAll_cons hA
  obtain ⟨v1, vs1, d1, ds1, p1, q1, rfl, rfl, rfl, h1, r1⟩ := trodAll_cons r0
  obtain ⟨v2, vs2, d2, ds2, p2, q2, rfl, rfl, rfl, h2, r2⟩ := trodAll_cons r1
  obtain ⟨rfl, rfl, rfl⟩ := trodAll_nil r2
  obtain rfl : args = #[v0, v1, v2] := by cases args; simp_all
  obtain ⟨rfl, rfl⟩ := trodVars_none hV
  have k0 := h0
  have lt0 : ∀ x ∈ p0, x.block < W.heap.size := by obtain ⟨m, hm⟩ := k0; exact DataW.trod_lt m _ _ _ hm
  obtain ⟨a0, rfl, rfl, rfl, w0⟩ := open_int Try.underlying27 (hval 0 27 v0 rfl rfl) h0
  have k1 := h1
  have lt1 : ∀ x ∈ p1, x.block < W.heap.size := by obtain ⟨m, hm⟩ := k1; exact DataW.trod_lt m _ _ _ hm
  obtain ⟨a1, rfl, rfl, rfl, w1⟩ := open_int Try.underlying5 (hval 1 5 v1 rfl rfl) h1
  have k2 := h2
  have lt2 : ∀ x ∈ p2, x.block < W.heap.size := by obtain ⟨m, hm⟩ := k2; exact DataW.trod_lt m _ _ _ hm
  obtain ⟨a2, rfl, rfl, rfl, w2⟩ := open_int Try.underlying5 (hval 2 5 v2 rfl rfl) h2
  clear hA0 hval0
  refine (walk a0 a1 a2 W w0 w1 w2).mono fun e W' ⟨he, bel⟩ => ?_
  subst he
  exact ⟨_, rfl, _, _, _, [], _, [], hW', trodAll_mk1 (shut_bool Try.underlying4 _), (trodAll_cons_mk (Below.trod laidOut (by kernel_rfl) (of_decide_eq_true (by kernel_rfl)) k0 bel lt0) (trodAll_cons_mk (Below.trod laidOut (by kernel_rfl) (of_decide_eq_true (by kernel_rfl)) k1 bel lt1) (trodAll_cons_mk (Below.trod laidOut (by kernel_rfl) (of_decide_eq_true (by kernel_rfl)) k2 bel lt2) trodAll_mk0))), rfl, bel.frame _, fun h => by cases h⟩

theorem over : Rows.bitwPartsRow.holds Try.pinned (OpenSpec.ofChange Rows.bitwPartsSpec) :=
  OpenClaim.holds_of_wide 4 Try.f4 rfl rfl rfl rfl rfl rfl rfl ⟨rfl, rfl, rfl, rfl, rfl⟩ rfl rfl rfl rfl rfl (by kernel_rfl) Try.func4 (by kernel_rfl)
    (of_decide_eq_true (by kernel_rfl)) (by unfold Func.isWrapper; first | (rw [if_pos (by decide +kernel)]; kernel_rfl) | (rw [if_neg (by decide +kernel)]; exact ⟨rfl, rfl⟩))
    (fun os started H enc _ => lifted os started H enc)

theorem proved : Rows.BitwPartsSaid := over
#print axioms proved
end Go.Proofs.Ytnpbjnhjgoafpaa.bitwParts
