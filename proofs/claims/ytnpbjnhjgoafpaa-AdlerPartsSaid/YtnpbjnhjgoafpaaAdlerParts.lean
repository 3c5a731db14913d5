/- It is proved that the law 'AdlerParts' of the program returns true for every input, with no condition. The frame is written by the guide's own program; the walk is by hand. -/
import Derived.Test.YtnpbjnhjgoafpaaRows
import Derived.WalkKit
import Derived.ProofKit
import Derived.OpenShut
import Derived.ShutString
import Derived.Test.YtnpbjnhjgoafpaaAd
namespace Go.Proofs.Ytnpbjnhjgoafpaa.adlerParts
open Go.ChangeShapes Go.WideShapes Go.ChangeAt Go.RowKit
open Go.ChangeMaps (open_string shut_string)
set_option linter.unusedVariables false      -- a walk need not use every 'w<i>' (that an integer argument fits its kind)

theorem own : ownKnob Try.prog.godebug = none := by kernel_rfl

theorem join_split (A B A' B' k : Nat) (hA : A < 65521) (hB : B < 65521) (hA' : A' < 65521) (hB' : B' < 65521) :
    joinN (B * 65536 + A) (B' * 65536 + A') k = ((B + B' + k * ((A + 65520) % 65521)) % 65521) * 65536 + (A + 65520 + A') % 65521 := by
  have e (x y : Nat) (h : y < 65521) : (x * 65536 + y) / 65536 = x := by
    rw [Nat.add_comm, Nat.add_mul_div_right _ _ (by decide), Nat.div_eq_of_lt (by omega)]; omega
  have e' (x y : Nat) (h : y < 65521) : (x * 65536 + y) % 65536 = y := by
    rw [Nat.add_comm, Nat.add_mul_mod_self_right, Nat.mod_eq_of_lt (by omega)]
  unfold joinN
  rw [e _ _ hA, e' _ _ hA, e _ _ hA', e' _ _ hA']

theorem sh1 (a a' x : Nat) (ha : a < 65521) (ha' : a' < 65521) : ((a + x) % 65521 + 65521 - (a' + x) % 65521) % 65521 = (a + 65521 - a') % 65521 := by omega
theorem sh2 (a a' b b' x : Nat) (ha : a < 65521) (ha' : a' < 65521) (hb : b < 65521) (hb' : b' < 65521) :
    ((b + (a + x) % 65521) % 65521 + 65521 - (b' + (a' + x) % 65521) % 65521) % 65521 = ((b + 65521 - b') + (a + 65521 - a')) % 65521 := by omega
theorem sh3 (X R D E : Nat) (h : X = (R + D) % 65521) (hd : D % 65521 = E % 65521) : X = (R + E) % 65521 := by omega
theorem sh4 (X R D2 P Q F G : Nat) (h : X = (R + D2 + P) % 65521) (hm : P % 65521 = Q % 65521) (h2 : D2 % 65521 = (F + G) % 65521) : X = (R + F + (Q + G)) % 65521 := by omega

/-- The run from (a, b) against the run from (a', b'): the first half is greater by a - a', the second by b - b' and so many times that. -/
theorem runA_shift (l : List UInt8) (a b a' b' : Nat) (ha : a < 65521) (hb : b < 65521) (ha' : a' < 65521) (hb' : b' < 65521) :
    (runA a b l).1 = ((runA a' b' l).1 + (a + 65521 - a')) % 65521 ∧ (runA a b l).2 = ((runA a' b' l).2 + (b + 65521 - b') + l.length * (a + 65521 - a')) % 65521 := by
  unfold runA
  induction l generalizing a b a' b' with
  | nil => simp only [List.foldl_nil, List.length_nil]; omega
  | cons c l ih =>
    have h := ih ((a + c.toNat) % 65521) ((b + (a + c.toNat) % 65521) % 65521) ((a' + c.toNat) % 65521) ((b' + (a' + c.toNat) % 65521) % 65521) (Nat.mod_lt _ (by decide)) (Nat.mod_lt _ (by decide)) (Nat.mod_lt _ (by decide)) (Nat.mod_lt _ (by decide))
    simp only [List.foldl_cons, List.length_cons]
    have s1 : stepA (a, b) c = ((a + c.toNat) % 65521, (b + (a + c.toNat) % 65521) % 65521) := rfl
    have s2 : stepA (a', b') c = ((a' + c.toNat) % 65521, (b' + (a' + c.toNat) % 65521) % 65521) := rfl
    rw [s1, s2]
    refine ⟨sh3 _ _ _ _ h.1 (sh1 a a' _ ha ha'), ?_⟩
    rw [Nat.add_mul, Nat.one_mul]
    refine sh4 _ _ _ _ _ _ _ h.2 ?_ (sh2 a a' b b' _ ha ha' hb hb')
    rw [Nat.mul_mod, sh1 a a' _ ha ha', ← Nat.mul_mod]

theorem sh5 (A B C D k n : Nat) (hA : A < 65521) (hB : B < 65521) (hC : C < 65521) (hk : k = n % 65521) :
    (D + (B + 65521 - 0) + n * (A + 65521 - 1)) % 65521 = (B + D + k * ((A + 65520) % 65521)) % 65521 := by
  have e : (n * (A + 65521 - 1)) % 65521 = (k * ((A + 65520) % 65521)) % 65521 := by
    rw [Nat.mul_mod, Nat.mul_mod k, hk, Nat.mod_mod, Nat.mod_mod]; rfl
  generalize n * (A + 65521 - 1) = P at *
  generalize k * ((A + 65520) % 65521) = Q at *
  omega

theorem addL_append (s t : List UInt8) : addL (addL 1 s) t = addL 1 (s ++ t) := by
  have h := runA_lt 1 0 s (by decide) (by decide)
  have hs : addL 1 s = (runA 1 0 s).2 * 65536 + (runA 1 0 s).1 := rfl
  have ht : addL 1 (s ++ t) = (runA 1 0 (s ++ t)).2 * 65536 + (runA 1 0 (s ++ t)).1 := rfl
  have ha : runA 1 0 (s ++ t) = runA (runA 1 0 s).1 (runA 1 0 s).2 t := by unfold runA; rw [List.foldl_append]
  have e : (addL 1 s) % 65536 % 65521 = (runA 1 0 s).1 := by rw [hs, Nat.add_comm, Nat.add_mul_mod_self_right, Nat.mod_eq_of_lt (by omega), Nat.mod_eq_of_lt (by omega)]
  have e' : (addL 1 s) / 65536 % 65521 = (runA 1 0 s).2 := by rw [hs, Nat.add_comm, Nat.add_mul_div_right _ _ (by decide), Nat.div_eq_of_lt (by omega), Nat.zero_add, Nat.mod_eq_of_lt (by omega)]
  rw [ht, ha]; unfold addL; unfold addL at e e'; rw [e, e']

theorem joinN_append (s t : List UInt8) : joinN (addL 1 s) (addL 1 t) (t.length % 65521) = addL 1 (s ++ t) := by
  have h := runA_lt 1 0 s (by decide) (by decide)
  have h' := runA_lt 1 0 t (by decide) (by decide)
  have hs (u : List UInt8) : addL 1 u = (runA 1 0 u).2 * 65536 + (runA 1 0 u).1 := rfl
  have ha : runA 1 0 (s ++ t) = runA (runA 1 0 s).1 (runA 1 0 s).2 t := by unfold runA; rw [List.foldl_append]
  have hh := runA_shift t (runA 1 0 s).1 (runA 1 0 s).2 1 0 h.1 h.2 (by decide) (by decide)
  rw [hs, hs, hs, join_split _ _ _ _ _ h.1 h.2 h'.1 h'.2, ha, hh.1, hh.2, sh5 (runA 1 0 s).1 (runA 1 0 s).2 0 (runA 1 0 t).2 (t.length % 65521) t.length h.1 h.2 (by decide) rfl]
  have e : (runA 1 0 s).1 + 65520 + (runA 1 0 t).1 = (runA 1 0 t).1 + ((runA 1 0 s).1 + 65521 - 1) := by omega
  rw [e]
theorem addL_lt (s : List UInt8) : addL 1 s < 4294967296 := by
  have h := runA_lt 1 0 s (by decide) (by decide)
  have hs : addL 1 s = (runA 1 0 s).2 * 65536 + (runA 1 0 s).1 := rfl
  omega
theorem beq_self_int (a : Int) : (a == a) = true := by simp

/-! ### STEP 1: THE WALK: the Go text returns true. 'Grown w w'': the world has at most new blocks (Derived/RowKit3.lean). Part the cases AHEAD of 'go_enter' where a test parts the walk; take each callee by a contract of your own. -/
theorem walk (a0 : ByteArray) (a1 : ByteArray) (w0 : a0.size ≤ maxLen) (w1 : a1.size ≤ maxLen) (w : World) :
    Calls Try.prog 14 #[.string a0, .string a1] w fun e w' => e = .returned (.bool true) ∧ Grown w w' := by
  by_cases hs : 4000 < a0.size
  · go_enter Try.func14, Try.ntmps14
    go_wp2_with fail
    refine (awake4 _).mono ?_; rintro e w' ⟨rfl, rfl⟩
    go_wp2_with fail
    go_ret
    exact ⟨rfl, Grown.refl _⟩
  · by_cases ht : 4000 < a1.size
    · go_enter Try.func14, Try.ntmps14
      go_wp2_with fail
      refine (awake4 _).mono ?_; rintro e w' ⟨rfl, rfl⟩
      go_wp2_with fail
      go_ret
      exact ⟨rfl, Grown.refl _⟩
    · have h1 := addL_append a0.data.toList a1.data.toList
      have h2 := joinN_append a0.data.toList a1.data.toList
      have hl := addL_lt a0.data.toList
      have hl' := addL_lt a1.data.toList
      have hsz : (a0 ++ a1).size = a0.size + a1.size := ByteArray.size_append
      have hcat : (a0 ++ a1).data.toList = a0.data.toList ++ a1.data.toList := by simp
      have hbig : (a0 ++ a1).size ≤ maxLen := by rw [hsz]; unfold maxLen; omega
      have hlen : a1.data.toList.length = a1.size := by simp
      rw [← hcat, hlen] at h2
      rw [← hcat] at h1
      have HL : Hid (addL 1 a0.data.toList < 4294967296) := hl
      have HL' : Hid (addL 1 a1.data.toList < 4294967296) := hl'
      have H1 := Lib.hid h1; have H2 := Lib.hid h2; have HB := Lib.hid hbig
      clear h1 h2 hl hl' hsz hcat hbig hlen
      go_enter Try.func14, Try.ntmps14
      go_wp2_with fail
      refine (sum_any _ HB.out _).mono ?_; rintro e w' ⟨rfl, rfl⟩
      go_wp2_with fail
      refine (sum_any a0 w0 _).mono ?_; rintro e w' ⟨rfl, rfl⟩
      go_wp2_with fail
      refine (add_any _ HL.out a1 w1 _).mono ?_; rintro e w' ⟨rfl, rfl⟩
      rw [H1.out]
      go_wp2_with fail
      refine (sum_any a0 w0 _).mono ?_; rintro e w' ⟨rfl, rfl⟩
      go_wp2_with fail
      refine (sum_any a1 w1 _).mono ?_; rintro e w' ⟨rfl, rfl⟩
      go_wp2_with fail
      refine (join_any _ _ _ HL.out HL'.out (by omega) _).mono ?_; rintro e w' ⟨rfl, rfl⟩
      rw [show ((a1.size : Int).toNat % 65521) = a1.size % 65521 from rfl, H2.out]
      go_wp2_with fail
      refine (awake4 _).mono ?_; rintro e w' ⟨rfl, rfl⟩
      go_wp2_with fail
      go_ret
      exact ⟨rfl, Grown.refl _⟩

/-! ### THE ROW's STEP: WRITTEN OUT: LEAVE IT -/
set_option maxRecDepth 100000 in
theorem lifted (os : Os) (started : os.Started) (H : Type) (enc : TypeId × Value → H) :
    ReturnsInHanded {} Try.checked os 14 .any (Rows.adlerPartsSpec.pre6 enc Try.prog Try.f14 Rows.adlerPartsRow.domain false) (Rows.adlerPartsSpec.post enc Try.prog Try.f14 false true false false) := by
  refine returnsInHanded_of_change (C := Try.checked) own started (by kernel_rfl) Try.func14
    (ChangeSpec.witness6 (enc := enc) (C := Try.checked) false ⟨#[], #[.string ByteArray.empty, .string ByteArray.empty], []⟩ 8 (by kernel_rfl) (by kernel_rfl) (by kernel_rfl) (by kernel_rfl)) ?_
  intro W base args ds gs before hval0 hW hcnd _
  have hval : ∀ (j : Nat) t v, Try.f14.params[j]? = some t → args[j]? = some v → Value.okWide Try.prog W .any base t v := hval0
  have hW' := hW
  obtain ⟨p, q, hA0, hV, rfl, hfz, hnd⟩ := hW
  have hA : DataW.TrodAll enc Try.prog W 0 (fun _ => true) true Try.f14.params.toList args.toList ds p := hA0
  rw [Try.params14] at hA hval
  obtain ⟨v0, vs0, d0, ds0, p0, q0, hargs, rfl, rfl, h0, r0⟩ := trodAll_cons hA
  obtain ⟨v1, vs1, d1, ds1, p1, q1, rfl, rfl, rfl, h1, r1⟩ := trodAll_cons r0
  obtain ⟨rfl, rfl, rfl⟩ := trodAll_nil r1
  obtain rfl : args = #[v0, v1] := by cases args; simp_all
  obtain ⟨rfl, rfl⟩ := trodVars_none hV
  obtain ⟨a0, rfl, rfl, rfl, w0⟩ := open_string Try.underlying9 (hval 0 9 v0 rfl rfl) h0
  obtain ⟨a1, rfl, rfl, rfl, w1⟩ := open_string Try.underlying9 (hval 1 9 v1 rfl rfl) h1
  clear hA0 hval0
  simp only [List.append_nil] at hW'
  refine (walk a0 a1 w0 w1 W).mono fun e W' ⟨he, hg⟩ => ?_
  subst he
  exact ⟨_, rfl, post_of_same (pa := []) (pv := []) hW' (fun _ _ _ => (trodAll_cons_mk (shut_bool Try.underlying4 _) trodAll_mk0)) (fun sp _ => (trodAll_cons_mk (shut_string Try.underlying9 w0) (trodAll_cons_mk (shut_string Try.underlying9 w1) trodAll_mk0))) (fun _ _ => rfl) rfl
    (hg.frame _) hg.2.1 (ok_one (by kernel_rfl) rfl (okWide_bool_mk Try.underlying4 _))⟩

theorem over : Rows.adlerPartsRow.holds Try.pinned (OpenSpec.ofChange Rows.adlerPartsSpec) :=
  OpenClaim.holds_of_wide 14 Try.f14 rfl rfl rfl rfl rfl rfl rfl ⟨rfl, rfl, rfl, rfl, rfl⟩ rfl rfl rfl rfl rfl (by kernel_rfl) Try.func14 (by kernel_rfl)
    (of_decide_eq_true (by kernel_rfl)) (by unfold Func.isWrapper; first | (rw [if_pos (by decide +kernel)]; kernel_rfl) | (rw [if_neg (by decide +kernel)]; exact ⟨rfl, rfl⟩))
    (fun os started H enc _ => lifted os started H enc)

/-- ████ THE STATEMENT ████ -/
theorem proved : Rows.AdlerPartsSaid :=
  over
#print axioms proved
end Go.Proofs.Ytnpbjnhjgoafpaa.adlerParts
