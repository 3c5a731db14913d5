/- It is proved that the law 'RangerDecodes' of the program returns true for every input, with no condition, and leaves what was handed in as it was. The frame was written by a program; the walk is by hand. -/
import Derived.Test.YtkdkedgpchcfpaaRows
import Derived.WalkKit
import Derived.ProofKit
import Derived.OpenShut
import Derived.ShutString
import Derived.ChangeOld
import Derived.Below
import Derived.Test.YtkdkedgpchcfpaaBase
import Derived.Test.YtkdkedgpchcfpaaG12
namespace Go.Proofs.Ytkdkedgpchcfpaa.rangerDecodes
open Go.ChangeShapes Go.WideShapes Go.ChangeAt Go.RowKit Go.Deep
open Go.ChangeMaps (open_string shut_string)
set_option linter.unusedVariables false
set_option maxRecDepth 100000

theorem own : ownKnob Try.prog.godebug = none := by kernel_rfl
theorem laidOut : laidOutB Try.prog = true := by kernel_rfl

/-- What the walk is told of a slice of integers that came in: nil, or a row of 'cap' cells that hold the numbers zs, each fitting its kind. -/
def IsRow (k : IntKind) (w : World) (a : Option Addr) (len cap : Nat) (zs : List Int) : Prop :=
  (a = none ∧ len = 0 ∧ cap = 0 ∧ zs = []) ∨
  ∃ x, a = some x ∧ len ≤ cap ∧ cap ≤ maxLen ∧ zs.length = cap ∧ (∀ i, i < zs.length → w.cell? (x.add i) = some (.int k (zs.getD i 0))) ∧ ∀ n ∈ zs, (Lit.int k n).wf = true

open Range
theorem ints_of {w : World} {a : Option Addr} {len cap : Nat} {zs : List Int} (h : IsRow .i64 w a len cap zs) : ∃ l : List Int, l.length = len ∧ len ≤ maxLen ∧ (l.length ≤ 70368744177664 → IsInts w a l) := by
  rcases h with ⟨rfl, rfl, rfl, rfl⟩ | ⟨x, rfl, hlc, hcm, hz, hc, -⟩
  · exact ⟨[], rfl, Nat.zero_le _, fun _ => ⟨by simp, .inl rfl⟩⟩
  · have e : (zs.take len).length = len := by rw [List.length_take]; omega
    refine ⟨zs.take len, e, by omega, fun h11 => ⟨by omega, .inr ⟨x, rfl, fun i hi => ?_⟩⟩⟩
    rw [e] at hi
    rw [hc i (by omega)]
    simp [List.getD, hi]
def walkD (d : Dec) : List Int → Dec
  | [] => d
  | z :: l => walkD (stepD d z) l
theorem walkD_snoc (d : Dec) (l : List Int) (z : Int) : walkD d (l ++ [z]) = stepD (walkD d l) z := by
  induction l generalizing d with
  | nil => rfl
  | cons q l ih => exact ih _
theorem walkD_fine {d : Dec} (h : Fine d) (l : List Int) : Fine (walkD d l) := by
  induction l generalizing d with
  | nil => exact h
  | cons q l ih => exact ih (stepD_fine h q)
theorem walkD_len (d : Dec) (l : List Int) : (walkD d l).s.length ≤ d.s.length := by
  induction l generalizing d with
  | nil => exact Nat.le_refl _
  | cons q l ih => exact Nat.le_trans (ih _) (stepD_len d q)
set_option maxHeartbeats 6400000 in
theorem dec_walk (s : ByteArray) (a1 : Option Addr) (c1 : Nat) (l : List Int) (w : World) (h1 : IsInts w a1 l) (hs : s.size ≤ 500) (hl : l.length ≤ 500) :
    Calls Try.prog 4 #[.string s, .slice a1 l.length c1] w fun e w' => e = .returned (.bool true) ∧ Below w.heap.size w w' := by
  have g1 : IsL w (.slice a1 l.length c1) l := ⟨_, _, rfl, h1⟩
  obtain ⟨⟨L, E⟩, hr⟩ : ∃ r, decS s.data.toList l = r := ⟨_, rfl⟩
  have hLl : L.length ≤ 500 := by
    unfold decS at hr
    split at hr
    · obtain ⟨rfl, rfl⟩ := hr; simp
    · obtain ⟨rfl, rfl⟩ := hr; rw [undo_len', nats_len]; exact hl
  have hs2 : s.data.toList.length ≤ 1000000 := by
    have : s.data.toList.length = s.size := rfl
    omega
  have C1 := fun W (h' : IsL W (.slice a1 l.length c1) l) => gDecodeT s (by omega) h' (by omega) L E hr
  have C2 := fun W (h' : IsL W (.slice a1 l.length c1) l) => dDecodeT s (by omega) h' (by omega) L E hr
  have C3 := fun W => gNew s (by omega) W
  have C4 := fun W => dNew s.data.toList hs2 W
  rw [sB_of] at C4
  have hEE : ((E : Int) != E) = false := by simp
  have hfl := fresh_len s.data.toList
  obtain ⟨D, hD⟩ : ∃ D, fresh s.data.toList = D := ⟨_, rfl⟩
  have HF := Lib.hid (show Fine D by rw [← hD]; exact fine_fresh _)
  have hDs : D.s.length ≤ 1000000 := by rw [← hD]; omega
  rw [hD] at C3 C4
  have HI := Lib.hid h1
  have C1_ := Lib.hid C1
  have C2_ := Lib.hid C2
  have C3_ := Lib.hid C3
  have C4_ := Lib.hid C4
  have g1_ := Lib.hid g1
  clear C1 C2 C3 C4 g1
  clear hr h1 hs2 hfl hD
  go_enter Try.func4, Try.ntmps4
  go_wp2_with fail
  refine (C1_.out w g1_.out).mono ?_; rintro e w1 ⟨v1, rfl, i1, hb1⟩
  have g1 := Lib.hid (g1_.out.kept hb1)
  have I1 := Lib.hid i1
  have HB1 := Lib.hid hb1
  clear g1_ i1 hb1
  go_wp2_with fail
  refine (C2_.out w1 g1.out).mono ?_; rintro e w2 ⟨v2, rfl, i2, hb2⟩
  have J1 := Lib.hid (I1.out.kept hb2)
  have I2 := Lib.hid i2
  have HB2 := Lib.hid (HB1.out.trans (hb2.mono HB1.out.size))
  clear g1 i2 hb2 I1 HB1
  go_wp2_with fail
  refine (dBoolsT J1.out I2.out (by omega) (by omega) true (by simp)).mono ?_; rintro e w3 ⟨rfl, hb3⟩
  have HB3 := Lib.hid (HB2.out.trans (hb3.mono HB2.out.size))
  clear J1 I2 hb3 HB2
  go_wp2_with fail
  refine (C3_.out _).mono ?_; rintro e w4 ⟨gd, rfl, hd4, hb4, hg4, hg5⟩
  have HB4 := Lib.hid (HB3.out.trans (hb4.mono HB3.out.size))
  have HD4 := Lib.hid hd4
  have hgw : w.heap.size ≤ gd := Nat.le_trans HB3.out.size hg4
  clear hd4 hb4 HB3 hg4
  go_wp2_with fail
  refine (C4_.out _).mono ?_; rintro e w5 ⟨rfl, hb5⟩
  have HB5 := Lib.hid (HB4.out.trans (hb5.mono HB4.out.size))
  have HD5 := Lib.hid (HD4.out.kept hb5 hg5)
  have hsz5 := hb5.size
  clear hb5 HB4 HD4
  go_wp2_with fail
  obtain ⟨g, hg⟩ : ∃ g, w5.heap.size = g := ⟨_, rfl⟩
  obtain ⟨W, hW⟩ : ∃ W, w5.alloc (.cells #[.int .u64 D.a, .int .u64 D.b, .int .u64 D.x, .string (sB D.s)] 40) = W := ⟨_, rfl⟩
  have HR := Lib.hid (show IsR W g D by rw [← hW, ← hg]; exact heap_alloc_new _ _)
  have HB := Lib.hid (show Below w.heap.size w W by rw [← hW]; exact HB5.out.alloc HB5.out.size _)
  have HD := Lib.hid (show IsDec W gd D by rw [← hW]; exact HD5.out.kept ((Below.refl _ _).alloc (Nat.le_refl _) _) (by omega))
  have hgd : gd < g := by omega
  have hgW : g < W.heap.size := by rw [← hW]; simp; omega
  rw [hg, hW]
  clear hW hg HB5 HD5 hg5 hsz5
  have hEE2 := hEE
  clear hEE hEE2
  go_loopw [11] (fun i wr => ∃ k : Nat, k ≤ l.length ∧ i = .int .i64 k ∧ IsDec wr gd (walkD D (l.take k)) ∧ IsR wr g (walkD D (l.take k)) ∧ Below w.heap.size w wr) (fun i _ => l.length - (intOf i).toNat)
  case atStart => exact ⟨0, Nat.zero_le _, rfl, HD.out, HR.out, HB.out⟩
  case round =>
    obtain ⟨k, hk, rfl, hd, hr, hb⟩ := hrel
    by_cases hlt : k < l.length
    · obtain ⟨x, rfl, hxb, hc⟩ := HI.out.at k hlt
      have cx := hc k hlt
      have hxk : (x.add k).block < w.heap.size := by rw [add_block]; exact hxb
      rw [← hb.cell hxk] at cx
      have HT := Lib.hid (take_getD l k hlt)
      obtain ⟨Z, hZ⟩ : ∃ Z, l.getD k 0 = Z := ⟨_, rfl⟩
      rw [hZ] at cx HT
      have hfa := walkD_fine HF.out (l.take k)
      have hwl := walkD_len D (l.take k)
      have HA := Lib.hid (walkD_snoc D (l.take k) Z)
      rw [← HT.out] at HA
      obtain ⟨DK, hDK⟩ : ∃ DK, walkD D (l.take k) = DK := ⟨_, rfl⟩
      rw [hDK] at hd hr HA hfa hwl
      have CB := Lib.hid (fun W (h : IsDec W gd DK) => gBitT W gd DK Z h hfa)
      have CR := Lib.hid (fun W => dBitT DK Z hfa (by omega) W)
      obtain ⟨BT, hBT⟩ : ∃ BT, bitD DK Z = BT := ⟨_, rfl⟩
      rw [hBT] at CB CR
      obtain ⟨EE, hEE⟩ : ∃ EE, errD Z = EE := ⟨_, rfl⟩
      rw [hEE] at CB CR
      obtain ⟨DN, hDN⟩ : ∃ DN, stepD DK Z = DN := ⟨_, rfl⟩
      rw [hDN] at CB CR HA
      have hee : (EE != EE) = false := by simp
      have hbb : (BT != BT) = false := by simp
      have HD1 := Lib.hid hd
      have HR1 := Lib.hid hr
      have HB1 := Lib.hid hb
      clear hd hr hb hZ hDK hBT hEE hDN hfa hwl hc
      go_wp2_with fail
      refine (CB.out _ HD1.out).mono ?_; rintro e w6 ⟨rfl, hd6, hk6⟩
      have hbs1 := HB1.out.size
      have hgx : ¬ (x.add k).block = gd := by omega
      have HD6 := Lib.hid hd6
      have hr6 : IsR w6 g DK := hk6.heap HR1.out (fun e => by have e' : g = gd := e; omega)
      have HB6 := Lib.hid (HB1.out.trans (hk6.below (B := w.heap.size) (fun j hj => ⟨by omega, fun e => by have e' : j = gd := e; omega⟩)))
      have cx6 : w6.cell? (x.add k) = some (.int .i64 Z) := by rw [hk6.cell (by omega) hgx]; exact cx
      obtain ⟨lg, c0, c1, c2, c3, f0, f1, f2, f3⟩ := hr6.cells
      have HR6 := Lib.hid hr6
      have hxk6 : (x.add k).block < w6.heap.size := by have := hk6.size; omega
      clear hd6 hk6 HD1 HR1 HB1 cx hgx hr6
      go_wp2_with fail
      obtain ⟨SZ, hSZ⟩ : ∃ SZ, w6.heap.size = SZ := ⟨_, rfl⟩
      have HSZ := Lib.hid hSZ
      clear hSZ
      go_cut [14, 15, 16] from 53 to 86 (fun s14 s15 s16 wc => ∃ gb, s14 = .pointer (some ⟨gb, 0, none⟩) ∧ s15 = .bool BT ∧ s16 = .int .i64 EE ∧ Below SZ w6 wc ∧ SZ ≤ gb ∧ IsR wc gb DN)
      case first =>
        clear hbb hee
        go_region_with (go_at_call 23; refine (CR.out _).mono ?_; rintro e w2 ⟨rfl, hb2⟩; (first | (have ha2 := any_new hb2; obtain ⟨lga, ⟨a0, a1, a2, a3, b0, b1, b2, b3⟩, h0, h1, h2, h3⟩ := ha2.free; have HHB := Lib.hid (below_new hb2); clear hb2) | (have HHC := Lib.hid hb2; have hszc := hb2.size; clear hb2)))
        all_goals
          go_wp2_with fail
          go_meet
          case rel => first
            | exact ⟨_, rfl, rfl, rfl, by rw [← HSZ.out]; exact below_setR HHB.out (Nat.le_refl _) DN, Nat.le_of_eq HSZ.out.symm, ha2.set DN⟩
            | exact ⟨_, rfl, rfl, rfl, by rw [← HSZ.out]; exact (undrewB HHC.out).alloc (show w6.heap.size ≤ _ from hszc) _, by rw [← HSZ.out]; exact hszc, heap_alloc_new _ _⟩
      case rest =>
        obtain ⟨gb, rfl, rfl, rfl, hb3, hgb, hI⟩ := hcut
        have hz6 := HSZ.out
        have hrg : IsR wc g DK := (hb3.block g (by omega)).trans HR6.out
        obtain ⟨la, a0, a1, a2, a3, b0, b1, b2, b3⟩ := hI.cells
        obtain ⟨lg', d0, d1, d2, d3, e0, e1, e2, e3⟩ := hrg.cells
        have hb3' : Below w6.heap.size w6 wc := by rw [hz6]; exact hb3
        have HR7 := Lib.hid (hrg.any.set DN)
        have HB7 := Lib.hid (below_setR (g := g) (HB6.out.trans (hb3'.mono HB6.out.size)) (by omega) DN)
        have HD7 := Lib.hid ((HD6.out.keepsNot hb3').kept (below_setR (B := g) (g := g) (Below.refl _ _) (Nat.le_refl _) DN) hgd)
        clear hb3 hb3' hI hrg c0 c1 c2 c3 f0 f1 f2 f3 hxk6 cx6 hz6
        go_wp2_with fail
        go_roundw
        case rel => exact ⟨k + 1, by omega, by go_num, by rw [HA.out]; exact HD7.out, by rw [HA.out]; exact HR7.out, HB7.out⟩
        case measure => simp [intOf]; omega
    · obtain rfl : k = l.length := by omega
      have HB1 := Lib.hid hb
      clear hd hr hb
      go_wp2_with fail
      refine (awake45 _).mono ?_; rintro e w6 ⟨rfl, hb6⟩
      go_wp2_with fail
      go_ret
      exact ⟨rfl, HB1.out.trans (hb6.mono HB1.out.size)⟩

set_option maxHeartbeats 6400000 in
theorem walk (a0 : ByteArray) (a1 : Option Addr) (len1 cap1 : Nat) (z1 : List Int) (w : World) (w0 : a0.size ≤ maxLen) (w1 : IsRow .i64 w a1 len1 cap1 z1) :
    Calls Try.prog 4 #[.string a0, .slice a1 len1 cap1] w fun e w' => e = .returned (.bool true) ∧ Below w.heap.size w w' := by
  obtain ⟨l, hl, hmax, h1⟩ := ints_of w1
  clear w1
  subst hl
  unfold maxLen at hmax w0
  by_cases hlong : 500 < a0.size
  · go_enter Try.func4, Try.ntmps4
    go_wp2_with fail
    refine (awake45 _).mono ?_; rintro e w1 ⟨rfl, hb⟩
    go_wp2_with fail
    go_ret
    exact ⟨rfl, hb⟩
  · by_cases hlong2 : 500 < l.length
    · go_enter Try.func4, Try.ntmps4
      go_wp2_with fail
      refine (awake45 _).mono ?_; rintro e w1 ⟨rfl, hb⟩
      go_wp2_with fail
      go_ret
      exact ⟨rfl, hb⟩
    · exact dec_walk a0 a1 cap1 l w (h1 (by omega)) (by omega) (by omega)

theorem lifted (os : Os) (started : os.Started) (H : Type) (enc : TypeId × Value → H) :
    ReturnsInHanded {} Try.checked os 4 .any (Rows.rangerDecodesSpec.pre6 enc Try.prog Try.f4 Rows.rangerDecodesRow.domain false) (Rows.rangerDecodesSpec.post enc Try.prog Try.f4 false true false false) := by
  refine returnsInHanded_of_change (C := Try.checked) own started (by kernel_rfl) Try.func4
    (ChangeSpec.witness6 (enc := enc) (C := Try.checked) false ⟨#[], #[.string ByteArray.empty, .slice none 0 0], []⟩ 8 (by kernel_rfl) (by kernel_rfl) (by kernel_rfl) (by kernel_rfl)) ?_
  intro W base args ds gs before hval0 hW hcnd _
  have hval : ∀ (j : Nat) t v, Try.f4.params[j]? = some t → args[j]? = some v → Value.okWide Try.prog W .any base t v := hval0
  have hW' := hW
  obtain ⟨p, q, hA0, hV, rfl, hfz, hnd⟩ := hW
  have hA : DataW.TrodAll enc Try.prog W 0 (fun _ => true) true Try.f4.params.toList args.toList ds p := hA0
  rw [Try.params4] at hA hval
  obtain ⟨v0, vs0, d0, ds0, p0, q0, hargs, rfl, rfl, h0, r0⟩ := trodAll_cons hA
  obtain ⟨v1, vs1, d1, ds1, p1, q1, rfl, rfl, rfl, h1, r1⟩ := trodAll_cons r0
  obtain ⟨rfl, rfl, rfl⟩ := trodAll_nil r1
  obtain rfl : args = #[v0, v1] := by cases args; simp_all
  obtain ⟨rfl, rfl⟩ := trodVars_none hV
  have k0 := h0
  have lt0 : ∀ x ∈ p0, x.block < W.heap.size := by obtain ⟨m, hm⟩ := k0; exact DataW.trod_lt m _ _ _ hm
  obtain ⟨a0, rfl, rfl, rfl, w0⟩ := open_string Try.underlying9 (hval 0 9 v0 rfl rfl) h0
  obtain ⟨a1, len1, cap1, rfl⟩ := okWide_slice Try.underlying23 (hval 1 23 v1 rfl rfl)
  have k1 := h1
  have lt1 : ∀ x ∈ p1, x.block < W.heap.size := by obtain ⟨m, hm⟩ := k1; exact DataW.trod_lt m _ _ _ hm
  obtain ⟨z1, w1⟩ : ∃ zs, IsRow .i64 W a1 len1 cap1 zs := by
    obtain ⟨fuel, hf⟩ := h1
    rcases open_ints Try.underlying23 Try.underlying3 (by kernel_rfl) hf with ⟨hcs, _⟩ | ⟨x, l, c, zs, hcs, _, hl, hm, hz, _, hcell, hwz⟩
    · simp [Value.cells] at hcs
      obtain ⟨rfl, rfl, rfl⟩ := hcs
      exact ⟨[], .inl ⟨rfl, rfl, rfl, rfl⟩⟩
    · simp [Value.cells] at hcs
      obtain ⟨rfl, rfl, rfl⟩ := hcs
      exact ⟨zs, .inr ⟨_, rfl, hl, hm, by simpa using hz, hcell, hwz⟩⟩
  clear hA0 hval0
  refine (walk a0 a1 len1 cap1 z1 W w0 w1).mono fun e W' ⟨he, bel⟩ => ?_
  subst he
  exact ⟨_, rfl, _, _, _, [], _, [], hW', trodAll_mk1 (shut_bool Try.underlying4 _), (trodAll_cons_mk (Below.trod laidOut (by kernel_rfl) (of_decide_eq_true (by kernel_rfl)) k0 bel lt0) (trodAll_cons_mk (Below.trod laidOut (by kernel_rfl) (of_decide_eq_true (by kernel_rfl)) k1 bel lt1) trodAll_mk0)), rfl, bel.frame _, fun h => by cases h⟩

theorem over : Rows.rangerDecodesRow.holds Try.pinned (OpenSpec.ofChange Rows.rangerDecodesSpec) :=
  OpenClaim.holds_of_wide 4 Try.f4 rfl rfl rfl rfl rfl rfl rfl ⟨rfl, rfl, rfl, rfl, rfl⟩ rfl rfl rfl rfl rfl (by kernel_rfl) Try.func4 (by kernel_rfl)
    (of_decide_eq_true (by kernel_rfl)) (by unfold Func.isWrapper; first | (rw [if_pos (by decide +kernel)]; kernel_rfl) | (rw [if_neg (by decide +kernel)]; exact ⟨rfl, rfl⟩))
    (fun os started H enc _ => lifted os started H enc)

theorem proved : Rows.RangerDecodesSaid := over
#print axioms proved
end Go.Proofs.Ytkdkedgpchcfpaa.rangerDecodes
