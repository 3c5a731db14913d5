import Derived.Test.YtmhjmoeeahepaaaGreatPP19
import Derived.Test.YtmhjmoeeahepaaaGreatPP18
import Derived.Test.YtmhjmoeeahepaaaGreatPP15
import Derived.Test.YtmhjmoeeahepaaaGreatPP10
import Derived.Test.YtmhjmoeeahepaaaGreatPP17
/- Layer 1's awake, and writers that are none. -/
namespace Go.Proofs.YtmhjmoeeahepaaaGreat
open Go.ChangeShapes Go.WideShapes Go.ChangeAt Go.RowKit
set_option linter.unusedVariables false
set_option maxRecDepth 100000
open Bits

theorem foot_lt {w : World} {g B : Nat} {l : List Bool} (h : IsWriter w g B l) : ∀ k, foot w g k → k < w.heap.size := by
  obtain ⟨v, bs, r, n, ⟨hg, hown, hB, hbl⟩, hm, hr, hsp⟩ := h
  intro k hk
  rcases hk with rfl | ⟨v', hv, hb⟩
  · exact block_lt hg
  · rw [cell_in hg 0] at hv
    simp at hv
    subst hv
    exact (hown.lt k hb).2
theorem IsWriter.keep {w w' : World} {g B : Nat} {l : List Bool} {S : Nat → Prop} (h : IsWriter w g B l) (hk : Keeps S w w') (hd : ∀ k, foot w g k → ¬ S k) : IsWriter w' g B l ∧ ∀ k, foot w' g k ↔ foot w g k := by
  have hlt := foot_lt h
  obtain ⟨v, bs, r, n, ⟨hg, hown, hB, hbl⟩, hm, hr, hsp⟩ := h
  have hg' := hk.heap hg (hd g (.inl rfl))
  have c : w.cell? ⟨g, 0, none⟩ = some v := cell_lit hg 0 v rfl
  have c' : w'.cell? ⟨g, 0, none⟩ = some v := cell_lit hg' 0 v rfl
  refine ⟨⟨v, bs, r, n, ⟨hg', hk.ownsRow hown (fun k hb => hd k (.inr ⟨v, c, hb⟩)), Nat.le_trans hB hk.size, hbl⟩, hm, hr, hsp⟩, fun k => ?_⟩
  unfold foot; rw [c, c']
theorem IsWriter.drewN {w : World} {g B : Nat} {l : List Bool} (h : IsWriter w g B l) (k : Nat) : IsWriter (w.drewN k) g B l := h
theorem put_frame {w0 w w' : World} {g n : Nat} (hb : Below n w0 w) (hn : n ≤ w.heap.size) (hf : ∀ k, foot w g k → n ≤ k) (hk : Keeps (foot w g) w w') (hf' : ∀ k, foot w' g k → foot w g k ∨ w.heap.size ≤ k) : Below n w0 w' ∧ ∀ k, foot w' g k → n ≤ k := by
  refine ⟨hb.trans (hk.below (fun k hk' => ⟨Nat.lt_of_lt_of_le hk' hn, fun h => by have := hf k h; omega⟩)), fun k h => ?_⟩
  rcases hf' k h with h | h
  · exact hf k h
  · omega
theorem wAlign (w : World) (g B : Nat) (l : List Bool) (h : IsWriter w g B l) (hl : l.length ≤ 900000000000) : Calls Tryz.prog 16 #[.pointer (some ⟨g, 0, none⟩)] w fun e w' =>
    e = .returned (.int .i64 (lack l.length)) ∧ IsWriter w' g B (l ++ bitsOf 0 (lack l.length)) ∧ Keeps (foot w g) w w' ∧ ∀ k, foot w' g k → foot w g k ∨ w.heap.size ≤ k := by
  have hlk : lack l.length < 8 := by unfold lack; omega
  have Q := Lib.hid (wPut w g B l 0 (lack l.length) h (by omega) (Nat.pow_pos (by decide)) (by omega))
  obtain ⟨v, bs, r, n, ⟨hg, hown, hB, hbl⟩, hm, hr, hsp⟩ := h
  have hc := cell_in hg 2
  simp at hc
  have HE : Hid (-(n : Int) % 8 = ((lack l.length : Nat) : Int)) := by
    show _ = _
    have hlen : l.length = 8 * bs.length + n := by rw [← hsp, List.length_append, spread_length, bitsOf_length]
    unfold lack; rw [hlen]; omega
  clear hg hown hB hbl hr hsp
  go_enter Tryz.func16, Tryz.ntmps16
  go_wp2_with fail
  rw [HE.out]
  refine Q.out.mono ?_; rintro e w1 ⟨rfl, hr, hk, hz⟩
  go_wp2_with fail
  go_ret
  exact ⟨ret_i HE.out, hr, hk, hz⟩
end Go.Proofs.YtmhjmoeeahepaaaGreat

/- Layer 13: the head of a table. -/
namespace Go.Proofs.YtmhjmoeeahepaaaGreat
open Go.ChangeShapes Go.WideShapes Go.ChangeAt Go.RowKit
set_option linter.unusedVariables false
set_option linter.unusedSimpArgs false
set_option maxRecDepth 100000
open Bits hiding packF pack_length
open RunsMath KraftMath CanonMath
/-- A writer, and that nothing else has turned since a world. -/
def PenW (w0 w : World) (g B : Nat) (bits : List Bool) : Prop := IsWriter w g B bits ∧ Keeps (foot w0 g) w0 w ∧ ∀ k, foot w g k → foot w0 g k ∨ w0.heap.size ≤ k
theorem PenW.start {w : World} {g B : Nat} {bits : List Bool} (h : IsWriter w g B bits) : PenW w w g B bits := ⟨h, Keeps.refl _ _, fun k hk => .inl hk⟩
theorem PenW.chain {w0 w1 w2 : World} {g B : Nat} {b1 b2 : List Bool} (h : PenW w0 w1 g B b1) (k : PenW w1 w2 g B b2) : PenW w0 w2 g B b2 :=
  ⟨k.1, h.2.1.trans' k.2.1 (fun j hj hf => by rcases h.2.2 j hf with e | e; (· exact e); (· omega)), fun j hj => by
    rcases k.2.2 j hj with e | e
    · exact h.2.2 j e
    · right; have := h.2.1.size; omega⟩
theorem PenW.below {w0 w w' : World} {g B : Nat} {bits : List Bool} (h : PenW w0 w g B bits) (hb : Below w.heap.size w w') : PenW w0 w' g B bits := by
  obtain ⟨h1, h2⟩ := IsWriter.keep (S := fun _ => False) h.1 (Keeps.of_below hb) (fun _ _ h => h)
  exact h.chain ⟨h1, Keeps.of_below hb, fun k hk => .inl ((h2 k).1 hk)⟩
theorem PenW.cell {w0 w : World} {g B : Nat} {bits : List Bool} (h : PenW w0 w g B bits) {p : Addr} (hp : p.block < w0.heap.size) (hf : ¬ foot w0 g p.block) : w.cell? p = w0.cell? p := h.2.1.cell hp hf
theorem PenW.foot_iff {w w' : World} {g B : Nat} {bits : List Bool} (h : IsWriter w g B bits) (hb : Below w.heap.size w w') : ∀ k, foot w' g k ↔ foot w g k := (IsWriter.keep (S := fun _ => False) h (Keeps.of_below hb) (fun _ _ h => h)).2
theorem PenW.ints {w0 w : World} {g B : Nat} {bits : List Bool} {a : Option Addr} {l : List Int} (h : PenW w0 w g B bits) (hi : IsInts w0 a l) (hf : ∀ x, a = some x → ¬ foot w0 g x.block) : IsInts w a l := by
  refine ⟨hi.1, ?_⟩
  rcases hi.2 with e | ⟨x, rfl, hc⟩
  · exact .inl e
  · refine .inr ⟨x, rfl, fun i hi => ?_⟩
    have h1 := hc i hi
    exact (h.cell (cell_block h1) (by rw [add_block]; exact hf x rfl)).trans h1
theorem PenW.runs {w0 w : World} {g B : Nat} {bits : List Bool} {a : Option Addr} {l : List Run} (h : PenW w0 w g B bits) (hi : IsRuns w0 a l) (hf : ∀ x, a = some x → ¬ foot w0 g x.block) : IsRuns w a l := by
  refine ⟨hi.1, ?_⟩
  rcases hi.2 with e | ⟨x, rfl, hc⟩
  · exact .inl e
  · refine .inr ⟨x, rfl, fun i hi => ?_⟩
    obtain ⟨h1, h2⟩ := hc i hi
    exact ⟨(h.cell (cell_block h1) (by rw [add_block]; exact hf x rfl)).trans h1, (h.cell (cell_block h2) (by show ¬ foot w0 g (x.add (i * 2)).block; rw [add_block]; exact hf x rfl)).trans h2⟩
theorem szInt (w : World) : (sizeOf 3).run Tryz.prog w = .ok 1 w := by kernel_rfl
theorem slA (K g : Nat) (hK : K ≤ 19) (w : World) : (Instr.sliceAt 123 (.pointer (some ⟨g, 0, none⟩)) none (some (.int .i64 (K : Int))) none).run Tryz.prog w = .ok (.slice (some ⟨g, 0, none⟩) K 19) w := by
  have eA : Tryz.prog.arrayLen 123 = 19 := by kernel_rfl
  have eE : Tryz.prog.elem 123 = 3 := by kernel_rfl
  have ht : Tryz.prog.underlying 123 = some (.array (Tryz.prog.arrayLen 123) (Tryz.prog.elem 123)) := by kernel_rfl
  rw [run_sliceAt_array_h (P := Tryz.prog) w 123 ⟨g, 0, none⟩ ht .i64 (K : Int) (by omega) (by rw [eA]; omega), eE, szInt, eA]
  have e3 : ((K : Int)).toNat = K := by omega
  simp only [Result.andThen, slicedAt, e3]
  simp [Addr.add]
set_option maxHeartbeats 6400000 in
theorem cPutHead (w0 : World) (g B : Nat) (bits : List Bool) (h : IsWriter w0 g B bits) (hbl : bits.length ≤ 1000000) (a : Option Addr) (c : Nat) (o : List Int) (hl : o.length = 19) (ho : IsInts w0 a o) (hb7 : ∀ i, 0 ≤ o.getD i 0 ∧ o.getD i 0 ≤ 7) (hf : ∀ x, a = some x → ¬ foot w0 g x.block) :
    Calls Tryz.prog 45 #[.pointer (some ⟨g, 0, none⟩), .slice a 19 c] w0 fun e w' => e = .returned (.tuple #[]) ∧ PenW w0 w' g B (bits ++ headB o) := by
  obtain ⟨Z, hZs, hz, hi⟩ := arr19
  have HSZ : Hid ((Tryz.prog.info? 123).map (·.size) = some (arrI placesI).size) := by show _ = _; rw [hi, placesA_size]
  have HZS : Hid (Z.size = (arrI placesI).size) := by show _ = _; rw [hZs, placesA_size]
  have HONE := Lib.hid (arrI_one placesI)
  have HPC := Lib.hid (fun W gs (h : PlAt W gs) i hi => h.cell i hi)
  have HPK := Lib.hid (fun (W : World) => show PlAt (W.alloc (.cells (arrI placesI) 123)) W.heap.size from heap_alloc_new W _)
  have CO := Lib.hid (fun W => cOrder13 W)
  obtain ⟨T, hTT⟩ : ∃ T, arrI placesI = T := ⟨_, rfl⟩
  rw [hTT] at HSZ HZS HONE HPK CO
  have HW0 := Lib.hid h
  have HO := Lib.hid ho
  have HF := Lib.hid hf
  have HB7 := Lib.hid hb7
  have HL := Lib.hid hl
  have hgl : g < w0.heap.size := by have := foot_lt h g (.inl rfl); exact this
  obtain ⟨xa, rfl, -, -⟩ := ho.at 0 (by omega)
  clear hi hZs hTT h ho hf hb7 hl
  go_enter Tryz.func45, Tryz.ntmps45
  go_wp2_with fail
  refine (CO.out _).mono ?_; rintro e w1 ⟨rfl, hb1⟩
  have HP1 := Lib.hid ((PenW.start HW0.out).below hb1)
  have HFI := Lib.hid (PenW.foot_iff HW0.out hb1)
  have hsz1 := hb1.size
  have HO1 := Lib.hid (HO.out.kept hb1)
  clear hb1 CO
  go_wp2_with (first
    | (refine wpList_store_row rfl 123 (.tmp 4) (.tmp 8) rfl w1.heap.size T rfl rfl 123 Z (heap_alloc_new w1 _) HSZ.out HZS.out HONE.out ?_; rw [setRow_last])
    | fail)
  have hAL : Below w1.heap.size w1 (w1.alloc (.cells T 123)) := (Below.refl _ _).alloc (Nat.le_refl _) _
  have HP2 := Lib.hid (HP1.out.below hAL)
  have HPL := Lib.hid (HPK.out w1)
  have hfi2 := PenW.foot_iff HP1.out.1 hAL
  have hfg : ¬ foot (w1.alloc (.cells T 123)) g w1.heap.size := fun e => by
    have := foot_lt HP1.out.1 _ ((hfi2 _).1 e)
    omega
  have HFO := Lib.hid (show ∀ x, some xa = some x → ¬ foot (w1.alloc (.cells T 123)) g x.block from fun x hx e => HF.out x hx ((HFI.out _).1 ((hfi2 _).1 e)))
  have HO2 := Lib.hid (HO1.out.alloc (.cells T 123))
  obtain ⟨gs, hgs⟩ : ∃ gs, w1.heap.size = gs := ⟨_, rfl⟩
  obtain ⟨w2, hw2⟩ : ∃ w2, w1.alloc (.cells T 123) = w2 := ⟨_, rfl⟩
  rw [hw2] at HP2 HPL hfg HFO HO2 ⊢
  rw [hgs] at HPL hfg ⊢
  have HFG := Lib.hid hfg
  have HST := Lib.hid (PenW.start HP2.out.1)
  have hgl2 : gs < w2.heap.size := block_lt HPL.out
  clear hAL hfi2 hfg hgs hw2 HP1 HFI HO1 HO HF HW0 HPK HSZ HZS HONE hsz1
  go_wp2_with fail
  go_loopw [5] (fun mv wr => ∃ m : Nat, mv = .int .i64 m ∧ 4 ≤ m ∧ m ≤ 19 ∧ Hid (headN o m = headN o 19) ∧ wr = w2) (fun mv _ => (intOf mv).toNat)
  case atStart => exact ⟨19, rfl, by omega, by omega, Lib.hid rfl, rfl⟩
  case round =>
    obtain ⟨m, rfl, hm4, hm19, hN, rfl⟩ := hrel
    obtain ⟨k, rfl⟩ : ∃ k, m = k + 1 := ⟨m - 1, by omega⟩
    by_cases h4 : 4 < k + 1
    · have hp19 := places_lt k (by omega)
      have cp := HPC.out _ _ HPL.out k (by omega)
      obtain ⟨xa', he, -, cxa⟩ := HO2.out.at (placesN.getD k 0) (by rw [HL.out]; exact hp19)
      injection he with he
      subst he
      have co := cxa (placesN.getD k 0) (by rw [HL.out]; exact hp19)
      have hst : headN o (k + 1) = if 4 < k + 1 ∧ o.getD (placesN.getD k 0) 0 = 0 then headN o k else k + 1 := rfl
      obtain ⟨p, hp⟩ : ∃ p, placesN.getD k 0 = p := ⟨_, rfl⟩
      rw [hp] at hp19 cp co hst
      obtain ⟨V, hV⟩ : ∃ V, o.getD p 0 = V := ⟨_, rfl⟩
      rw [hV] at co hst
      have h4i : (4 : Int) < (k : Int) + 1 := by omega
      have hw1 : IntKind.i64.wrap ((k : Int) + 1 - 1) = (k : Int) := by rw [IntKind.wrap_i64]; omega
      have hk1 : (k : Int) + 1 - 1 = (k : Int) := by omega
      have hki : (k : Int) < 19 := by omega
      have hpi : (p : Int) < 19 := by omega
      have hk0 : (0 : Int) ≤ (k : Int) := by omega
      have hp0 : (0 : Int) ≤ (p : Int) := by omega
      clear cxa hp hV
      by_cases hz0 : V = 0
      · subst hz0
        rw [if_pos ⟨h4, rfl⟩] at hst
        have HN2 := Lib.hid (hst.symm.trans hN.out)
        clear hst
        go_wp2_with fail
        exact ⟨⟨k, rfl, by omega, by omega, HN2, by first | rfl | trivial⟩, by simp [intOf]⟩
      · rw [if_neg (fun e => hz0 e.2)] at hst
        have hzb : (V == 0) = false := by rw [beq_eq_false_iff_ne]; exact hz0
        have HNN := Lib.hid (hN.out.symm.trans hst)
        clear hst hz0
        go_wp2_with fail
        rw [show ((k : Int) + 1 - 4) = ((k + 1 - 4 : Nat) : Int) by omega]
        refine (wPut wr g B bits (k + 1 - 4) 4 HST.out.1 (by decide) (by omega) (by omega)).mono ?_; rintro e w3 ⟨rfl, hp3⟩
        obtain ⟨wo, rfl⟩ : ∃ wo : World, wo = wr := ⟨_, rfl⟩
        have HP3 := Lib.hid (show PenW wo w3 g B (bits ++ headTo o (k + 1) 0) by
          have e : headTo o (k + 1) 0 = bitsOf (k + 1 - 4) 4 := by unfold headTo; simp
          rw [e]; exact hp3)
        have hk19 : (k : Int) + 1 ≤ 19 := by omega
        have hsl := fun W => slA (k + 1) gs (by omega) W
        rw [show (((k + 1 : Nat)) : Int) = (k : Int) + 1 by omega] at hsl
        clear hp3
        go_wp2_with fail
        go_loopw [31] (fun iv wr => ∃ j : Nat, iv = .int .i64 j ∧ j ≤ k + 1 ∧ Hid (PenW wo wr g B (bits ++ headTo o (k + 1) j))) (fun iv _ => (k + 1) - (intOf iv).toNat)
        case atStart => exact ⟨0, rfl, Nat.zero_le _, HP3⟩
        case round =>
          clear HP3
          obtain ⟨j, rfl, hj, hp⟩ := hrel
          by_cases hjk : j < k + 1
          · have hp19 := places_lt j (by omega)
            have cp := (hp.out.cell (p := ⟨gs, j, none⟩) hgl2 HFG.out).trans (HPC.out _ _ HPL.out j (by omega))
            obtain ⟨xa', he, -, cxa⟩ := (hp.out.ints HO2.out HFO.out).at (placesN.getD j 0) (by rw [HL.out]; exact hp19)
            injection he with he
            subst he
            have co := cxa (placesN.getD j 0) (by rw [HL.out]; exact hp19)
            have hlb := headTo_len o (k + 1) j
            have hnx := headTo_next o (k + 1) j
            have hv7 := HB7.out (placesN.getD j 0)
            have hvl : o.getD (placesN.getD j 0) 0 = ((len o (placesN.getD j 0) : Nat) : Int) := by unfold len; omega
            rw [hvl] at co
            obtain ⟨X, hX⟩ : ∃ X, len o (placesN.getD j 0) = X := ⟨_, rfl⟩
            have hX7 : X ≤ 7 := by rw [← hX]; unfold len; omega
            have hlbj : lenB o j = bitsOf X 3 := by unfold lenB; rw [hX]
            rw [hlbj] at hnx
            rw [hX] at co
            obtain ⟨p, hpp⟩ : ∃ p, placesN.getD j 0 = p := ⟨_, rfl⟩
            rw [hpp] at hp19 cp co
            have HNX := Lib.hid hnx
            have HLB := Lib.hid hlb
            have hji : (j : Int) < (k : Int) + 1 := by omega
            have hpi : (p : Int) < 19 := by omega
            have hj0 : (0 : Int) ≤ (j : Int) := by omega
            have hp0 : (0 : Int) ≤ (p : Int) := by omega
            have hu : IntKind.u64.wrap (X : Int) = (X : Int) := IntWalk.u64_in _ (by omega)
            clear cxa hnx hlb hv7 hvl hX hlbj hpp
            go_wp2_with fail
            refine (wPut wr g B (bits ++ headTo o (k + 1) j) X 3 hp.out.1 (by decide) (by omega) (by rw [List.length_append, HLB.out]; omega)).mono ?_; rintro e w5 ⟨rfl, hp5⟩
            have HP5 := Lib.hid (show PenW wo w5 g B (bits ++ headTo o (k + 1) (j + 1)) by
              rw [HNX.out, ← List.append_assoc]; exact hp.out.chain hp5)
            clear hp5
            go_wp2_with fail
            go_roundw
            case rel => exact ⟨j + 1, by go_num, by omega, HP5⟩
            case measure => simp [intOf]; omega
          · obtain rfl : j = k + 1 := by omega
            have hji : ¬ (k : Int) + 1 < (k : Int) + 1 := by omega
            have HE := Lib.hid (show headTo o (k + 1) (k + 1) = headB o by unfold headB; rw [HNN.out])
            go_wp2_with fail
            go_end0
            exact ⟨rfl, by rw [← HE.out]; exact HP2.out.chain hp.out⟩
    · have h4i : ¬ (4 : Int) < (k : Int) + 1 := by omega
      have HNN := Lib.hid (show headN o 19 = k + 1 from by
        have hk : k = 3 := by omega
        subst hk
        have := hN.out
        rw [← this]; unfold headN; rw [if_neg (fun e => h4 e.1)])
      go_wp2_with fail
      rw [show ((k : Int) + 1 - 4) = ((k + 1 - 4 : Nat) : Int) by omega]
      refine (wPut wr g B bits (k + 1 - 4) 4 HST.out.1 (by decide) (by omega) (by omega)).mono ?_; rintro e w3 ⟨rfl, hp3⟩
      obtain ⟨wo, rfl⟩ : ∃ wo : World, wo = wr := ⟨_, rfl⟩
      have HP3 := Lib.hid (show PenW wo w3 g B (bits ++ headTo o (k + 1) 0) by
        have e : headTo o (k + 1) 0 = bitsOf (k + 1 - 4) 4 := by unfold headTo; simp
        rw [e]; exact hp3)
      have hk19 : (k : Int) + 1 ≤ 19 := by omega
      have hsl := fun W => slA (k + 1) gs (by omega) W
      rw [show (((k + 1 : Nat)) : Int) = (k : Int) + 1 by omega] at hsl
      clear hp3
      go_wp2_with fail
      go_loopw [31] (fun iv wr => ∃ j : Nat, iv = .int .i64 j ∧ j ≤ k + 1 ∧ Hid (PenW wo wr g B (bits ++ headTo o (k + 1) j))) (fun iv _ => (k + 1) - (intOf iv).toNat)
      case atStart => exact ⟨0, rfl, Nat.zero_le _, HP3⟩
      case round =>
        clear HP3
        obtain ⟨j, rfl, hj, hp⟩ := hrel
        by_cases hjk : j < k + 1
        · have hp19 := places_lt j (by omega)
          have cp := (hp.out.cell (p := ⟨gs, j, none⟩) hgl2 HFG.out).trans (HPC.out _ _ HPL.out j (by omega))
          obtain ⟨xa', he, -, cxa⟩ := (hp.out.ints HO2.out HFO.out).at (placesN.getD j 0) (by rw [HL.out]; exact hp19)
          injection he with he
          subst he
          have co := cxa (placesN.getD j 0) (by rw [HL.out]; exact hp19)
          have hlb := headTo_len o (k + 1) j
          have hnx := headTo_next o (k + 1) j
          have hv7 := HB7.out (placesN.getD j 0)
          have hvl : o.getD (placesN.getD j 0) 0 = ((len o (placesN.getD j 0) : Nat) : Int) := by unfold len; omega
          rw [hvl] at co
          obtain ⟨X, hX⟩ : ∃ X, len o (placesN.getD j 0) = X := ⟨_, rfl⟩
          have hX7 : X ≤ 7 := by rw [← hX]; unfold len; omega
          have hlbj : lenB o j = bitsOf X 3 := by unfold lenB; rw [hX]
          rw [hlbj] at hnx
          rw [hX] at co
          obtain ⟨p, hpp⟩ : ∃ p, placesN.getD j 0 = p := ⟨_, rfl⟩
          rw [hpp] at hp19 cp co
          have HNX := Lib.hid hnx
          have HLB := Lib.hid hlb
          have hji : (j : Int) < (k : Int) + 1 := by omega
          have hpi : (p : Int) < 19 := by omega
          have hj0 : (0 : Int) ≤ (j : Int) := by omega
          have hp0 : (0 : Int) ≤ (p : Int) := by omega
          have hu : IntKind.u64.wrap (X : Int) = (X : Int) := IntWalk.u64_in _ (by omega)
          clear cxa hnx hlb hv7 hvl hX hlbj hpp
          go_wp2_with fail
          refine (wPut wr g B (bits ++ headTo o (k + 1) j) X 3 hp.out.1 (by decide) (by omega) (by rw [List.length_append, HLB.out]; omega)).mono ?_; rintro e w5 ⟨rfl, hp5⟩
          have HP5 := Lib.hid (show PenW wo w5 g B (bits ++ headTo o (k + 1) (j + 1)) by
            rw [HNX.out, ← List.append_assoc]; exact hp.out.chain hp5)
          clear hp5
          go_wp2_with fail
          go_roundw
          case rel => exact ⟨j + 1, by go_num, by omega, HP5⟩
          case measure => simp [intOf]; omega
        · obtain rfl : j = k + 1 := by omega
          have hji : ¬ (k : Int) + 1 < (k : Int) + 1 := by omega
          have HE := Lib.hid (show headTo o (k + 1) (k + 1) = headB o by unfold headB; rw [HNN.out])
          go_wp2_with fail
          go_end0
          exact ⟨rfl, by rw [← HE.out]; exact HP2.out.chain hp.out⟩
end Go.Proofs.YtmhjmoeeahepaaaGreat

/- Layer 8: the codes, as a row of the call's own. -/
namespace Go.Proofs.YtmhjmoeeahepaaaGreat
open Go.ChangeShapes Go.WideShapes Go.ChangeAt Go.RowKit
set_option linter.unusedVariables false
set_option maxRecDepth 100000
open KraftMath CanonMath
set_option maxHeartbeats 3200000 in
theorem cCodesO (a : Option Addr) (c : Nat) (l : List Int) (w : World) (h : IsInts w a l) (hE : check l 16 = 0) :
    Calls Tryz.prog 44 #[.slice a l.length c] w fun e w' => ∃ v, e = .returned (.tuple #[v, .int .i64 0]) ∧ OwnI w.heap.size w' v (codesL l) ∧ Below w.heap.size w w' := by
  have C := kCheck_any a c 16 l w h
  · have hok := (check_ok l 16).1 hE
    have hO : codesL l = codeTo l l.length := by unfold codesL; rw [if_pos hE]
    have hll := hok.2.2.1
    have hg := fun k (hk : k < l.length) => hok.2.2.2.1 (l.getD k 0) (by simp [List.getD_eq_getElem?_getD, hk])
    have C2 := fun n => cCounts a c l (w.drewN n) h hok.2.2.2.1
    have C3 := cFirsts l _ rfl (by omega)
    rw [nxtA_start] at C3
    rw [hE] at C
    rw [hO]
    obtain ⟨hz, hi⟩ := arr_zero
    have HSZ : Hid ((Tryz.prog.info? 120).map (·.size) = some (arrI (nxtA l 0)).size) := by show _ = _; rw [hi, arrI_size, nxtA_len]
    have HZS : Hid ((arrI (List.replicate 17 0)).size = (arrI (nxtA l 0)).size) := by show _ = _; rw [arrI_size, arrI_size, nxtA_len, List.length_replicate]
    have HONE := Lib.hid (arrI_one (nxtA l 0))
    have HAN := Lib.hid (fun X => ArrAt.new X (nxtA l 0))
    obtain ⟨Z, hZ⟩ : ∃ Z, arrI (List.replicate 17 (0 : Int)) = Z := ⟨_, rfl⟩
    rw [hZ] at hz HZS
    have C_ := Lib.hid C
    have C2_ := Lib.hid C2
    have C3_ := Lib.hid C3
    have h_ := Lib.hid h
    have hg_ := Lib.hid hg
    clear C C2 C3 h hg
    clear hZ hi hok hE hO
    go_enter Tryz.func44, Tryz.ntmps44
    go_wp2_with fail
    refine C_.out.mono ?_; rintro e w0 ⟨rfl, n0, rfl⟩
    go_wp2_with fail
    refine (C2_.out n0).mono ?_; rintro e w1 ⟨rfl, hb1⟩
    have hb1 : Below w.heap.size w w1 := (below_dn (Below.refl _ w) n0).trans hb1
    go_wp2_with fail
    refine (C3_.out w1).mono ?_; rintro e w2 ⟨rfl, hb2⟩
    have hb2 : Below w.heap.size w w2 := hb1.trans (hb2.mono hb1.size)
    clear hb1
    have hnew : Hid ((w2.alloc (.cells Z 120)).heap[w2.heap.size]? = some (.cells Z 120 (0, 0))) := heap_alloc_new w2 _
    have HT := Lib.hid (HAN.out w2)
    obtain ⟨T, hT⟩ : ∃ T, arrI (nxtA l 0) = T := ⟨_, rfl⟩
    rw [hT] at HSZ HZS HONE
    have HTT := Lib.hid hT
    rw [hT]
    clear hT
    have HLl := Lib.hid (show l.length ≤ 1099511627776 by omega)
    go_wp2_with (first | (refine wpList_store_row rfl 120 (.tmp 5) (.tmp 16) rfl w2.heap.size T rfl rfl 120 Z hnew.out HSZ.out HZS.out HONE.out ?_; rw [setRow_last]) | (refine make_int rfl (.tmp 18) (.tmp 18) rfl .i64 .i64 _ _ l.length rfl rfl rfl rfl HLl.out ?_; intro w3 hown hb3 hsz3))
    rw [HTT.out] at HT
    have HA3 := Lib.hid (HT.out.kept hb3)
    have hbs2 := hb2.size
    have hb3 : Below w.heap.size w w3 := (hb2.alloc hb2.size _).trans (hb3.mono (by simp; omega))
    simp only [World.size_alloc] at hown hsz3
    rw [← codeTo_zero] at hown
    have hown_ := Lib.hid hown
    clear hown
    clear hz C_ C2_ C3_ hnew HAN HZS HONE HSZ HT HTT hb2
    go_wp2
    go_loopw [22] (fun i wr => ∃ k : Nat, k ≤ l.length ∧ i = .int .i64 k ∧ ArrAt wr w2.heap.size (nxtA l k) ∧ OwnI (w2.heap.size + 1) wr (.slice (some ⟨w2.heap.size + 1, 0, none⟩) l.length l.length) (codeTo l k) ∧ Below w.heap.size w wr) (fun i _ => l.length - (intOf i).toNat)
    case atStart => exact ⟨0, Nat.zero_le _, rfl, HA3.out, hown_.out, hb3⟩
    case round =>
      clear hb3
      obtain ⟨k, hk, rfl, hA, hown, hbel⟩ := hrel
      by_cases hlt : k < l.length
      · obtain ⟨x, rfl, hxb, hx⟩ := h_.out.at k hlt
        have cx := hx k hlt
        have cx : wr.cell? (x.add k) = some (.int .i64 (l.getD k 0)) := by rw [hbel.cell (by rw [add_block]; exact hxb)]; exact cx
        obtain ⟨g0, g1⟩ := hg_.out k hlt
        have Z0 := Lib.hid (fun e => And.intro (nxtA_zero l k hlt e) (codeTo_skip l k hlt e))
        have Z1 := Lib.hid (fun m a b c => And.intro (nxtA_one l k m hlt a b c) (codeTo_one l k m hlt a b c))
        obtain ⟨X, hX⟩ : ∃ X, l.getD k 0 = X := ⟨_, rfl⟩
        rw [hX] at cx g0 g1 Z0 Z1
        clear hX hx
        obtain ⟨m, rfl⟩ : ∃ m : Nat, X = m := ⟨X.toNat, by omega⟩
        by_cases h0 : m = 0
        · subst h0
          have HE := Lib.hid (Z0.out rfl)
          have hA_ := Lib.hid hA
          have hown_ := Lib.hid hown
          clear hA hown
          go_wp2
          go_roundw
          case rel => exact ⟨k + 1, by omega, by go_num, by rw [HE.out.1]; exact hA_.out, by rw [HE.out.2]; exact hown_.out, hbel⟩
          case measure => simp [intOf]; omega
        · have HE := Lib.hid (Z1.out m rfl (by omega) (by omega))
          have hc := hA.cell m (by rw [nxtA_len]; omega)
          have hfr := hA.free m
          have hfo := hown.free k
          have hcv : 0 ≤ (nxtA l k).getD m 0 ∧ (nxtA l k).getD m 0 ≤ 70368744177664 := by
            rw [nxtA_get _ _ _ (by omega), if_neg h0]
            have := cnt_le (l.take k) m
            have := first_bd l m (by omega)
            rw [List.length_take] at *
            omega
          have hq := hown.int_cell k (by rw [codeTo_len]; exact hlt)
          obtain ⟨C, hC⟩ : ∃ C, (nxtA l k).getD m 0 = C := ⟨_, rfl⟩
          have hc2 := hA.far (b := w2.heap.size + 1) (i := k) (by omega) (.int .i64 C)
          have HS := Lib.hid (hc2.set m (C + 1))
          have HO := Lib.hid (OwnS.grown (hown.set_int k C (by rw [codeTo_len]; exact hlt)) (World.grownBy_setCell ⟨w2.heap.size, m, none⟩ (.int .i64 (C + 1))) (.inr (by simp [Value.ownBlock])))
          rw [hC] at hc hcv HE
          rw [HE.out.1] at HS
          rw [HE.out.2] at HO
          have hA_ := Lib.hid hA
          have hown_ := Lib.hid hown
          have hc2_ := Lib.hid hc2
          clear hA hown hc2
          clear hC HE
          go_wp2
          go_roundw
          case rel => exact ⟨k + 1, by omega, by go_num, HS.out, HO.out, (hbel.setCell (by simp; omega) _).setCell (by simp; omega) _⟩
          case measure => simp [intOf]; omega
      · obtain rfl : k = l.length := by omega
        have HV := Lib.hid (hown.base (show w.heap.size ≤ w2.heap.size + 1 by omega))
        clear hown hA
        go_wp2
        go_ret2
        exact ⟨_, rfl, HV.out, hbel⟩
end Go.Proofs.YtmhjmoeeahepaaaGreat

/- Layer 13: a table is written. -/
namespace Go.Proofs.YtmhjmoeeahepaaaGreat
open Go.ChangeShapes Go.WideShapes Go.ChangeAt Go.RowKit
set_option linter.unusedVariables false
set_option linter.unusedSimpArgs false
set_option maxRecDepth 100000
open Bits hiding packF pack_length
open RunsMath KraftMath CanonMath TurnMath Pm
theorem pLenR (a : Option Addr) (c : Nat) (r : List Run) (h : RunsOk r) (w : World) (hi : IsInts w a (cntR r)) :
    Calls Tryz.prog 39 #[.slice a 19 c, .int .i64 7] w fun e w' => ∃ u, e = .returned (.tuple #[u, .int .i64 0]) ∧ OwnI w.heap.size w' u (ofR r) ∧ Below w.heap.size w w' := by
  have e : ofR r = lensV (cntR r) ((7 : Int)).toNat := rfl
  rw [e]
  by_cases h1 : (srtS (cntR r)).length = 1
  · exact pLenOne a c 19 (cntR r) 7 w (cntR_len r) hi h.chk h1
  · exact pLenAll a c 19 (cntR r) 7 w (cntR_len r) hi h.chk h1
theorem code_bits (c n : Nat) : bitsOf (turn c n) n = msb c n :=
  word_inj (by rw [bitsOf_length, msb_len]) (by rw [wordOf_bitsOf, word_msb, Nat.mod_eq_of_lt (turn_lt c n)])
set_option maxHeartbeats 1600000 in
theorem cPutNil (a : Option Addr) (n c : Nat) (w : World) : Calls Tryz.prog 22 #[.pointer none, .slice a n c] w fun e w' => e = .returned (.int .i64 1) ∧ w' = w := by
  go_enter Tryz.func22, Tryz.ntmps22
  go_wp2_with fail
  go_ret
  exact ⟨rfl, rfl⟩
set_option maxHeartbeats 1600000 in
theorem cPutBad (p : Addr) (v : Value) (E : Int) (hE : E ≠ 0) (w : World) (C : Calls Tryz.prog 42 #[v] w fun e w' => e = .returned (.int .i64 E) ∧ w' = w) : Calls Tryz.prog 22 #[.pointer (some p), v] w fun e w' => e = .returned (.int .i64 E) ∧ w' = w := by
  have CC := Lib.hid C
  have hb : (E != 0) = true := by rw [bne_iff_ne]; exact hE
  clear C hE
  go_enter Tryz.func22, Tryz.ntmps22
  go_wp2_with fail
  refine CC.out.mono ?_; rintro e w1 ⟨rfl, rfl⟩
  go_wp2_with fail
  go_ret
  exact ⟨rfl, rfl⟩
theorem own_ints {B : Nat} {w : World} {g n c : Nat} {l : List Int} (h : OwnI B w (.slice (some ⟨g, 0, none⟩) n c) l) (hl : l.length ≤ 70368744177664) : IsInts w (some ⟨g, 0, none⟩) l := by
  obtain ⟨a, c', e, hi⟩ := OwnS.isL h hl
  injection e with e1 _ _
  subst e1
  exact hi
theorem own_getI {B : Nat} {w : World} {v : Value} {l : List Int} (h : OwnI B w v l) (h0 : l.length ≠ 0) : ∃ g c, v = .slice (some ⟨g, 0, none⟩) l.length c ∧ B ≤ g ∧ g < w.heap.size := by
  have hlt := fun k e => OwnS.lt h k e
  rcases h.2 with ⟨h1, h2⟩ | ⟨g', cap', cur', h1, h2⟩
  · exact absurd h2 h0
  · exact ⟨g', cap', h1, hlt g' (by rw [h1]; rfl)⟩
/-- Runs that lie in a slice. -/
theorem own_r {B : Nat} {w : World} {v : Value} {r : List Run} (h : OwnR B w v r) (h0 : r ≠ []) : ∃ g c, v = .slice (some ⟨g, 0, none⟩) r.length c ∧ B ≤ g ∧ g < w.heap.size := by
  have hlt := fun k e => OwnS.lt h k e
  rcases h.2 with ⟨h1, h2⟩ | ⟨g', cap', cur', h1, h2⟩
  · exact absurd (List.length_eq_zero_iff.1 h2) h0
  · exact ⟨g', cap', h1, hlt g' (by rw [h1]; rfl)⟩
theorem PenW.undrew {w w' : World} {g B : Nat} {bits : List Bool} (h : PenW w.drew w' g B bits) : PenW w w' g B bits :=
  ⟨h.1, ⟨h.2.1.os, h.2.1.tape, h.2.1.output, h.2.1.size, h.2.1.block⟩, h.2.2⟩
/-- A word is put into a world that drew. -/
theorem pPutD (w : World) (g B : Nat) (l : List Bool) (x n : Nat) (h : IsWriter w g B l) (hn : n ≤ 56) (hx : x < 2 ^ n) (hl : l.length + n ≤ 1000000000000) :
    Calls Tryz.prog 35 #[.pointer (some ⟨g, 0, none⟩), .int .u64 x, .int .i64 n] w.drew fun e w' => e = .returned (.int .i64 0) ∧ PenW w w' g B (l ++ bitsOf x n) :=
  (wPut w.drew g B l x n h hn hx hl).mono fun e w' h => ⟨h.1, PenW.undrew ⟨h.2.1, h.2.2.1, h.2.2.2⟩⟩
set_option maxHeartbeats 6400000 in
theorem cPutOk (w0 : World) (g B : Nat) (bits : List Bool) (h : IsWriter w0 g B bits) (hbl : bits.length ≤ 900000) (a : Option Addr) (c : Nat) (l : List Int) (hi : IsInts w0 a l) (h0 : l ≠ []) (hl : l.length ≤ 1024) (hok : okB l = true) :
    Calls Tryz.prog 22 #[.pointer (some ⟨g, 0, none⟩), .slice a l.length c] w0 fun e w' => e = .returned (.int .i64 0) ∧ PenW w0 w' g B (bits ++ writeB (packL l) (ofR (packL l))) := by
  have hl0 : l.length ≠ 0 := fun e => h0 (List.length_eq_zero_iff.1 e)
  have hE : chkL l = 0 := by unfold chkL; rw [if_neg (by omega), if_neg (by rw [hok]; decide)]
  have CC := Lib.hid (cCheckIn a c l hl0 hl w0 hi 0 hE)
  have CP := Lib.hid (rPack a c l w0 hi (by omega))
  have HR := Lib.hid (pack_ok h0 hl hok)
  obtain ⟨r, hr⟩ : ∃ r, packL l = r := ⟨_, rfl⟩
  rw [hr] at CP HR ⊢
  have HW := Lib.hid h
  have hrl := HR.out.few
  clear h hi h0 hE hok hr hl0
  go_enter Tryz.func22, Tryz.ntmps22
  go_wp2_with fail
  refine CC.out.mono ?_; rintro e w1 ⟨rfl, rfl⟩
  go_wp2_with fail
  refine CP.out.mono ?_; rintro e w2 ⟨v2, rfl, ho2, hb2⟩
  obtain ⟨gr, cr, rfl, hgr1, hgr2⟩ := own_r ho2 HR.out.some
  have HR2 := Lib.hid (show IsRuns w2 (some ⟨gr, 0, none⟩) r from by
    obtain ⟨a', c', e, h⟩ := OwnS.isR ho2 (by omega)
    injection e with e1 _ _
    subst e1
    exact h)
  have HB2 := Lib.hid hb2
  clear ho2 hb2 CC CP
  go_wp2_with (first
    | (refine make_int rfl (.const (.int .i64 19)) (.const (.int .i64 19)) rfl .i64 .i64 _ _ 19 rfl rfl rfl rfl (by omega) ?_; intro w3 ho3 hb3 hz3)
    | fail)
  obtain ⟨gf, hgf⟩ : ∃ gf, w2.heap.size = gf := ⟨_, rfl⟩
  rw [hgf] at ho3 hb3 hz3 ⊢
  have hgrf : gr < gf := by rw [← hgf]; exact hgr2
  have HGF := Lib.hid hgf
  obtain ⟨xr, hxr⟩ : ∃ xr : Addr, (⟨gr, 0, none⟩ : Addr) = xr := ⟨_, rfl⟩
  have hxb : xr.block = gr := by rw [← hxr]
  rw [hxr] at HR2 ⊢
  have HXB := Lib.hid hxb
  have HO3 := Lib.hid (show OwnI gf w3 (.slice (some ⟨gf, 0, none⟩) 19 19) (cntR (r.take 0)) by rw [List.take_zero, cntR_nil]; exact ho3)
  have HB3 := Lib.hid hb3
  clear ho3 hb3 hz3 hgf hxr hxb hgr2
  go_loopw [27] (fun iv wr => ∃ k : Nat, iv = .int .i64 k ∧ k ≤ r.length ∧ Hid (OwnI gf wr (.slice (some ⟨gf, 0, none⟩) 19 19) (cntR (r.take k))) ∧ Hid (Below gf w2 wr)) (fun iv _ => r.length - (intOf iv).toNat)
  case atStart => exact ⟨0, rfl, Nat.zero_le _, HO3, HB3⟩
  case round =>
    clear HO3 HB3
    obtain ⟨k, rfl, hk, ho, hb⟩ := hrel
    by_cases hlt : k < r.length
    · obtain ⟨x', he, hxl, cx⟩ := (HR2.out.kept (by rw [HGF.out]; exact hb.out)).at k hlt
      injection he with he
      subst he
      obtain ⟨c0, c1⟩ := cx k hlt
      have hmem : r.getD k (0, 0) ∈ r := by rw [List.getD_eq_getElem?_getD, List.getElem?_eq_getElem hlt]; exact List.getElem_mem hlt
      obtain ⟨s, hs, hs19, -, -, m, hm, -, -⟩ := HR.out.sym hmem
      have hnx : r.take (k + 1) = r.take k ++ [r.getD k (0, 0)] := by
        rw [List.take_succ_eq_append_getElem hlt, List.getD_eq_getElem?_getD, List.getElem?_eq_getElem hlt]; rfl
      have hcn := cntR_next (r.take k) (r.getD k (0, 0)) s hs hs19
      rw [← hnx] at hcn
      rw [hs] at c0
      rw [hm] at c1
      have hle := cntR_le (r.take k) s
      rw [List.length_take, Nat.min_eq_left hk] at hle
      have cf := OwnS.int_cell ho.out s (by rw [cntR_len]; exact hs19)
      have ff := ho.out.free s
      have hgw := (OwnS.lt ho.out gf rfl).2
      have hst := OwnS.set_int ho.out s ((cntR (r.take k)).getD s 0 + 1) (by rw [cntR_len]; exact hs19)
      rw [← hcn] at hst
      obtain ⟨V, hV⟩ : ∃ V, (cntR (r.take k)).getD s 0 = V := ⟨_, rfl⟩
      rw [hV] at cf hst hle
      have HST := Lib.hid (hst.alloc (.cells #[.int .i64 (s : Int), .int .i64 (m : Int)] 84))
      have HBN := Lib.hid ((hb.out.setCell (p := ⟨gf, s, none⟩) (Nat.le_refl _) (.int .i64 (V + 1))).alloc (show gf ≤ (wr.setCell ⟨gf, s, none⟩ (.int .i64 (V + 1))).heap.size by have := hb.out.size; have := HGF.out; simp; omega) (.cells #[.int .i64 (s : Int), .int .i64 (m : Int)] 84))
      have hwV : IntKind.i64.wrap (V + 1) = V + 1 := by rw [IntKind.wrap_i64]; omega
      have hki : (k : Int) < (r.length : Int) := by omega
      have hsi : (s : Int) < 19 := by omega
      have hk0 : (0 : Int) ≤ (k : Int) := by omega
      have hs0 : (0 : Int) ≤ (s : Int) := by omega
      clear cx hmem hs hm hnx hcn hst hV ho hb
      go_wp2_with fail
      go_roundw
      case rel => exact ⟨k + 1, by go_num, by omega, HST, HBN⟩
      case measure => simp [intOf]; omega
    · obtain rfl : k = r.length := by omega
      have hki : ¬ (r.length : Int) < (r.length : Int) := by omega
      have ho' := ho.out
      rw [List.take_length] at ho'
      have HIF := Lib.hid (own_ints ho' (by rw [cntR_len]; omega))
      have HB4 := Lib.hid (show Below w1.heap.size w1 wr from HB2.out.trans (hb.out.mono (by have := HGF.out; have := HB2.out.size; omega)))
      have HR4 := Lib.hid (HR2.out.kept (by rw [HGF.out]; exact hb.out))
      clear ho' ho hb HR2 HB2 HGF
      go_wp2_with fail
      refine (pLenR _ 19 r HR.out wr HIF.out).mono ?_; rintro e w5 ⟨v5, rfl, ho5, hb5⟩
      obtain ⟨go, co, rfl, hgo1, hgo2⟩ := own_getI ho5 (by rw [ofR_len]; decide)
      have HO5 := Lib.hid (own_ints ho5 (by rw [ofR_len]; decide))
      have CCO := Lib.hid (cCodesO (some ⟨go, 0, none⟩) co (ofR r) w5 HO5.out HR.out.chk16.1)
      have HB5 := Lib.hid (HB4.out.trans (hb5.mono HB4.out.size))
      have HR5 := Lib.hid (HR4.out.kept hb5)
      have hgo3 : w1.heap.size ≤ go := Nat.le_trans HB4.out.size hgo1
      have HCL := Lib.hid (codes_len (l := ofR r) HR.out.chk16.1)
      rw [ofR_len] at CCO HCL ⊢
      clear hb5 ho5 HR4 HB4 HIF hgo1
      go_wp2_with fail
      refine CCO.out.mono ?_; rintro e w6 ⟨v6, rfl, ho6, hb6⟩
      obtain ⟨gc, cc, rfl, hgc1, hgc2⟩ := own_getI ho6 (by rw [HCL.out]; decide)
      have HC6 := Lib.hid (own_ints ho6 (by rw [HCL.out]; decide))
      have HO6 := Lib.hid (HO5.out.kept hb6)
      have HR6 := Lib.hid (HR5.out.kept hb6)
      have HB6 := Lib.hid (HB5.out.trans (hb6.mono HB5.out.size))
      have hgc3 : w1.heap.size ≤ gc := Nat.le_trans HB5.out.size hgc1
      rw [HCL.out]
      have HP6 := Lib.hid ((PenW.start HW.out).below HB6.out)
      have HFT := Lib.hid (show ∀ k, w1.heap.size ≤ k → ¬ foot w6 g k from fun k hk e => by
        have := foot_lt HW.out _ ((PenW.foot_iff HW.out HB6.out k).1 e)
        omega)
      have hgr3 : w1.heap.size ≤ xr.block := by rw [HXB.out]; exact hgr1
      have CPH := Lib.hid (cPutHead w6 g B bits HP6.out.1 (by omega) (some ⟨go, 0, none⟩) co (ofR r) (ofR_len r) HO6.out (fun i => ⟨(HR.out.of_bd i).1, (HR.out.of_bd i).2.1⟩) (fun x hx => by injection hx with hx; subst hx; exact HFT.out go hgo3))
      clear hb6 ho6 HO5 HR5 HB5 CCO hgc1 hgo2 hgc2
      go_wp2_with fail
      refine CPH.out.mono ?_; rintro e w7 ⟨rfl, hp7⟩
      have HP7 := Lib.hid (show PenW w6 w7 g B (bits ++ headB (ofR r) ++ (r.take 0).flatMap (runB (ofR r))) by simpa using hp7)
      obtain ⟨xo, hxo⟩ : ∃ xo : Addr, (⟨go, 0, none⟩ : Addr) = xo := ⟨_, rfl⟩
      obtain ⟨xc, hxc⟩ : ∃ xc : Addr, (⟨gc, 0, none⟩ : Addr) = xc := ⟨_, rfl⟩
      have hxob : w1.heap.size ≤ xo.block := by rw [← hxo]; exact hgo3
      have hxcb : w1.heap.size ≤ xc.block := by rw [← hxc]; exact hgc3
      rw [hxo] at HO6 ⊢
      rw [hxc] at HC6 ⊢
      clear hp7 CPH hxo hxc
      go_wp2_with fail
      go_loopw [60] (fun iv wr => ∃ k : Nat, iv = .int .i64 k ∧ k ≤ r.length ∧ Hid (PenW w6 wr g B (bits ++ headB (ofR r) ++ (r.take k).flatMap (runB (ofR r))))) (fun iv _ => r.length - (intOf iv).toNat)
      case atStart => exact ⟨0, rfl, Nat.zero_le _, HP7⟩
      case round =>
        clear HP7
        obtain ⟨k, rfl, hk, hp⟩ := hrel
        by_cases hlt : k < r.length
        · obtain ⟨x', he, hxl, cx⟩ := (hp.out.runs HR6.out (fun x hx => by injection hx with hx; subst hx; exact HFT.out _ hgr3)).at k hlt
          injection he with he
          subst he
          obtain ⟨c0, c1⟩ := cx k hlt
          have hmem : r.getD k (0, 0) ∈ r := by rw [List.getD_eq_getElem?_getD, List.getElem?_eq_getElem hlt]; exact List.getElem_mem hlt
          obtain ⟨s, hs, hs19, hn1, hn7, m, hm, hmE, -⟩ := HR.out.sym hmem
          have hnx := runs_next (ofR r) r k hlt
          have hlen := runs_len HR.out k hk
          rw [hs] at c0 hmE
          rw [hm] at c1
          have hrb : runB (ofR r) (r.getD k (0, 0)) = msb (code (ofR r) s) (len (ofR r) s) ++ bitsOf m (extra (s : Int)) := by
            unfold runB bitsS
            rw [hs, hm, Int.toNat_natCast, Int.toNat_natCast]
          obtain ⟨xo', he, hxol, cxo⟩ := HO6.out.at s (by rw [ofR_len]; exact hs19)
          injection he with he
          subst he
          obtain ⟨xc', he, hxcl, cxc⟩ := HC6.out.at s (by rw [HCL.out]; exact hs19)
          injection he with he
          subst he
          have cn := (hp.out.cell (p := xo.add s) (by rw [add_block]; exact hxol) (by rw [add_block]; exact HFT.out _ hxob)).trans (cxo s (by rw [ofR_len]; exact hs19))
          have cc1 := (hp.out.cell (p := xc.add s) (by rw [add_block]; exact hxcl) (by rw [add_block]; exact HFT.out _ hxcb)).trans (cxc s (by rw [HCL.out]; exact hs19))
          rw [lenI HR.out.chk16.1 (by rw [ofR_len]; exact hs19)] at cn
          rw [codes_at HR.out.chk16.1 (by rw [ofR_len]; exact hs19)] at cc1
          have hcl := ok_c HR.out.chk16.1 (s := s) (by rw [ofR_len]; exact hs19)
          obtain ⟨n, hn⟩ : ∃ n, len (ofR r) s = n := ⟨_, rfl⟩
          obtain ⟨C, hC⟩ : ∃ C, code (ofR r) s = C := ⟨_, rfl⟩
          rw [hn] at cn hn1 hn7 hcl hrb
          rw [hC] at cc1 hcl hrb
          obtain ⟨X, hX⟩ : ∃ X, turn C n = X := ⟨_, rfl⟩
          have hXn : X < 2 ^ n := by rw [← hX]; exact turn_lt C n
          have hn128 : 2 ^ n ≤ 128 := Nat.le_trans (Nat.pow_le_pow_right (by decide) hn7) (by decide)
          have hmsb : msb C n = bitsOf X n := by rw [← hX]; exact (code_bits C n).symm
          rw [hmsb] at hrb
          rw [hrb] at hnx
          have CT := Lib.hid (fun W => show Calls Tryz.prog 46 #[.int .i64 (C : Int), .int .i64 (n : Int)] W fun e w' => e = .returned (.int .i64 (X : Nat)) ∧ w' = W by
            have := bTurned (C : Int) n (by omega) W
            rw [show ((C : Int) % 4294967296).toNat = C by omega, hX] at this
            exact this)
          obtain ⟨EX, hEX⟩ : ∃ EX, extra (s : Int) = EX := ⟨_, rfl⟩
          have hE7 : EX ≤ 7 := by rw [← hEX]; exact extra7 _
          have CE := Lib.hid (fun W => rExtra (s : Int) (EX : Int) (by rw [hEX]) W)
          rw [hEX] at hmE hnx
          have hm128 : m < 128 := Nat.lt_of_lt_of_le hmE (Nat.le_trans (Nat.pow_le_pow_right (by decide) hE7) (by decide))
          have HNX := Lib.hid hnx
          have hAL : Below wr.heap.size wr (wr.alloc (.cells #[.int .i64 (s : Int), .int .i64 (m : Int)] 84)) := (Below.refl _ _).alloc (Nat.le_refl _) _
          have HPB := Lib.hid (hp.out.below hAL)
          have HBX := Lib.hid (heap_alloc_new wr (.cells #[.int .i64 (s : Int), .int .i64 (m : Int)] 84))
          have hfb := PenW.foot_iff hp.out.1 hAL
          have HFX := Lib.hid (show ¬ foot (wr.alloc (.cells #[.int .i64 (s : Int), .int .i64 (m : Int)] 84)) g wr.heap.size from fun e => by
            have := foot_lt hp.out.1 _ ((hfb _).1 e)
            omega)
          have cnb := (hAL.cell (cell_block cn)).trans cn
          have ccb := (hAL.cell (cell_block cc1)).trans cc1
          have hki : (k : Int) < (r.length : Int) := by omega
          have hsi : (s : Int) < 19 := by omega
          have hk0 : (0 : Int) ≤ (k : Int) := by omega
          have hs0 : (0 : Int) ≤ (s : Int) := by omega
          have hu1 : IntKind.u64.wrap (X : Int) = (X : Int) := IntWalk.u64_in _ (by omega)
          have hu2 : IntKind.u64.wrap (m : Int) = (m : Int) := IntWalk.u64_in _ (by omega)
          obtain ⟨gx, hgx⟩ : ∃ gx, wr.heap.size = gx := ⟨_, rfl⟩
          obtain ⟨wb, hwb⟩ : ∃ wb, wr.alloc (.cells #[.int .i64 (s : Int), .int .i64 (m : Int)] 84) = wb := ⟨_, rfl⟩
          have hgxb : gx < wb.heap.size := by rw [← hwb, ← hgx]; simp
          have HGX := Lib.hid hgx
          rw [hwb] at HPB HBX HFX cnb ccb
          rw [hgx] at HBX HFX
          have HLN := Lib.hid hlen
          have HAO := Lib.hid (show ¬ foot wb g xo.block from fun e => (HPB.out.2.2 _ e).elim (HFT.out _ hxob) (fun h => by omega))
          have HAC := Lib.hid (show ¬ foot wb g xc.block from fun e => (HPB.out.2.2 _ e).elim (HFT.out _ hxcb) (fun h => by omega))
          have b0 := cell_lit HBX.out 0 (.int .i64 (s : Int)) rfl
          have b1 := cell_lit HBX.out 1 (.int .i64 (m : Int)) rfl
          have HS0 := Lib.hid (show wb.drew.cell? ⟨gx, 0, none⟩ = some (.int .i64 (s : Int)) ∧ wb.drew.cell? (xc.add s) = some (.int .i64 (C : Int)) ∧ wb.drew.cell? (xo.add s) = some (.int .i64 (n : Int)) from ⟨b0, ccb, cnb⟩)
          have HS0' := Lib.hid (show wb.cell? ⟨gx, 0, none⟩ = some (.int .i64 (s : Int)) ∧ wb.cell? (xc.add s) = some (.int .i64 (C : Int)) ∧ wb.cell? (xo.add s) = some (.int .i64 (n : Int)) from ⟨b0, ccb, cnb⟩)
          have hxcw : xc.block < wb.heap.size := by have := HPB.out.2.1.size; omega
          have hxow : xo.block < wb.heap.size := by have := HPB.out.2.1.size; omega
          have HHL := Lib.hid (show (headB (ofR r)).length ≤ 61 by unfold headB; rw [headTo_len]; have := headN_le (ofR r) 19; omega)
          have CPT := Lib.hid (pPutD wb g B (bits ++ headB (ofR r) ++ (r.take k).flatMap (runB (ofR r))) X n HPB.out.1 (by omega) hXn (by rw [List.length_append, List.length_append]; have := HLN.out; have := HHL.out; omega))
          clear cx hmem hs hm hnx hlen hrb cxo cxc hcl hn hC hX hmsb hEX hAL hfb cn cc1 hxl
          go_wp2_with fail
          try rw [hgx]
          try rw [hwb]
          clear hgx hwb
          go_region_held3 (fun V => V.cell? ⟨gx, 0, none⟩ = some (.int .i64 (s : Int)) ∧ V.cell? (xc.add s) = some (.int .i64 (C : Int)) ∧ V.cell? (xo.add s) = some (.int .i64 (n : Int))) (first | exact HS0.out | exact HS0'.out | exact HS1.out | fail) (first | (go_at_call 46; (with_reducible refine (CT.out _).mono ?_; rintro e wx ⟨rfl, rfl⟩)) | (go_at_call 35; (with_reducible refine CPT.out.mono ?_; rintro e w8 ⟨rfl, hp8⟩; have HP8 := Lib.hid hp8; have HS1 := Lib.hid (show w8.cell? ⟨gx, 0, none⟩ = some (.int .i64 (s : Int)) ∧ w8.cell? (xc.add s) = some (.int .i64 (C : Int)) ∧ w8.cell? (xo.add s) = some (.int .i64 (n : Int)) from ⟨(hp8.cell hgxb HFX.out).trans HS0'.out.1, (hp8.cell (by rw [add_block]; exact hxcw) (by rw [add_block]; exact HAC.out)).trans HS0'.out.2.1, (hp8.cell (by rw [add_block]; exact hxow) (by rw [add_block]; exact HAO.out)).trans HS0'.out.2.2⟩); clear hp8)) | fail)
          have hs81 : w8.cell? ⟨gx, 1, none⟩ = some (.int .i64 (m : Int)) := (HP8.out.cell hgxb HFX.out).trans b1
          have hs80 : w8.cell? ⟨gx, 0, none⟩ = some (.int .i64 (s : Int)) := (HP8.out.cell hgxb HFX.out).trans b0
          have hg8 : gx < w8.heap.size := Nat.lt_of_lt_of_le hgxb HP8.out.2.1.size
          have HF8 := Lib.hid (show ¬ foot w8 g gx from fun e => (HP8.out.2.2 _ e).elim HFX.out (fun h => by omega))
          have HT0 := Lib.hid (show w8.cell? ⟨gx, 1, none⟩ = some (.int .i64 (m : Int)) ∧ w8.cell? ⟨gx, 0, none⟩ = some (.int .i64 (s : Int)) from ⟨hs81, hs80⟩)
          have HT0' := Lib.hid (show w8.drew.cell? ⟨gx, 1, none⟩ = some (.int .i64 (m : Int)) ∧ w8.drew.cell? ⟨gx, 0, none⟩ = some (.int .i64 (s : Int)) from ⟨hs81, hs80⟩)
          have CPM := Lib.hid (pPutD w8 g B (bits ++ headB (ofR r) ++ (r.take k).flatMap (runB (ofR r)) ++ bitsOf X n) m EX HP8.out.1 (by omega) hmE (by rw [List.length_append, List.length_append, List.length_append, bitsOf_length]; have := HLN.out; have := HHL.out; omega))
          have hHP := Lib.hid (HPB.out.chain HP8.out)
          simp only [Exit.then]
          rename_i hK hHeld
          refine hK _ _ ?_
          clear hK hHeld CT CPT
          go_region_held3 (fun V => V.cell? ⟨gx, 1, none⟩ = some (.int .i64 (m : Int)) ∧ V.cell? ⟨gx, 0, none⟩ = some (.int .i64 (s : Int))) (first | exact HT0.out | exact HT0'.out | exact HT1.out | fail) (first | (go_at_call 47; (with_reducible refine (CE.out _).mono ?_; rintro e wx ⟨rfl, rfl⟩)) | (go_at_call 35; (with_reducible refine CPM.out.mono ?_; rintro e w9 ⟨rfl, hp9⟩; have HP9 := Lib.hid hp9; have HT1 := Lib.hid (show w9.cell? ⟨gx, 1, none⟩ = some (.int .i64 (m : Int)) ∧ w9.cell? ⟨gx, 0, none⟩ = some (.int .i64 (s : Int)) from ⟨(hp9.cell hg8 HF8.out).trans HT0.out.1, (hp9.cell hg8 HF8.out).trans HT0.out.2⟩); clear hp9)) | fail)
          have HPF := Lib.hid (show PenW w6 w9 g B (bits ++ headB (ofR r) ++ (r.take (k + 1)).flatMap (runB (ofR r))) by
            rw [HNX.out]
            have := hHP.out.chain HP9.out
            simp only [List.append_assoc] at this ⊢
            exact this)
          clear CE CPM HP8 HP9 hHP HPB HS0 HS0' HT0 HT0' HNX HFX HF8 hg8 hs81 hs80 b0 b1 cnb ccb HBX HAO HAC HLN HHL HGX hgxb hXn hmE hm128 hn128 hE7 hu1 hu2
          try simp only [Exit.inBlock, Exit.then]
          rename_i hK Kx hHeld
          refine hK _ _ ?_
          clear hK hHeld HS1 HT1 Kx
          go_wp2_with fail
          go_roundw
          case rel => exact ⟨k + 1, by go_num, by omega, HPF⟩
          case measure => simp [intOf]; omega
        · obtain rfl : k = r.length := by omega
          have hki : ¬ (r.length : Int) < (r.length : Int) := by omega
          have hp' := hp.out
          rw [List.take_length] at hp'
          have HPE := Lib.hid (HP6.out.chain hp')
          clear hp hp'
          go_wp2_with fail
          go_ret
          exact ⟨rfl, by unfold writeB; rw [← List.append_assoc]; exact HPE.out⟩
end Go.Proofs.YtmhjmoeeahepaaaGreat
