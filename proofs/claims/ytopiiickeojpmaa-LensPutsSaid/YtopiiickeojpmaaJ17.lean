import Derived.Test.YtopiiickeojpmaaJ16
import Derived.Test.YtopiiickeojpmaaJ15
import Derived.Test.YtopiiickeojpmaaJ12
/- Layer 1's awake, and writers that are none. -/
namespace Go.Proofs.Ytopiiickeojpmaa
open Go.ChangeShapes Go.WideShapes Go.ChangeAt Go.RowKit
set_option linter.unusedVariables false
set_option maxRecDepth 100000
open Bits

theorem foot_lt {w : World} {g B : Nat} {l : List Bool} (h : IsWriter w g B l) : ∀ k, foot w g k → k < w.heap.size := by
  obtain ⟨v, bs, r, n, ⟨hg, hown, hB, hbl⟩, hm, hr, hsp⟩ := h
  intro k hk
  rcases hk with rfl | ⟨v', hv, hb⟩
  · exact block_lt hg
  · rw [cell_in hg 0] at hv
    simp at hv
    subst hv
    exact (hown.lt k hb).2
theorem IsWriter.keep {w w' : World} {g B : Nat} {l : List Bool} {S : Nat → Prop} (h : IsWriter w g B l) (hk : Keeps S w w') (hd : ∀ k, foot w g k → ¬ S k) : IsWriter w' g B l ∧ ∀ k, foot w' g k ↔ foot w g k := by
  have hlt := foot_lt h
  obtain ⟨v, bs, r, n, ⟨hg, hown, hB, hbl⟩, hm, hr, hsp⟩ := h
  have hg' := hk.heap hg (hd g (.inl rfl))
  have c : w.cell? ⟨g, 0, none⟩ = some v := cell_lit hg 0 v rfl
  have c' : w'.cell? ⟨g, 0, none⟩ = some v := cell_lit hg' 0 v rfl
  refine ⟨⟨v, bs, r, n, ⟨hg', hk.ownsRow hown (fun k hb => hd k (.inr ⟨v, c, hb⟩)), Nat.le_trans hB hk.size, hbl⟩, hm, hr, hsp⟩, fun k => ?_⟩
  unfold foot; rw [c, c']
theorem IsWriter.drewN {w : World} {g B : Nat} {l : List Bool} (h : IsWriter w g B l) (k : Nat) : IsWriter (w.drewN k) g B l := h
theorem put_frame {w0 w w' : World} {g n : Nat} (hb : Below n w0 w) (hn : n ≤ w.heap.size) (hf : ∀ k, foot w g k → n ≤ k) (hk : Keeps (foot w g) w w') (hf' : ∀ k, foot w' g k → foot w g k ∨ w.heap.size ≤ k) : Below n w0 w' ∧ ∀ k, foot w' g k → n ≤ k := by
  refine ⟨hb.trans (hk.below (fun k hk' => ⟨Nat.lt_of_lt_of_le hk' hn, fun h => by have := hf k h; omega⟩)), fun k h => ?_⟩
  rcases hf' k h with h | h
  · exact hf k h
  · omega
end Go.Proofs.Ytopiiickeojpmaa

/- Layer 13: the head of a table. -/
namespace Go.Proofs.Ytopiiickeojpmaa
open Go.ChangeShapes Go.WideShapes Go.ChangeAt Go.RowKit
set_option linter.unusedVariables false
set_option linter.unusedSimpArgs false
set_option maxRecDepth 100000
open Bits hiding packF pack_length
open RunsMath KraftMath CanonMath
/-- A writer, and that nothing else has turned since a world. -/
def PenW (w0 w : World) (g B : Nat) (bits : List Bool) : Prop := IsWriter w g B bits ∧ Keeps (foot w0 g) w0 w ∧ ∀ k, foot w g k → foot w0 g k ∨ w0.heap.size ≤ k
theorem PenW.start {w : World} {g B : Nat} {bits : List Bool} (h : IsWriter w g B bits) : PenW w w g B bits := ⟨h, Keeps.refl _ _, fun k hk => .inl hk⟩
theorem PenW.chain {w0 w1 w2 : World} {g B : Nat} {b1 b2 : List Bool} (h : PenW w0 w1 g B b1) (k : PenW w1 w2 g B b2) : PenW w0 w2 g B b2 :=
  ⟨k.1, h.2.1.trans' k.2.1 (fun j hj hf => by rcases h.2.2 j hf with e | e; (· exact e); (· omega)), fun j hj => by
    rcases k.2.2 j hj with e | e
    · exact h.2.2 j e
    · right; have := h.2.1.size; omega⟩
theorem PenW.below {w0 w w' : World} {g B : Nat} {bits : List Bool} (h : PenW w0 w g B bits) (hb : Below w.heap.size w w') : PenW w0 w' g B bits := by
  obtain ⟨h1, h2⟩ := IsWriter.keep (S := fun _ => False) h.1 (Keeps.of_below hb) (fun _ _ h => h)
  exact h.chain ⟨h1, Keeps.of_below hb, fun k hk => .inl ((h2 k).1 hk)⟩
theorem PenW.cell {w0 w : World} {g B : Nat} {bits : List Bool} (h : PenW w0 w g B bits) {p : Addr} (hp : p.block < w0.heap.size) (hf : ¬ foot w0 g p.block) : w.cell? p = w0.cell? p := h.2.1.cell hp hf
theorem PenW.foot_iff {w w' : World} {g B : Nat} {bits : List Bool} (h : IsWriter w g B bits) (hb : Below w.heap.size w w') : ∀ k, foot w' g k ↔ foot w g k := (IsWriter.keep (S := fun _ => False) h (Keeps.of_below hb) (fun _ _ h => h)).2
theorem PenW.ints {w0 w : World} {g B : Nat} {bits : List Bool} {a : Option Addr} {l : List Int} (h : PenW w0 w g B bits) (hi : IsInts w0 a l) (hf : ∀ x, a = some x → ¬ foot w0 g x.block) : IsInts w a l := by
  refine ⟨hi.1, ?_⟩
  rcases hi.2 with e | ⟨x, rfl, hc⟩
  · exact .inl e
  · refine .inr ⟨x, rfl, fun i hi => ?_⟩
    have h1 := hc i hi
    exact (h.cell (cell_block h1) (by rw [add_block]; exact hf x rfl)).trans h1
theorem PenW.runs {w0 w : World} {g B : Nat} {bits : List Bool} {a : Option Addr} {l : List Run} (h : PenW w0 w g B bits) (hi : IsRuns w0 a l) (hf : ∀ x, a = some x → ¬ foot w0 g x.block) : IsRuns w a l := by
  refine ⟨hi.1, ?_⟩
  rcases hi.2 with e | ⟨x, rfl, hc⟩
  · exact .inl e
  · refine .inr ⟨x, rfl, fun i hi => ?_⟩
    obtain ⟨h1, h2⟩ := hc i hi
    exact ⟨(h.cell (cell_block h1) (by rw [add_block]; exact hf x rfl)).trans h1, (h.cell (cell_block h2) (by show ¬ foot w0 g (x.add (i * 2)).block; rw [add_block]; exact hf x rfl)).trans h2⟩
theorem szInt (w : World) : (sizeOf 3).run Try.prog w = .ok 1 w := by kernel_rfl
theorem slA (K g : Nat) (hK : K ≤ 19) (w : World) : (Instr.sliceAt 83 (.pointer (some ⟨g, 0, none⟩)) none (some (.int .i64 (K : Int))) none).run Try.prog w = .ok (.slice (some ⟨g, 0, none⟩) K 19) w := by
  have eA : Try.prog.arrayLen 83 = 19 := by kernel_rfl
  have eE : Try.prog.elem 83 = 3 := by kernel_rfl
  have ht : Try.prog.underlying 83 = some (.array (Try.prog.arrayLen 83) (Try.prog.elem 83)) := by kernel_rfl
  rw [run_sliceAt_array_h (P := Try.prog) w 83 ⟨g, 0, none⟩ ht .i64 (K : Int) (by omega) (by rw [eA]; omega), eE, szInt, eA]
  have e3 : ((K : Int)).toNat = K := by omega
  simp only [Result.andThen, slicedAt, e3]
  simp [Addr.add]
set_option maxHeartbeats 6400000 in
theorem cPutHead (w0 : World) (g B : Nat) (bits : List Bool) (h : IsWriter w0 g B bits) (hbl : bits.length ≤ 1000000) (a : Option Addr) (c : Nat) (o : List Int) (hl : o.length = 19) (ho : IsInts w0 a o) (hb7 : ∀ i, 0 ≤ o.getD i 0 ∧ o.getD i 0 ≤ 7) (hf : ∀ x, a = some x → ¬ foot w0 g x.block) :
    Calls Try.prog 27 #[.pointer (some ⟨g, 0, none⟩), .slice a 19 c] w0 fun e w' => e = .returned (.tuple #[]) ∧ PenW w0 w' g B (bits ++ headB o) := by
  obtain ⟨Z, hZs, hz, hi⟩ := arr19
  have HSZ : Hid ((Try.prog.info? 83).map (·.size) = some (arrI placesI).size) := by show _ = _; rw [hi, placesA_size]
  have HZS : Hid (Z.size = (arrI placesI).size) := by show _ = _; rw [hZs, placesA_size]
  have HONE := Lib.hid (arrI_one placesI)
  have HPC := Lib.hid (fun W gs (h : PlAt W gs) i hi => h.cell i hi)
  have HPK := Lib.hid (fun (W : World) => show PlAt (W.alloc (.cells (arrI placesI) 83)) W.heap.size from heap_alloc_new W _)
  have CO := Lib.hid (fun W => cOrder13 W)
  obtain ⟨T, hTT⟩ : ∃ T, arrI placesI = T := ⟨_, rfl⟩
  rw [hTT] at HSZ HZS HONE HPK CO
  have HW0 := Lib.hid h
  have HO := Lib.hid ho
  have HF := Lib.hid hf
  have HB7 := Lib.hid hb7
  have HL := Lib.hid hl
  have hgl : g < w0.heap.size := by have := foot_lt h g (.inl rfl); exact this
  obtain ⟨xa, rfl, -, -⟩ := ho.at 0 (by omega)
  clear hi hZs hTT h ho hf hb7 hl
  go_enter Try.func27, Try.ntmps27
  go_wp2_with fail
  refine (CO.out _).mono ?_; rintro e w1 ⟨rfl, hb1⟩
  have HP1 := Lib.hid ((PenW.start HW0.out).below hb1)
  have HFI := Lib.hid (PenW.foot_iff HW0.out hb1)
  have hsz1 := hb1.size
  have HO1 := Lib.hid (HO.out.kept hb1)
  clear hb1 CO
  go_wp2_with (first
    | (refine wpList_store_row rfl 83 (.tmp 4) (.tmp 8) rfl w1.heap.size T rfl rfl 83 Z (heap_alloc_new w1 _) HSZ.out HZS.out HONE.out ?_; rw [setRow_last])
    | fail)
  have hAL : Below w1.heap.size w1 (w1.alloc (.cells T 83)) := (Below.refl _ _).alloc (Nat.le_refl _) _
  have HP2 := Lib.hid (HP1.out.below hAL)
  have HPL := Lib.hid (HPK.out w1)
  have hfi2 := PenW.foot_iff HP1.out.1 hAL
  have hfg : ¬ foot (w1.alloc (.cells T 83)) g w1.heap.size := fun e => by
    have := foot_lt HP1.out.1 _ ((hfi2 _).1 e)
    omega
  have HFO := Lib.hid (show ∀ x, some xa = some x → ¬ foot (w1.alloc (.cells T 83)) g x.block from fun x hx e => HF.out x hx ((HFI.out _).1 ((hfi2 _).1 e)))
  have HO2 := Lib.hid (HO1.out.alloc (.cells T 83))
  obtain ⟨gs, hgs⟩ : ∃ gs, w1.heap.size = gs := ⟨_, rfl⟩
  obtain ⟨w2, hw2⟩ : ∃ w2, w1.alloc (.cells T 83) = w2 := ⟨_, rfl⟩
  rw [hw2] at HP2 HPL hfg HFO HO2 ⊢
  rw [hgs] at HPL hfg ⊢
  have HFG := Lib.hid hfg
  have HST := Lib.hid (PenW.start HP2.out.1)
  have hgl2 : gs < w2.heap.size := block_lt HPL.out
  clear hAL hfi2 hfg hgs hw2 HP1 HFI HO1 HO HF HW0 HPK HSZ HZS HONE hsz1
  go_wp2_with fail
  go_loopw [5] (fun mv wr => ∃ m : Nat, mv = .int .i64 m ∧ 4 ≤ m ∧ m ≤ 19 ∧ Hid (headN o m = headN o 19) ∧ wr = w2) (fun mv _ => (intOf mv).toNat)
  case atStart => exact ⟨19, rfl, by omega, by omega, Lib.hid rfl, rfl⟩
  case round =>
    obtain ⟨m, rfl, hm4, hm19, hN, rfl⟩ := hrel
    obtain ⟨k, rfl⟩ : ∃ k, m = k + 1 := ⟨m - 1, by omega⟩
    by_cases h4 : 4 < k + 1
    · have hp19 := places_lt k (by omega)
      have cp := HPC.out _ _ HPL.out k (by omega)
      obtain ⟨xa', he, -, cxa⟩ := HO2.out.at (placesN.getD k 0) (by rw [HL.out]; exact hp19)
      injection he with he
      subst he
      have co := cxa (placesN.getD k 0) (by rw [HL.out]; exact hp19)
      have hst : headN o (k + 1) = if 4 < k + 1 ∧ o.getD (placesN.getD k 0) 0 = 0 then headN o k else k + 1 := rfl
      obtain ⟨p, hp⟩ : ∃ p, placesN.getD k 0 = p := ⟨_, rfl⟩
      rw [hp] at hp19 cp co hst
      obtain ⟨V, hV⟩ : ∃ V, o.getD p 0 = V := ⟨_, rfl⟩
      rw [hV] at co hst
      have h4i : (4 : Int) < (k : Int) + 1 := by omega
      have hw1 : IntKind.i64.wrap ((k : Int) + 1 - 1) = (k : Int) := by rw [IntKind.wrap_i64]; omega
      have hk1 : (k : Int) + 1 - 1 = (k : Int) := by omega
      have hki : (k : Int) < 19 := by omega
      have hpi : (p : Int) < 19 := by omega
      have hk0 : (0 : Int) ≤ (k : Int) := by omega
      have hp0 : (0 : Int) ≤ (p : Int) := by omega
      clear cxa hp hV
      by_cases hz0 : V = 0
      · subst hz0
        rw [if_pos ⟨h4, rfl⟩] at hst
        have HN2 := Lib.hid (hst.symm.trans hN.out)
        clear hst
        go_wp2_with fail
        exact ⟨⟨k, rfl, by omega, by omega, HN2, by first | rfl | trivial⟩, by simp [intOf]⟩
      · rw [if_neg (fun e => hz0 e.2)] at hst
        have hzb : (V == 0) = false := by rw [beq_eq_false_iff_ne]; exact hz0
        have HNN := Lib.hid (hN.out.symm.trans hst)
        clear hst hz0
        go_wp2_with fail
        rw [show ((k : Int) + 1 - 4) = ((k + 1 - 4 : Nat) : Int) by omega]
        refine (wPut wr g B bits (k + 1 - 4) 4 HST.out.1 (by decide) (by omega) (by omega)).mono ?_; rintro e w3 ⟨rfl, hp3⟩
        obtain ⟨wo, rfl⟩ : ∃ wo : World, wo = wr := ⟨_, rfl⟩
        have HP3 := Lib.hid (show PenW wo w3 g B (bits ++ headTo o (k + 1) 0) by
          have e : headTo o (k + 1) 0 = bitsOf (k + 1 - 4) 4 := by unfold headTo; simp
          rw [e]; exact hp3)
        have hk19 : (k : Int) + 1 ≤ 19 := by omega
        have hsl := fun W => slA (k + 1) gs (by omega) W
        rw [show (((k + 1 : Nat)) : Int) = (k : Int) + 1 by omega] at hsl
        clear hp3
        go_wp2_with fail
        go_loopw [31] (fun iv wr => ∃ j : Nat, iv = .int .i64 j ∧ j ≤ k + 1 ∧ Hid (PenW wo wr g B (bits ++ headTo o (k + 1) j))) (fun iv _ => (k + 1) - (intOf iv).toNat)
        case atStart => exact ⟨0, rfl, Nat.zero_le _, HP3⟩
        case round =>
          clear HP3
          obtain ⟨j, rfl, hj, hp⟩ := hrel
          by_cases hjk : j < k + 1
          · have hp19 := places_lt j (by omega)
            have cp := (hp.out.cell (p := ⟨gs, j, none⟩) hgl2 HFG.out).trans (HPC.out _ _ HPL.out j (by omega))
            obtain ⟨xa', he, -, cxa⟩ := (hp.out.ints HO2.out HFO.out).at (placesN.getD j 0) (by rw [HL.out]; exact hp19)
            injection he with he
            subst he
            have co := cxa (placesN.getD j 0) (by rw [HL.out]; exact hp19)
            have hlb := headTo_len o (k + 1) j
            have hnx := headTo_next o (k + 1) j
            have hv7 := HB7.out (placesN.getD j 0)
            have hvl : o.getD (placesN.getD j 0) 0 = ((len o (placesN.getD j 0) : Nat) : Int) := by unfold len; omega
            rw [hvl] at co
            obtain ⟨X, hX⟩ : ∃ X, len o (placesN.getD j 0) = X := ⟨_, rfl⟩
            have hX7 : X ≤ 7 := by rw [← hX]; unfold len; omega
            have hlbj : lenB o j = bitsOf X 3 := by unfold lenB; rw [hX]
            rw [hlbj] at hnx
            rw [hX] at co
            obtain ⟨p, hpp⟩ : ∃ p, placesN.getD j 0 = p := ⟨_, rfl⟩
            rw [hpp] at hp19 cp co
            have HNX := Lib.hid hnx
            have HLB := Lib.hid hlb
            have hji : (j : Int) < (k : Int) + 1 := by omega
            have hpi : (p : Int) < 19 := by omega
            have hj0 : (0 : Int) ≤ (j : Int) := by omega
            have hp0 : (0 : Int) ≤ (p : Int) := by omega
            have hu : IntKind.u64.wrap (X : Int) = (X : Int) := IntWalk.u64_in _ (by omega)
            clear cxa hnx hlb hv7 hvl hX hlbj hpp
            go_wp2_with fail
            refine (wPut wr g B (bits ++ headTo o (k + 1) j) X 3 hp.out.1 (by decide) (by omega) (by rw [List.length_append, HLB.out]; omega)).mono ?_; rintro e w5 ⟨rfl, hp5⟩
            have HP5 := Lib.hid (show PenW wo w5 g B (bits ++ headTo o (k + 1) (j + 1)) by
              rw [HNX.out, ← List.append_assoc]; exact hp.out.chain hp5)
            clear hp5
            go_wp2_with fail
            go_roundw
            case rel => exact ⟨j + 1, by go_num, by omega, HP5⟩
            case measure => simp [intOf]; omega
          · obtain rfl : j = k + 1 := by omega
            have hji : ¬ (k : Int) + 1 < (k : Int) + 1 := by omega
            have HE := Lib.hid (show headTo o (k + 1) (k + 1) = headB o by unfold headB; rw [HNN.out])
            go_wp2_with fail
            go_end0
            exact ⟨rfl, by rw [← HE.out]; exact HP2.out.chain hp.out⟩
    · have h4i : ¬ (4 : Int) < (k : Int) + 1 := by omega
      have HNN := Lib.hid (show headN o 19 = k + 1 from by
        have hk : k = 3 := by omega
        subst hk
        have := hN.out
        rw [← this]; unfold headN; rw [if_neg (fun e => h4 e.1)])
      go_wp2_with fail
      rw [show ((k : Int) + 1 - 4) = ((k + 1 - 4 : Nat) : Int) by omega]
      refine (wPut wr g B bits (k + 1 - 4) 4 HST.out.1 (by decide) (by omega) (by omega)).mono ?_; rintro e w3 ⟨rfl, hp3⟩
      obtain ⟨wo, rfl⟩ : ∃ wo : World, wo = wr := ⟨_, rfl⟩
      have HP3 := Lib.hid (show PenW wo w3 g B (bits ++ headTo o (k + 1) 0) by
        have e : headTo o (k + 1) 0 = bitsOf (k + 1 - 4) 4 := by unfold headTo; simp
        rw [e]; exact hp3)
      have hk19 : (k : Int) + 1 ≤ 19 := by omega
      have hsl := fun W => slA (k + 1) gs (by omega) W
      rw [show (((k + 1 : Nat)) : Int) = (k : Int) + 1 by omega] at hsl
      clear hp3
      go_wp2_with fail
      go_loopw [31] (fun iv wr => ∃ j : Nat, iv = .int .i64 j ∧ j ≤ k + 1 ∧ Hid (PenW wo wr g B (bits ++ headTo o (k + 1) j))) (fun iv _ => (k + 1) - (intOf iv).toNat)
      case atStart => exact ⟨0, rfl, Nat.zero_le _, HP3⟩
      case round =>
        clear HP3
        obtain ⟨j, rfl, hj, hp⟩ := hrel
        by_cases hjk : j < k + 1
        · have hp19 := places_lt j (by omega)
          have cp := (hp.out.cell (p := ⟨gs, j, none⟩) hgl2 HFG.out).trans (HPC.out _ _ HPL.out j (by omega))
          obtain ⟨xa', he, -, cxa⟩ := (hp.out.ints HO2.out HFO.out).at (placesN.getD j 0) (by rw [HL.out]; exact hp19)
          injection he with he
          subst he
          have co := cxa (placesN.getD j 0) (by rw [HL.out]; exact hp19)
          have hlb := headTo_len o (k + 1) j
          have hnx := headTo_next o (k + 1) j
          have hv7 := HB7.out (placesN.getD j 0)
          have hvl : o.getD (placesN.getD j 0) 0 = ((len o (placesN.getD j 0) : Nat) : Int) := by unfold len; omega
          rw [hvl] at co
          obtain ⟨X, hX⟩ : ∃ X, len o (placesN.getD j 0) = X := ⟨_, rfl⟩
          have hX7 : X ≤ 7 := by rw [← hX]; unfold len; omega
          have hlbj : lenB o j = bitsOf X 3 := by unfold lenB; rw [hX]
          rw [hlbj] at hnx
          rw [hX] at co
          obtain ⟨p, hpp⟩ : ∃ p, placesN.getD j 0 = p := ⟨_, rfl⟩
          rw [hpp] at hp19 cp co
          have HNX := Lib.hid hnx
          have HLB := Lib.hid hlb
          have hji : (j : Int) < (k : Int) + 1 := by omega
          have hpi : (p : Int) < 19 := by omega
          have hj0 : (0 : Int) ≤ (j : Int) := by omega
          have hp0 : (0 : Int) ≤ (p : Int) := by omega
          have hu : IntKind.u64.wrap (X : Int) = (X : Int) := IntWalk.u64_in _ (by omega)
          clear cxa hnx hlb hv7 hvl hX hlbj hpp
          go_wp2_with fail
          refine (wPut wr g B (bits ++ headTo o (k + 1) j) X 3 hp.out.1 (by decide) (by omega) (by rw [List.length_append, HLB.out]; omega)).mono ?_; rintro e w5 ⟨rfl, hp5⟩
          have HP5 := Lib.hid (show PenW wo w5 g B (bits ++ headTo o (k + 1) (j + 1)) by
            rw [HNX.out, ← List.append_assoc]; exact hp.out.chain hp5)
          clear hp5
          go_wp2_with fail
          go_roundw
          case rel => exact ⟨j + 1, by go_num, by omega, HP5⟩
          case measure => simp [intOf]; omega
        · obtain rfl : j = k + 1 := by omega
          have hji : ¬ (k : Int) + 1 < (k : Int) + 1 := by omega
          have HE := Lib.hid (show headTo o (k + 1) (k + 1) = headB o by unfold headB; rw [HNN.out])
          go_wp2_with fail
          go_end0
          exact ⟨rfl, by rw [← HE.out]; exact HP2.out.chain hp.out⟩
end Go.Proofs.Ytopiiickeojpmaa

/- Layer 8: the codes, as a row of the call's own. -/
namespace Go.Proofs.Ytopiiickeojpmaa
open Go.ChangeShapes Go.WideShapes Go.ChangeAt Go.RowKit
set_option linter.unusedVariables false
set_option maxRecDepth 100000
open KraftMath CanonMath
set_option maxHeartbeats 3200000 in
theorem cCodesO (a : Option Addr) (c : Nat) (l : List Int) (w : World) (h : IsInts w a l) (hE : check l 16 = 0) :
    Calls Try.prog 26 #[.slice a l.length c] w fun e w' => ∃ v, e = .returned (.tuple #[v, .int .i64 0]) ∧ OwnI w.heap.size w' v (codesL l) ∧ Below w.heap.size w w' := by
  have C := kCheck_any a c 16 l w h
  · have hok := (check_ok l 16).1 hE
    have hO : codesL l = codeTo l l.length := by unfold codesL; rw [if_pos hE]
    have hll := hok.2.2.1
    have hg := fun k (hk : k < l.length) => hok.2.2.2.1 (l.getD k 0) (by simp [List.getD_eq_getElem?_getD, hk])
    have C2 := fun n => cCounts a c l (w.drewN n) h hok.2.2.2.1
    have C3 := cFirsts l _ rfl (by omega)
    rw [nxtA_start] at C3
    rw [hE] at C
    rw [hO]
    obtain ⟨hz, hi⟩ := arr_zero
    have HSZ : Hid ((Try.prog.info? 80).map (·.size) = some (arrI (nxtA l 0)).size) := by show _ = _; rw [hi, arrI_size, nxtA_len]
    have HZS : Hid ((arrI (List.replicate 17 0)).size = (arrI (nxtA l 0)).size) := by show _ = _; rw [arrI_size, arrI_size, nxtA_len, List.length_replicate]
    have HONE := Lib.hid (arrI_one (nxtA l 0))
    have HAN := Lib.hid (fun X => ArrAt.new X (nxtA l 0))
    obtain ⟨Z, hZ⟩ : ∃ Z, arrI (List.replicate 17 (0 : Int)) = Z := ⟨_, rfl⟩
    rw [hZ] at hz HZS
    have C_ := Lib.hid C
    have C2_ := Lib.hid C2
    have C3_ := Lib.hid C3
    have h_ := Lib.hid h
    have hg_ := Lib.hid hg
    clear C C2 C3 h hg
    clear hZ hi hok hE hO
    go_enter Try.func26, Try.ntmps26
    go_wp2_with fail
    refine C_.out.mono ?_; rintro e w0 ⟨rfl, n0, rfl⟩
    go_wp2_with fail
    refine (C2_.out n0).mono ?_; rintro e w1 ⟨rfl, hb1⟩
    have hb1 : Below w.heap.size w w1 := (below_dn (Below.refl _ w) n0).trans hb1
    go_wp2_with fail
    refine (C3_.out w1).mono ?_; rintro e w2 ⟨rfl, hb2⟩
    have hb2 : Below w.heap.size w w2 := hb1.trans (hb2.mono hb1.size)
    clear hb1
    have hnew : Hid ((w2.alloc (.cells Z 80)).heap[w2.heap.size]? = some (.cells Z 80 (0, 0))) := heap_alloc_new w2 _
    have HT := Lib.hid (HAN.out w2)
    obtain ⟨T, hT⟩ : ∃ T, arrI (nxtA l 0) = T := ⟨_, rfl⟩
    rw [hT] at HSZ HZS HONE
    have HTT := Lib.hid hT
    rw [hT]
    clear hT
    have HLl := Lib.hid (show l.length ≤ 1099511627776 by omega)
    go_wp2_with (first | (refine wpList_store_row rfl 80 (.tmp 5) (.tmp 16) rfl w2.heap.size T rfl rfl 80 Z hnew.out HSZ.out HZS.out HONE.out ?_; rw [setRow_last]) | (refine make_int rfl (.tmp 18) (.tmp 18) rfl .i64 .i64 _ _ l.length rfl rfl rfl rfl HLl.out ?_; intro w3 hown hb3 hsz3))
    rw [HTT.out] at HT
    have HA3 := Lib.hid (HT.out.kept hb3)
    have hbs2 := hb2.size
    have hb3 : Below w.heap.size w w3 := (hb2.alloc hb2.size _).trans (hb3.mono (by simp; omega))
    simp only [World.size_alloc] at hown hsz3
    rw [← codeTo_zero] at hown
    have hown_ := Lib.hid hown
    clear hown
    clear hz C_ C2_ C3_ hnew HAN HZS HONE HSZ HT HTT hb2
    go_wp2
    go_loopw [22] (fun i wr => ∃ k : Nat, k ≤ l.length ∧ i = .int .i64 k ∧ ArrAt wr w2.heap.size (nxtA l k) ∧ OwnI (w2.heap.size + 1) wr (.slice (some ⟨w2.heap.size + 1, 0, none⟩) l.length l.length) (codeTo l k) ∧ Below w.heap.size w wr) (fun i _ => l.length - (intOf i).toNat)
    case atStart => exact ⟨0, Nat.zero_le _, rfl, HA3.out, hown_.out, hb3⟩
    case round =>
      clear hb3
      obtain ⟨k, hk, rfl, hA, hown, hbel⟩ := hrel
      by_cases hlt : k < l.length
      · obtain ⟨x, rfl, hxb, hx⟩ := h_.out.at k hlt
        have cx := hx k hlt
        have cx : wr.cell? (x.add k) = some (.int .i64 (l.getD k 0)) := by rw [hbel.cell (by rw [add_block]; exact hxb)]; exact cx
        obtain ⟨g0, g1⟩ := hg_.out k hlt
        have Z0 := Lib.hid (fun e => And.intro (nxtA_zero l k hlt e) (codeTo_skip l k hlt e))
        have Z1 := Lib.hid (fun m a b c => And.intro (nxtA_one l k m hlt a b c) (codeTo_one l k m hlt a b c))
        obtain ⟨X, hX⟩ : ∃ X, l.getD k 0 = X := ⟨_, rfl⟩
        rw [hX] at cx g0 g1 Z0 Z1
        clear hX hx
        obtain ⟨m, rfl⟩ : ∃ m : Nat, X = m := ⟨X.toNat, by omega⟩
        by_cases h0 : m = 0
        · subst h0
          have HE := Lib.hid (Z0.out rfl)
          have hA_ := Lib.hid hA
          have hown_ := Lib.hid hown
          clear hA hown
          go_wp2
          go_roundw
          case rel => exact ⟨k + 1, by omega, by go_num, by rw [HE.out.1]; exact hA_.out, by rw [HE.out.2]; exact hown_.out, hbel⟩
          case measure => simp [intOf]; omega
        · have HE := Lib.hid (Z1.out m rfl (by omega) (by omega))
          have hc := hA.cell m (by rw [nxtA_len]; omega)
          have hfr := hA.free m
          have hfo := hown.free k
          have hcv : 0 ≤ (nxtA l k).getD m 0 ∧ (nxtA l k).getD m 0 ≤ 70368744177664 := by
            rw [nxtA_get _ _ _ (by omega), if_neg h0]
            have := cnt_le (l.take k) m
            have := first_bd l m (by omega)
            rw [List.length_take] at *
            omega
          have hq := hown.int_cell k (by rw [codeTo_len]; exact hlt)
          obtain ⟨C, hC⟩ : ∃ C, (nxtA l k).getD m 0 = C := ⟨_, rfl⟩
          have hc2 := hA.far (b := w2.heap.size + 1) (i := k) (by omega) (.int .i64 C)
          have HS := Lib.hid (hc2.set m (C + 1))
          have HO := Lib.hid (OwnS.grown (hown.set_int k C (by rw [codeTo_len]; exact hlt)) (World.grownBy_setCell ⟨w2.heap.size, m, none⟩ (.int .i64 (C + 1))) (.inr (by simp [Value.ownBlock])))
          rw [hC] at hc hcv HE
          rw [HE.out.1] at HS
          rw [HE.out.2] at HO
          have hA_ := Lib.hid hA
          have hown_ := Lib.hid hown
          have hc2_ := Lib.hid hc2
          clear hA hown hc2
          clear hC HE
          go_wp2
          go_roundw
          case rel => exact ⟨k + 1, by omega, by go_num, HS.out, HO.out, (hbel.setCell (by simp; omega) _).setCell (by simp; omega) _⟩
          case measure => simp [intOf]; omega
      · obtain rfl : k = l.length := by omega
        have HV := Lib.hid (hown.base (show w.heap.size ≤ w2.heap.size + 1 by omega))
        clear hown hA
        go_wp2
        go_ret2
        exact ⟨_, rfl, HV.out, hbel⟩
end Go.Proofs.Ytopiiickeojpmaa
