/- Layer 46: numbers out of bytes. -/
import Derived.Test.YtkdkedgpchcfpaaG17
import Derived.Laws.EntriesVeiled
namespace Go.Proofs.Ytkdkedgpchcfpaa
open Go.ChangeShapes Go.WideShapes Go.ChangeAt Go.RowKit
set_option linter.unusedVariables false
set_option maxRecDepth 100000
open Range
def MidT (s : TS) (n : Nat) : Prop := Fine s.d ∧ s.ch.length = 2 ^ n ∧ (∀ z ∈ s.ch, 1 ≤ z ∧ z ≤ 2047)
theorem MidT.fine {s : TS} {n : Nat} (h : MidT s n) : FineT ⟨s.d, s.ch, 1⟩ n 0 := ⟨h.1, h.2.1, h.2.2, by show 2 ^ 0 ≤ 1; decide, by show 1 < 2 ^ 1; decide⟩
theorem numD_eq (n : Nat) (s : TS) : numD 0 n s = stepsT ⟨s.d, s.ch, 1⟩ n := by unfold numD; rw [stepsT_zero]
theorem MidT.next {s : TS} {n : Nat} (h : MidT s n) : MidT (numD 0 n s) n := by
  rw [numD_eq]
  obtain ⟨h1, h2, h3, -⟩ := fineT_steps h.fine n (Nat.le_refl _)
  exact ⟨h1, h2, h3⟩
theorem midT0 (s : List UInt8) (n : Nat) : MidT (t0 s (2 ^ n)) n := ⟨fine_fresh s, by simp [t0], by intro z hz; have := (List.mem_replicate.1 hz).2; omega⟩
theorem midT_st {s : TS} {n : Nat} (h : MidT s n) : ∀ k, MidT (stD n s k) n
  | 0 => h
  | k + 1 => (midT_st h k).next
theorem TDec.below {w w' : World} {B gt gb gd bx n M : Nat} {s : TS} (h : TDec w B gt gb gd bx n s) (hb : Below M w w') (hM : B ≤ M) (h1 : gt < M) (h2 : gb < M) : TDec w' B gt gb gd bx n s := by
  obtain ⟨⟨t1, t2, t3⟩, t4, t5, t6, t7, t8, t9⟩ := h
  refine ⟨⟨(hb.block _ h1).trans t1, ⟨t2.1, ?_⟩, t3⟩, t4.kept hb (by omega), (hb.block _ (by omega)).trans t5, t6, t7, t8, t9⟩
  rcases t2.2 with hn | ⟨g, cap, cur, e, hbb, hgg, rest⟩
  · exact .inl hn
  · have : gb = g := by injection e with e _ _; injection e with e; injection e
    exact .inr ⟨g, cap, cur, e, hbb, (hb.block g (by omega)).trans hgg, rest⟩
set_option maxHeartbeats 3200000 in
theorem tDecode (s : ByteArray) (hs : s.size ≤ 1000000) (many n : Nat) (hn1 : 1 ≤ n) (hn : n ≤ 9) (hm : many ≤ 1048576) (w : World) :
    Calls Try.prog 27 #[.string s, .int .i64 many, .int .i64 n] w fun e w' => ∃ v, e = .returned (.tuple #[v, .int .i64 0]) ∧ OwnI w.heap.size w' v (outD n (t0 s.data.toList (2 ^ n)) many) ∧ Below w.heap.size w w' := by
  have C1 := Lib.hid (fun W => gNew s (by omega) W)
  have C2 := Lib.hid (fun W => tNew n hn W)
  have hmf : ∀ (fn : Fn) (first cap : Array Value) (w : World), (Instr.makeFunc fn first cap).run Try.prog w = .ok (.func fn first cap) w := fun _ _ _ _ => rfl
  have HM := Lib.hid (midT_st (midT0 s.data.toList n))
  have HT0 := Lib.hid (show t0 s.data.toList (2 ^ n) = ⟨fresh s.data.toList, List.replicate (2 ^ n) 1024, 1⟩ from rfl)
  obtain ⟨T0, hT0⟩ : ∃ T0, t0 s.data.toList (2 ^ n) = T0 := ⟨_, rfl⟩
  rw [hT0] at HM HT0 ⊢
  clear hT0
  go_enter Try.func27, Try.ntmps27
  go_wp2_with fail
  refine (C1.out _).mono ?_; rintro e w1 ⟨gd, rfl, hd1, hb1, hg1, hg2⟩
  have HD1 := Lib.hid hd1; have HB1 := Lib.hid hb1
  clear hd1 hb1 C1
  go_wp2_with fail
  refine (C2.out _).mono ?_; rintro e w2 ⟨gt, rfl, ht2, hb2, hg3, hg4⟩
  obtain ⟨gb, t1, t2, t3⟩ := ht2
  have hbs1 := HB1.out.size
  have hbx := (hb2.block w1.heap.size (by simp)).trans (heap_alloc_new w1 (.cells #[.pointer (some ⟨gd, 0, none⟩)] 36))
  have hB12 := HB1.out.trans ((Below.refl w.heap.size w1).alloc hbs1 (.cells #[.pointer (some ⟨gd, 0, none⟩)] 36) |>.trans (hb2.mono (by simp; omega)))
  have hd2 := (HD1.out.kept (w' := w1.alloc (.cells #[.pointer (some ⟨gd, 0, none⟩)] 36)) (B := w1.heap.size) ((Below.refl _ _).alloc (Nat.le_refl _) _) hg2).kept hb2 (by simp; omega)
  have hs1 : (w1.alloc (.cells #[.pointer (some ⟨gd, 0, none⟩)] 36)).heap.size = w1.heap.size + 1 := by simp
  rw [hs1] at hg3 t2 hb2
  have f2 := free_in t1 2
  have c2 := cell_lit t1 2 _ rfl
  have hgb := (World.ownsRow.lt t2 gb rfl)
  obtain ⟨X, hX⟩ : ∃ X, w2.setCell ⟨gt, 2, none⟩ (askV w1.heap.size) = X := ⟨_, rfl⟩
  have hXs : X.heap.size = w2.heap.size := by rw [← hX]; simp
  have hkX : Below (w1.heap.size + 1) w2 X := by rw [← hX]; exact (Below.refl _ _).setCell (p := ⟨gt, 2, none⟩) (by show w1.heap.size + 1 ≤ gt; omega) _
  have hTX : TDec X (w1.heap.size + 1) gt gb gd w1.heap.size n T0 := by
    have hkX2 : Keeps (fun j => j = gt) w2 X := by rw [← hX]; exact (Keeps.refl (fun j => j = gt) w2).setCell (p := ⟨gt, 2, none⟩) (.inr rfl) _
    rw [HT0.out]
    refine ⟨⟨?_, ?_, t3⟩, (hd2.kept hkX (by omega)), (hkX.block _ (by omega)).trans hbx, by omega, by omega, by omega, by omega⟩
    · rw [← hX]; exact block_set t1 2 _
    · exact hkX2.ownsRow t2 (fun j hj e => by
        have : gb = j := by simpa [Value.ownBlock] using hj
        have e' : j = gt := e
        exact t3 (by omega))
  have hB12' := hB12.trans (hkX.mono (by omega))
  clear t1 t2 hd2 hbx hB12 HB1 HD1
  have HXS := Lib.hid hXs
  clear hXs
  go_wp2_with (refine make_int rfl _ _ rfl .i64 .i64 _ _ many rfl rfl rfl rfl (by omega) ?_; intro w3 hown3 hb3 hz3)
  obtain ⟨go, hgo⟩ : ∃ go, X.heap.size = go := ⟨_, rfl⟩
  rw [hgo] at hown3 hz3 hb3 ⊢
  have hXs := HXS.out
  have hT3 := hTX.below hb3 (by omega) (by omega) (by omega)
  have hb13 := hB12'.trans (hb3.mono (by have := hB12'.size; omega))
  have HO := Lib.hid hown3
  have HT := Lib.hid hT3
  have HB := Lib.hid hb13
  have hwgo : w.heap.size ≤ go := by have := hB12'.size; omega
  have hgtgo : gt < go := by omega
  have hgbgo : gb < go := by omega
  have hgdgo : gd < go := by omega
  obtain ⟨B, hB⟩ : ∃ B, w1.heap.size + 1 = B := ⟨_, rfl⟩
  obtain ⟨bx, hbxx⟩ : ∃ bx, w1.heap.size = bx := ⟨_, rfl⟩
  rw [hB] at HT
  rw [hbxx] at HT ⊢
  have hwB : w.heap.size ≤ B := by omega
  have hBgo : B ≤ go := by omega
  have hgwd : w.heap.size ≤ gd := by omega
  have hgwb : w.heap.size ≤ gb := by omega
  clear hown3 hT3 hb13 hTX hB12' hb3 hkX hX hXs hgo hb2 hB hbxx hg1 hg2 hg3 hg4 hgb f2 c2 hs1 hz3 t3 hmf hbs1
  go_wp2_with fail
  go_loopw [38] (fun i wr => ∃ k : Nat, k ≤ many ∧ i = .int .i64 k ∧ TDec wr B gt gb gd bx n (stD n T0 k) ∧ OwnI go wr (.slice (some ⟨go, 0, none⟩) many many) (outD n T0 k ++ List.replicate (many - k) 0) ∧ Below w.heap.size w wr) (fun i _ => many - (intOf i).toNat)
  case atStart => exact ⟨0, Nat.zero_le _, rfl, HT.out, HO.out, HB.out⟩
  case round =>
    obtain ⟨k, hk, rfl, ht, hown, hb⟩ := hrel
    by_cases hlt : k < many
    · have HS := Lib.hid (outD_succ n T0 k)
      have HE := Lib.hid (show stD n T0 (k + 1) = stepsT ⟨(stD n T0 k).d, (stD n T0 k).ch, 1⟩ n from numD_eq n _)
      have hfi := (HM.out k).fine
      have hol : (outD n T0 k).length = k := outD_len n T0 k
      have CN := Lib.hid (fun W (h : TDec W B gt gb gd bx n ⟨(stD n T0 k).d, (stD n T0 k).ch, 1⟩) => tNumD W B gt gb gd bx n ⟨(stD n T0 k).d, (stD n T0 k).ch, 1⟩ hn h hfi rfl)
      rw [← HE.out] at CN
      obtain ⟨OL, hOL⟩ : ∃ OL, outD n T0 k = OL := ⟨_, rfl⟩
      obtain ⟨TN, hTN⟩ : ∃ TN, stD n T0 (k + 1) = TN := ⟨_, rfl⟩
      rw [hOL] at hown HS hol
      rw [hTN] at HS CN
      have HTN := Lib.hid hTN
      have HT1 := Lib.hid (ht.row 1)
      have HO1 := Lib.hid hown
      have HB1 := Lib.hid hb
      have HOL := Lib.hid hol
      clear ht hown hb hfi hOL hTN HE hol
      go_wp2_with fail
      refine (CN.out _ HT1.out).mono ?_; rintro e w4 ⟨rfl, ht4, hk4⟩
      obtain ⟨R, hR⟩ : ∃ R, ((TN.r : Int) - (2 ^ n : Nat)) = R := ⟨_, rfl⟩
      have hown4 : OwnI go w4 (.slice (some ⟨go, 0, none⟩) many many) (OL ++ List.replicate (many - k) 0) := hk4.ownsRow HO1.out (fun j hj e => by
        have : go = j := by simpa [Value.ownBlock] using hj
        have e' : j = gd ∨ j = gb := e
        omega)
      have hll : (OL ++ List.replicate (many - k) (0 : Int)).length = many := by rw [List.length_append, HOL.out]; simp; omega
      have cx := OwnS.int_cell hown4 k (by rw [hll]; exact hlt)
      have fx := hown4.free k
      have hown5 := OwnS.set_int hown4 k R (by rw [hll]; exact hlt)
      have e1 : (OL ++ List.replicate (many - k) 0).set k R = OL ++ [R] ++ List.replicate (many - (k + 1)) 0 := by
        rw [List.set_append_right _ _ (by rw [HOL.out]; omega), HOL.out, Nat.sub_self]
        obtain ⟨m, hm⟩ : ∃ m, many - k = m + 1 := ⟨many - k - 1, by omega⟩
        rw [hm, show many - (k + 1) = m by omega, List.replicate_succ]
        simp
      rw [e1, ← hR, ← HS.out] at hown5
      have ht5 := ht4.below ((Below.refl go w4).setCell (p := ⟨go, k, none⟩) (Nat.le_refl _) (.int .i64 R)) (by omega) hgtgo hgbgo
      have hbs := HB1.out.size
      have hbs1 : w.heap.size ≤ wr.heap.size := HB1.out.size
      have hb5 := (HB1.out.trans (hk4.below (B := w.heap.size) (fun j hj => ⟨Nat.lt_of_lt_of_le hj hbs1, fun e => by have e' : j = gd ∨ j = gb := e; omega⟩))).setCell (p := ⟨go, k, none⟩) hwgo (.int .i64 R)
      rw [hR] at hown5 ⊢
      have HT5 := Lib.hid ht5; have HO5 := Lib.hid hown5; have HB5 := Lib.hid hb5
      clear ht4 hk4 hown4 e1 hll hR ht5 hown5 hb5 hbs
      go_wp2_with fail
      go_roundw
      case rel => exact ⟨k + 1, by omega, by go_num, by rw [HTN.out]; exact HT5.out, HO5.out, HB5.out⟩
      case measure => simp [intOf]; omega
    · obtain rfl : k = many := by omega
      rw [Nat.sub_self, List.replicate_zero, List.append_nil] at hown
      have HO1 := Lib.hid hown
      have HB1 := Lib.hid hb
      clear ht hown hb
      go_wp2_with fail
      go_ret2
      exact ⟨_, rfl, HO1.out.base hwgo, HB1.out⟩
end Go.Proofs.Ytkdkedgpchcfpaa
