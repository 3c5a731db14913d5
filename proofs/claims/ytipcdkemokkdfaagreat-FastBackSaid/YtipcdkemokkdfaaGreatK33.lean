import Derived.Test.YtipcdkemokkdfaaGreatK32
/- Layer 13: a run is read. -/
namespace Go.Proofs.YtipcdkemokkdfaaGreat
open Go.ChangeShapes Go.WideShapes Go.ChangeAt Go.RowKit
set_option linter.unusedVariables false
set_option linter.unusedSimpArgs false
set_option maxRecDepth 100000
open Bits hiding packF pack_length
open RunsMath KraftMath CanonMath TurnMath Pm
theorem tab_keeps {w w' : World} {B gt ge L N g : Nat} {tab : List (Int × Int)} (h : IsTab w B gt ge L N tab) (hk : Keeps (fun k => k = g) w w') (h1 : gt ≠ g) (h2 : ge ≠ g) : IsTab w' B gt ge L N tab :=
  ⟨hk.heap h.tb h1, hk.ownsRow h.row (fun j hj e => h2 ((show ge = j by simpa [Value.ownBlock] using hj).trans e))⟩
/-- How the reader's table stands. -/
structure Tb13 (w : World) (B gt ge g : Nat) (o : List Int) : Prop where
  tab : IsTab w B gt ge 7 128 (tabK o 7 o.length)
  far1 : gt ≠ g
  far2 : ge ≠ g
structure Of13 (o : List Int) : Prop where
  lens : ∀ s, s < o.length → len o s ≤ 7
  few : o.length ≤ 1024
theorem Tb13.keeps {w w' : World} {B gt ge g : Nat} {o : List Int} (h : Tb13 w B gt ge g o) (hk : Keeps (fun k => k = g) w w') : Tb13 w' B gt ge g o := ⟨tab_keeps h.tab hk h.far1 h.far2, h.far1, h.far2⟩
theorem keeps_new {w : World} {S : Nat → Prop} (o : Obj) : Keeps S w (w.alloc o) := (Keeps.refl S w).alloc _
theorem reader_away {w w' : World} {g a : Nat} {s : List UInt8} (h : IsReader w g s a) {k : Nat} (hk : ∀ j x, w.cell? ⟨k, j, none⟩ ≠ some (.int .u8 x)) (hne : k ≠ g) (hK : Keeps (fun b => b = k) w w') : IsReader w' g s a := by
  obtain ⟨p, L, C, hg, h1, h2, h3, h4, h5, h6⟩ := h
  refine ⟨p, L, C, hK.heap hg (fun e => hne e.symm), h1, h2, h3, h4, h5, fun h0 => ?_⟩
  obtain ⟨b, o, e, hb, hlt, hc⟩ := h6 h0
  have hbk : b ≠ k := by
    rintro rfl
    exact hk _ _ (hc 0 h0)
  exact ⟨b, o, e, hb, Nat.lt_of_lt_of_le hlt hK.size, fun j hj => (hK.cell (p := ⟨b, o + j, none⟩) hlt hbk).trans (hc j hj)⟩
theorem cell2_reader {w : World} {g a gx : Nat} {s : List UInt8} {u v : Int} {t : TypeId} (h : IsReader w g s a) (hx : w.heap[gx]? = some (.cells #[.int .i64 u, .int .i64 v] t (0, 0))) (hne : g < gx) (X K : Value) : IsReader ((w.setCell ⟨gx, 0, none⟩ X).setCell ⟨gx, 1, none⟩ K) g s a := by
  refine reader_away h (k := gx) (fun j x e => ?_) (by omega) (((Keeps.refl (fun b => b = gx) w).setCell (p := ⟨gx, 0, none⟩) (.inr rfl) X).setCell (p := ⟨gx, 1, none⟩) (.inr rfl) K)
  rw [cell_in hx j] at e
  rcases j with _ | _ | j <;> simp at e
set_option maxHeartbeats 1600000 in
theorem tRunOk (w0 : World) (g t B gt ge : Nat) (s : List UInt8) (o : List Int) (h : IsReader w0 g s t) (ht : Tb13 w0 B gt ge g o) (ho : Of13 o) (X Y : Int) (hX : nextL o 7 ((spread s).drop t) = (X, Y, 0)) (n : Nat) (hn : extra X = n) (hf : t + Y.toNat + n ≤ 8 * s.length) :
    Calls Tryz.prog 110 #[.pointer (some ⟨g, 0, none⟩), .pointer (some ⟨gt, 0, none⟩)] w0 fun e w' => e = .returned (.agg #[.int .i64 X, .int .i64 (peek ((spread s).drop (t + Y.toNat)) n : Nat)]) ∧ IsReader w' g s (t + Y.toNat + n) ∧ Keeps (fun k => k = g) w0 w' ∧ ∀ B, Far w0 g B → Far w' g B := by
  have HR := Lib.hid h
  have HT := Lib.hid ht
  have hn7 : n ≤ 56 := by rw [← hn]; have := extra7 X; omega
  have CE := Lib.hid (fun W => rExtra X n (by rw [hn]) W)
  have CN := Lib.hid (fun W (h1 : IsReader W g s t) (h2 : Tb13 W B gt ge g o) => fNextF W B gt ge g 7 o s t (by decide) (by decide) ho.lens ho.few h2.tab h1 h2.far1 h2.far2 X Y 0 hX)
  have CT := Lib.hid (fun W (h1 : IsReader W g s (t + Y.toNat)) => tTakeIn W g (t + Y.toNat) n s h1 hn7 hf)
  obtain ⟨K, hK⟩ : ∃ K, peek ((spread s).drop (t + Y.toNat)) n = K := ⟨_, rfl⟩
  rw [hK] at CT ⊢
  have CM := Lib.hid mOk
  clear h ht ho hX hn hf hK hn7
  go_enter Tryz.func110, Tryz.ntmps110
  go_wp2_with fail
  obtain ⟨w1, hw1⟩ : ∃ w1, w0.alloc (.cells #[.int .i64 0, .int .i64 0] 97) = w1 := ⟨_, rfl⟩
  have hk1 : Keeps (fun k => k = g) w0 w1 := by rw [← hw1]; exact keeps_new _
  have hb1 : Below w0.heap.size w0 w1 := by rw [← hw1]; exact (Below.refl _ _).alloc (Nat.le_refl _) _
  have hx1 := heap_alloc_new w0 (.cells #[.int .i64 0, .int .i64 0] 97)
  obtain ⟨gx, hgx⟩ : ∃ gx, w0.heap.size = gx := ⟨_, rfl⟩
  have hgx0 : w0.heap.size ≤ gx := by omega
  have hgg : g < gx := by rw [← hgx]; exact HR.out.lt
  rw [hw1] at hx1 ⊢
  rw [hgx] at hx1 ⊢
  have hgx1 : gx < w1.heap.size := block_lt hx1
  have HR1 := Lib.hid (IsReader.kept HR.out hb1)
  have HT1 := Lib.hid (HT.out.keeps hk1)
  clear hgx hw1
  have C1 := Lib.hid (CN.out w1 HR1.out HT1.out)
  refine C1.out.mono ?_; rintro e w2 ⟨rfl, hr2, hk2, hF2⟩
  have HX2 := Lib.hid (show w2.heap[gx]? = some (.cells #[.int .i64 0, .int .i64 0] 97 (0, 0)) from (hk2.block gx hgx1 (by show ¬ gx = g; omega)).trans hx1)
  have C2 := Lib.hid (CT.out w2 hr2)
  have HF2 := Lib.hid (fun B (hF : Far w0 g B) => hF2 B (Far.kept hF (hb1.block g HR.out.lt)))
  have HK2 := Lib.hid (hk1.trans' hk2 (fun j hj hf => hf))
  clear hF2 hk1 hk2 hr2 hx1 hb1 CN CT C1 HR1 HT1 HT HR
  go_wp2_with fail
  refine (CM.out _).mono ?_; rintro e w3 ⟨rfl, rfl⟩
  go_wp2_with fail
  refine (CE.out _).mono ?_; rintro e w4 ⟨rfl, rfl⟩
  go_wp2_with fail
  refine C2.out.mono ?_; rintro e w5 ⟨rfl, hr5, hk5, hF5⟩
  have hX5 : w5.heap[gx]? = some (.cells #[.int .i64 0, .int .i64 0] 97 (0, 0)) := (hk5.block gx (block_lt HX2.out) (by show ¬ gx = g; omega)).trans HX2.out
  have HK5 := Lib.hid (HK2.out.trans' hk5 (fun j hj hf => hf))
  have HR5 := Lib.hid (cell2_reader hr5 hX5 (by omega) (.int .i64 X) (.int .i64 (K : Int)))
  have HF5 := Lib.hid (fun B (hF : Far w0 g B) => Far.kept (hF5 B (HF2.out B hF)) (show ((w5.setCell ⟨gx, 0, none⟩ (.int .i64 X)).setCell ⟨gx, 1, none⟩ (.int .i64 (K : Int))).heap[g]? = w5.heap[g]? from by rw [Below.heap_setCell _ _ _ _ (by show g ≠ gx; omega), Below.heap_setCell _ _ _ _ (by show g ≠ gx; omega)]))
  have HKE := Lib.hid ((HK5.out.setCell (p := ⟨gx, 0, none⟩) (.inl hgx0) (.int .i64 X)).setCell (p := ⟨gx, 1, none⟩) (.inl hgx0) (.int .i64 (K : Int)))
  have c0 := cell_in hX5 0
  have c1 := cell_in hX5 1
  have f0 := free_in hX5 0
  have f1 := free_in hX5 1
  have hX7 : ((w5.setCell ⟨gx, 0, none⟩ (.int .i64 X)).setCell ⟨gx, 1, none⟩ (.int .i64 (K : Int))).heap[gx]? = some (.cells #[.int .i64 X, .int .i64 (K : Int)] 97 (0, 0)) := block_set (block_set hX5 0 _) 1 _
  have q0 := cell_in hX7 0
  have q1 := cell_in hX7 1
  simp only [List.getElem?_toArray, List.getElem?_cons_zero, List.getElem?_cons_succ] at q0 q1 c0 c1
  clear hF5 HX2 C2 CE CM hr5 hk5 HK2 hgx1 hX5 HK5 hX7
  go_wp2_with fail
  refine bodyPost_ret (v := .agg #[.int .i64 X, .int .i64 (K : Int)]) (by simp [results, Tryz.results110, go_sem, q0, q1]) rfl ⟨rfl, HR5.out, HKE.out, HF5.out⟩

set_option maxHeartbeats 1600000 in
theorem tRunNo (w0 : World) (g t B gt ge : Nat) (s : List UInt8) (o : List Int) (h : IsReader w0 g s t) (ht : Tb13 w0 B gt ge g o) (ho : Of13 o) (X Y E : Int) (hX : nextL o 7 ((spread s).drop t) = (X, Y, E)) (hE : E ≠ 0) :
    Calls Tryz.prog 110 #[.pointer (some ⟨g, 0, none⟩), .pointer (some ⟨gt, 0, none⟩)] w0 fun e w' => e = .panicked [flt E] ∧ Keeps (fun k => k = g) w0 w' := by
  have HR := Lib.hid h
  have HT := Lib.hid ht
  have CN := Lib.hid (fun W (h1 : IsReader W g s t) (h2 : Tb13 W B gt ge g o) => fNext W B gt ge g 7 o s t (by decide) (by decide) ho.lens ho.few h2.tab h1 h2.far1 h2.far2 X Y E hX)
  have CM := Lib.hid (fun W => mNo E hE W)
  clear h ht ho hX hE
  go_enter Tryz.func110, Tryz.ntmps110
  go_wp2_with fail
  obtain ⟨w1, hw1⟩ : ∃ w1, w0.alloc (.cells #[.int .i64 0, .int .i64 0] 97) = w1 := ⟨_, rfl⟩
  have hk1 : Keeps (fun k => k = g) w0 w1 := by rw [← hw1]; exact keeps_new _
  have hb1 : Below w0.heap.size w0 w1 := by rw [← hw1]; exact (Below.refl _ _).alloc (Nat.le_refl _) _
  rw [hw1] at ⊢
  have HR1 := Lib.hid (IsReader.kept HR.out hb1)
  have HT1 := Lib.hid (HT.out.keeps hk1)
  clear hw1
  have C1 := Lib.hid (CN.out w1 HR1.out HT1.out)
  refine C1.out.mono ?_; rintro e w2 ⟨rfl, hr2, hk2⟩
  have HK2 := Lib.hid (hk1.trans' hk2 (fun j hj hf => hf))
  clear hk1 hk2 hr2 hb1 CN C1 HR1 HT1 HT HR
  go_wp2_with fail
  refine (CM.out _).mono ?_; rintro e w3 ⟨rfl, rfl⟩
  go_wp2_with fail
  exact ⟨rfl, rfl, HK2.out⟩
set_option maxHeartbeats 1600000 in
theorem tRunShort (w0 : World) (g t B gt ge : Nat) (s : List UInt8) (o : List Int) (h : IsReader w0 g s t) (ht : Tb13 w0 B gt ge g o) (ho : Of13 o) (X Y : Int) (hX : nextL o 7 ((spread s).drop t) = (X, Y, 0)) (n : Nat) (hn : extra X = n) (hf : 8 * s.length < t + Y.toNat + n) :
    Calls Tryz.prog 110 #[.pointer (some ⟨g, 0, none⟩), .pointer (some ⟨gt, 0, none⟩)] w0 fun e w' => e = .panicked [flt 3] ∧ Keeps (fun k => k = g) w0 w' := by
  have HR := Lib.hid h
  have HT := Lib.hid ht
  have hn7 : n ≤ 56 := by rw [← hn]; have := extra7 X; omega
  have CE := Lib.hid (fun W => rExtra X n (by rw [hn]) W)
  have CN := Lib.hid (fun W (h1 : IsReader W g s t) (h2 : Tb13 W B gt ge g o) => fNext W B gt ge g 7 o s t (by decide) (by decide) ho.lens ho.few h2.tab h1 h2.far1 h2.far2 X Y 0 hX)
  have CT := Lib.hid (fun W (h1 : IsReader W g s (t + Y.toNat)) => tTakeOut W g (t + Y.toNat) n s h1 hn7 hf)
  have CM := Lib.hid mOk
  clear h ht ho hX hn hf hn7
  go_enter Tryz.func110, Tryz.ntmps110
  go_wp2_with fail
  obtain ⟨w1, hw1⟩ : ∃ w1, w0.alloc (.cells #[.int .i64 0, .int .i64 0] 97) = w1 := ⟨_, rfl⟩
  have hk1 : Keeps (fun k => k = g) w0 w1 := by rw [← hw1]; exact keeps_new _
  have hb1 : Below w0.heap.size w0 w1 := by rw [← hw1]; exact (Below.refl _ _).alloc (Nat.le_refl _) _
  rw [hw1] at ⊢
  have HR1 := Lib.hid (IsReader.kept HR.out hb1)
  have HT1 := Lib.hid (HT.out.keeps hk1)
  clear hw1
  have C1 := Lib.hid (CN.out w1 HR1.out HT1.out)
  refine C1.out.mono ?_; rintro e w2 ⟨rfl, hr2, hk2⟩
  have HK2 := Lib.hid (hk1.trans' hk2 (fun j hj hf => hf))
  have C2 := Lib.hid (CT.out w2 hr2)
  clear hk1 hk2 hr2 hb1 CN C1 HR1 HT1 HT HR CT
  go_wp2_with fail
  refine (CM.out _).mono ?_; rintro e w3 ⟨rfl, rfl⟩
  go_wp2_with fail
  refine (CE.out _).mono ?_; rintro e w4 ⟨rfl, rfl⟩
  go_wp2_with fail
  refine C2.out.mono ?_; rintro e w5 ⟨rfl, k, rfl⟩
  go_wp2_with fail
  exact ⟨rfl, rfl, HK2.out.drewN _⟩
end Go.Proofs.YtipcdkemokkdfaaGreat
