import Derived.Test.YtipcdkemokkdfaaGreatK35
import Derived.Test.YtipcdkemokkdfaaGreatK31
import Derived.Laws.Cover3
import Derived.Test.YtipcdkemokkdfaaGreatK26
import Derived.Test.YtipcdkemokkdfaaGreatK06
import Derived.Test.YtipcdkemokkdfaaGreatK05
/- Layer 13: Size, and what the example reads. -/
namespace Go.Proofs.YtipcdkemokkdfaaGreat
open Go.ChangeShapes Go.WideShapes Go.ChangeAt Go.RowKit
set_option linter.unusedVariables false
set_option linter.unusedSimpArgs false
set_option maxRecDepth 100000
open Bits hiding packF pack_length
open RunsMath KraftMath CanonMath TurnMath Pm
/-- A writer of the call's own. -/
structure Wr (N : Nat) (w0 w : World) (g B : Nat) (bits : List Bool) : Prop where
  wr : IsWriter w g B bits
  old : Below N w0 w
  feet : ∀ k, foot w g k → N ≤ k
theorem Wr.pen {N : Nat} {w0 w w' : World} {g B : Nat} {b1 b2 : List Bool} (h : Wr N w0 w g B b1) (p : PenW w w' g B b2) (hN : N ≤ w.heap.size) : Wr N w0 w' g B b2 :=
  ⟨p.1, h.old.trans (p.2.1.below (fun k hk => ⟨by omega, fun e => by have := h.feet k e; omega⟩)), fun k hk => by
    rcases p.2.2 k hk with e | e
    · exact h.feet k e
    · omega⟩
theorem Wr.below {N : Nat} {w0 w w' : World} {g B : Nat} {b1 : List Bool} (h : Wr N w0 w g B b1) (hb : Below w.heap.size w w') (hN : N ≤ w.heap.size) : Wr N w0 w' g B b1 := by
  obtain ⟨h1, h2⟩ := IsWriter.keep (S := fun _ => False) h.wr (Keeps.of_below hb) (fun _ _ h => h)
  exact ⟨h1, h.old.trans (hb.mono hN), fun k hk => h.feet k ((h2 k).1 hk)⟩
end Go.Proofs.YtipcdkemokkdfaaGreat

/- Layer 27: tokens are written, walked. -/
namespace Go.Proofs.YtipcdkemokkdfaaGreat
open Go.ChangeShapes Go.WideShapes Go.ChangeAt Go.RowKit
set_option linter.unusedVariables false
set_option linter.unusedSimpArgs false
set_option maxRecDepth 100000
open Bits hiding packF pack_length
open RunsMath KraftMath CanonMath TurnMath Pm
theorem own_slI {B : Nat} {w : World} {v : Value} {l : List Int} (h : OwnI B w v l) (h0 : l.length ≠ 0) (hl : l.length ≤ 1000) : ∃ g c, v = .slice (some ⟨g, 0, none⟩) l.length c ∧ B ≤ g ∧ g < w.heap.size ∧ IsInts w (some ⟨g, 0, none⟩) l := by
  obtain ⟨g, c, rfl, h1, h2⟩ := own_getI h h0
  exact ⟨g, c, rfl, h1, h2, own_ints h (by omega)⟩
theorem wr_bk {w4 wr : World} {g B : Nat} {bits : List Bool} {gc gm : Nat} {l : List Int} (h : Wr w4.heap.size w4 wr g B bits) (h1 : IsInts w4 (some ⟨gc, 0, none⟩) (turnedL l)) (h2 : IsInts w4 (some ⟨gm, 0, none⟩) l) (b1 : gc < w4.heap.size) (b2 : gm < w4.heap.size) (hE : check l 16 = 0) : Bk wr g (some ⟨gc, 0, none⟩) (some ⟨gm, 0, none⟩) l :=
  ⟨h1.kept h.old, h2.kept h.old, fun x hx e => by injection hx with hx; subst hx; have := h.feet _ e; simp only at this; omega, fun x hx e => by injection hx with hx; subst hx; have := h.feet _ e; simp only at this; omega, hE⟩
theorem wr_box {w4 wr : World} {g B gA : Nat} {bits : List Bool} {cs : Array Value} {t : TypeId} (h : Wr w4.heap.size w4 wr g B bits) (hb : w4.heap[gA]? = some (.cells cs t (0, 0))) : wr.heap[gA]? = some (.cells cs t (0, 0)) := (h.old.block gA (block_lt hb)).trans hb
theorem eql_nilI (a : Option Addr) (l c : Nat) (W : World) : (binOp .eql 65 (.slice a l c) (.slice none 0 0)).run Tryz.prog W = .ok (.bool a.isNone) W := by
  simp only [binOp]
  simp [run_equal_slice_nil W 65 3 a l c Tryz.underlying65]
theorem tok_cases {t : Tk} (h : t.ok) : (∃ b : Int, (0 ≤ b ∧ b ≤ 255) ∧ t = ⟨0, b, 0, 0, 0⟩) ∨ (∃ l d : Nat, (2 ≤ l ∧ l ≤ 258) ∧ (1 ≤ d ∧ d ≤ 67108864) ∧ t = ⟨1, 0, (l : Int), (d : Int), 0⟩) ∨ (∃ l r : Nat, (2 ≤ l ∧ l ≤ 258) ∧ r ≤ 3 ∧ t = ⟨2, 0, (l : Int), 0, (r : Int)⟩) := by
  obtain ⟨k, b, l, d, r⟩ := t
  unfold Tk.ok Tok.OkTok at h
  simp only at h
  rcases h with ⟨rfl, h1, h2, rfl, rfl, rfl⟩ | ⟨rfl, h1, h2, h3, h4, rfl, rfl⟩ | ⟨rfl, h1, h2, h3, h4, rfl, rfl⟩
  · exact .inl ⟨b, ⟨h1, h2⟩, rfl⟩
  · exact .inr (.inl ⟨l.toNat, d.toNat, by omega, by omega, by rw [Int.toNat_of_nonneg (by omega), Int.toNat_of_nonneg (by omega)]⟩)
  · exact .inr (.inr ⟨l.toNat, r.toNat, by omega, by omega, by rw [Int.toNat_of_nonneg (by omega), Int.toNat_of_nonneg (by omega)]⟩)
set_option maxHeartbeats 6400000 in
theorem cWriteNear (a : Option Addr) (c n : Nat) (l : List Tk) (M D : List Int) (w : World) (hl : l.length = n) (h : IsTk w a l) (h0 : n ≠ 0) (hn : n ≤ 300) (hok : ∀ t ∈ l, t.ok) (hMe : tabL (tl l).1 = M) (hDe : tabL (tl l).2 = D) (T : Tabs l M D) (hf : ¬ ∃ t ∈ l, t.k = 1) :
    Calls Tryz.prog 15 #[.slice a n c] w fun e w' => ∃ g B, e = .returned (.tuple #[.pointer (some ⟨g, 0, none⟩), .int .i64 0]) ∧ Wr w.heap.size w w' g B (codedB l M D) := by
  have HT := Lib.hid T
  have HI := Lib.hid h
  have HOK := Lib.hid hok
  have hM := T.lm
  have hD := T.ld
  have hokM := T.okM
  have h16M := (check_16 hokM).1
  have HM0 := Lib.hid (show M ≠ [] from fun e => by rw [e] at hM; simp at hM)
  have HD0 := Lib.hid (show D ≠ [] from fun e => by rw [e] at hD; simp at hD)
  have CT := Lib.hid (cTabG a c n l w hl h (by omega) (tl l).1 (tl l).2 (by unfold frA; rw [if_pos hok]) (tl_len l).1 (tl_len l).2)
  rw [hMe, hDe] at CT
  have hni : ((n : Int) == 0) = false := by rw [beq_eq_false_iff_ne]; omega
  have HLN := Lib.hid hl
  have CBM := Lib.hid (fun a c W (h : IsInts W a M) => by have := cBook a c M W h h16M (by omega) HM0.out; rw [hM] at this; exact this)
  have CPM := Lib.hid (fun (W : World) g B (h : IsWriter W g B []) a c (hi : IsInts W a M) => by have := cPutOk W g B [] h (by simp) a c M hi HM0.out (by omega) T.vM; rw [hM] at this; exact this)
  have hMb := tabB_few HM0.out (by omega) T.vM
  have hbad : check D 16 ≠ 0 := by rw [T.near hf]; exact none_bad
  have CBD := Lib.hid (fun a c W (h : IsInts W a D) => by have := cBookNil a c D W h hbad; rw [hD] at this; exact this)
  have h16 := h16M
  clear h hok hl hMe hDe hokM h16M hbad
  go_enter Tryz.func15, Tryz.ntmps15
  go_wp2_with fail
  refine CT.out.mono ?_; rintro e w1 ⟨u1, v1, rfl, hu1, hv1, hb1⟩
  obtain ⟨gm, cm, rfl, hgm1, hgm2, him⟩ := own_slI hu1 (by omega) (by omega)
  obtain ⟨gd, cd, rfl, hgd1, hgd2, hid⟩ := own_slI hv1 (by omega) (by omega)
  rw [hM, hD]
  have HIM1 := Lib.hid him
  have HID1 := Lib.hid hid
  have HB1 := Lib.hid hb1
  clear hu1 hv1 hb1 him hid CT
  go_wp2_with fail
  refine (CBM.out _ cm w1 HIM1.out).mono ?_; rintro e w2 ⟨v2, rfl, ho2, hb2⟩
  obtain ⟨gc, cc, rfl, hgc1, hgc2, hic⟩ := own_slI ho2 (by rw [turnedL_len]; omega) (by rw [turnedL_len]; omega)
  rw [turnedL_len, hM]
  have HIC2 := Lib.hid hic
  have HIM2 := Lib.hid (HIM1.out.kept hb2)
  have HID2 := Lib.hid (HID1.out.kept hb2)
  have HB2 := Lib.hid (HB1.out.trans (hb2.mono HB1.out.size))
  clear ho2 hb2 hic HIM1 HID1 HB1 CBM
  go_wp2_with fail
  refine (CBD.out _ cd w2 HID2.out).mono ?_; rintro e w3 ⟨rfl, hb3⟩
  have HIC3 := Lib.hid (HIC2.out.kept hb3)
  have HIM3 := Lib.hid (HIM2.out.kept hb3)
  have HB3 := Lib.hid (HB2.out.trans (hb3.mono HB2.out.size))
  clear hb3 HIC2 HIM2 HID2 HB2 CBD
  obtain ⟨gA, hgA⟩ : ∃ gA, w3.heap.size = gA := ⟨_, rfl⟩
  obtain ⟨w4, hw4⟩ : ∃ w4, (w3.alloc (.cells #[.slice (some ⟨gc, 0, none⟩) 401 cc, .slice (some ⟨gm, 0, none⟩) 401 cm] 69)).alloc (.cells #[.slice none 0 0, .slice (some ⟨gd, 0, none⟩) 52 cd] 69) = w4 := ⟨_, rfl⟩
  have HXA := Lib.hid (show w4.heap[gA]? = some (.cells #[.slice (some ⟨gc, 0, none⟩) 401 cc, .slice (some ⟨gm, 0, none⟩) 401 cm] 69 (0, 0)) by rw [← hw4, ← hgA]; exact heap_two_first _ _ _)
  have HXB := Lib.hid (show w4.heap[gA + 1]? = some (.cells #[.slice none 0 0, .slice (some ⟨gd, 0, none⟩) 52 cd] 69 (0, 0)) by rw [← hw4, ← hgA]; exact heap_two_last _ _ _)
  have hb4 : Below w3.heap.size w3 w4 := by rw [← hw4]; exact ((Below.refl _ _).alloc (Nat.le_refl _) _).alloc (by simp) _
  have hgc4 : gc < w4.heap.size := by have := HB3.out.size; have := hb4.size; have := block_lt HXA.out; have := ints_blk HIC3.out (by rw [turnedL_len, hM]; decide); simp only at this; omega
  have hgm4 : gm < w4.heap.size := by have := hb4.size; have := ints_blk HIM3.out (by rw [hM]; decide); simp only at this; omega
  have HIC4 := Lib.hid (HIC3.out.kept hb4)
  have HIM4 := Lib.hid (HIM3.out.kept hb4)
  have HB4 := Lib.hid (HB3.out.trans (hb4.mono HB3.out.size))
  clear hb4 HIC3 HIM3 HB3
  go_wp2_with fail
  clear hgA hw4
  refine (wNew w4).mono ?_; rintro e w5 ⟨rfl, hw5, hbw5, hz5, hf5⟩
  have HW5 := Lib.hid (show Wr w4.heap.size w4 w5 w4.heap.size w4.heap.size [] from ⟨hw5, hbw5, hf5⟩)
  have hsz5 := hbw5.size
  clear hw5 hbw5 hz5 hf5
  go_wp2_with fail
  refine (CPM.out w5 _ _ HW5.out.wr _ cm (HIM4.out.kept HW5.out.old)).mono ?_; rintro e w6 ⟨rfl, hp6⟩
  have HW6 := Lib.hid (HW5.out.pen hp6 hsz5)
  have hsz6 : w4.heap.size ≤ w6.heap.size := Nat.le_trans hsz5 hp6.2.1.size
  clear hp6 HW5 hsz5 CPM
  have hxb := wr_box HW6.out HXB.out
  have k0 := cell_lit hxb 0 _ rfl
  clear hxb
  have heq := fun a l c W => eql_nilI a l c W
  go_wp2_with fail
  clear k0
  refine (pPut w6 _ _ _ 0 1 HW6.out.wr (by decide) (by decide) (by rw [List.nil_append]; have : (writeB (packL M) (ofR (packL M))).length ≤ 14397 := hMb; omega)).mono ?_; rintro e w7 ⟨rfl, hp7⟩
  have HW7 := Lib.hid (HW6.out.pen hp7 hsz6)
  clear hp7 HW6 hsz6 heq
  obtain ⟨HB, hHB⟩ : ∃ HB, headsB (farB l) M D = HB := ⟨_, rfl⟩
  have hfb : farB l = false := by
    rw [Bool.eq_false_iff]; exact fun e => hf ((far_iff l).1 e)
  have hHl : HB.length ≤ 30000 := by
    rw [← hHB, hfb]; unfold headsB; rw [List.length_append]; simp; omega
  have HWH := Lib.hid (show Wr w4.heap.size w4 w7 w4.heap.size w4.heap.size HB from by
    have := HW7.out
    rw [← hHB, hfb]
    exact this)
  have HHB := Lib.hid hHB
  clear HW7 hHB hfb
  go_wp2_with fail
  go_loopw [45] (fun i wr => ∃ k : Nat, k ≤ n ∧ i = .int .i64 k ∧ Hid (Wr w4.heap.size w4 wr w4.heap.size w4.heap.size (HB ++ (l.take k).flatMap (tokB M D)))) (fun i _ => n - (intOf i).toNat)
  case atStart => exact ⟨0, Nat.zero_le _, rfl, by rw [List.take_zero, List.flatMap_nil, List.append_nil]; exact HWH⟩
  case round =>
    clear HWH
    obtain ⟨k, hk, rfl, hw⟩ := hrel
    by_cases hlt : k < n
    · have hkl : k < l.length := by have := HLN.out; omega
      obtain ⟨x, rfl, hxl, hat⟩ := (HI.out.kept (HB4.out.trans (hw.out.old.mono HB4.out.size))).at k hkl
      have htm : l[k] ∈ l := List.getElem_mem hkl
      have hfew := toks_few HT.out HOK.out k (by omega)
      have hnx : (l.take (k + 1)).flatMap (tokB M D) = (l.take k).flatMap (tokB M D) ++ tokB M D l[k] := by
        rw [List.take_succ_eq_append_getElem hkl, List.flatMap_append]; simp
      have hcs := tok_cases (HOK.out _ htm)
      obtain ⟨t, ht⟩ : ∃ t, l[k] = t := ⟨_, rfl⟩
      rw [ht] at hat hnx hcs htm
      obtain ⟨q0, q1, q2, q3, q4⟩ := hat
      have HNX := Lib.hid hnx
      have HFEW := Lib.hid (show (HB ++ (l.take k).flatMap (tokB M D)).length ≤ 800000 by rw [List.length_append]; omega)
      have hki : (k : Int) < (n : Int) := by omega
      have hk0 : (0 : Int) ≤ (k : Int) := by omega
      have hszr : w4.heap.size ≤ wr.heap.size := hw.out.old.size
      clear hnx hfew ht
      rcases hcs with ⟨b, hb, rfl⟩ | ⟨ll, dd, hl2, hd2, rfl⟩ | ⟨ll, rr, hl2, hr2, rfl⟩
      · simp only at q0 q1 q2 q3 q4
        have hal : Below wr.heap.size wr (wr.alloc (.cells #[.int .i64 0, .int .i64 b, .int .i64 0, .int .i64 0, .int .i64 0] 42)) := (Below.refl _ _).alloc (Nat.le_refl _) _
        have HWA := Lib.hid (hw.out.below hal hszr)
        have hszA : w4.heap.size ≤ (wr.alloc (.cells #[.int .i64 0, .int .i64 b, .int .i64 0, .int .i64 0, .int .i64 0] 42)).heap.size := HWA.out.old.size
        have CTK := Lib.hid (cTokLit _ _ _ _ HWA.out.wr HFEW.out b hb (some ⟨gc, 0, none⟩) (some ⟨gm, 0, none⟩) cc cm M D HT.out.lm (wr_bk HWA.out HIC4.out HIM4.out hgc4 hgm4 h16) HT.out.bM (.slice none 0 0) (.slice (some ⟨gd, 0, none⟩) 52 cd) rfl rfl)
        clear hal hw
        have hrow := wr_box HWA.out HXA.out
        have hrow2 := wr_box HWA.out HXB.out
        have ha0 := cell_lit hrow 0 _ rfl
        have ha1 := cell_lit hrow 1 _ rfl
        have hb0 := cell_lit hrow2 0 _ rfl
        have hb1 := cell_lit hrow2 1 _ rfl
        clear hrow hrow2
        go_wp2_with fail
        clear ha0 ha1 hb0 hb1
        refine CTK.out.mono ?_; rintro e w9 ⟨rfl, hp9⟩
        have HW9 := Lib.hid (show Wr w4.heap.size w4 w9 w4.heap.size w4.heap.size (HB ++ (l.take (k + 1)).flatMap (tokB M D)) from by
          have := HWA.out.pen hp9 hszA
          rw [HNX.out, ← List.append_assoc]; exact this)
        clear hp9 HWA CTK
        go_wp2_with fail
        go_roundw
        case rel => exact ⟨k + 1, by omega, by go_num, HW9⟩
        case measure => simp [intOf]; omega
      · skip
        exact absurd ⟨_, htm, rfl⟩ hf
      · simp only at q0 q1 q2 q3 q4
        have hal : Below wr.heap.size wr (wr.alloc (.cells #[.int .i64 2, .int .i64 0, .int .i64 (ll : Int), .int .i64 0, .int .i64 (rr : Int)] 42)) := (Below.refl _ _).alloc (Nat.le_refl _) _
        have HWA := Lib.hid (hw.out.below hal hszr)
        have hszA : w4.heap.size ≤ (wr.alloc (.cells #[.int .i64 2, .int .i64 0, .int .i64 (ll : Int), .int .i64 0, .int .i64 (rr : Int)] 42)).heap.size := HWA.out.old.size
        have CTK := Lib.hid (cTokRep _ _ _ _ HWA.out.wr HFEW.out ll rr hl2 hr2 (some ⟨gc, 0, none⟩) (some ⟨gm, 0, none⟩) cc cm M D HT.out.lm (wr_bk HWA.out HIC4.out HIM4.out hgc4 hgm4 h16) HT.out.bM (.slice none 0 0) (.slice (some ⟨gd, 0, none⟩) 52 cd) rfl rfl)
        clear hal hw
        have hrow := wr_box HWA.out HXA.out
        have hrow2 := wr_box HWA.out HXB.out
        have ha0 := cell_lit hrow 0 _ rfl
        have ha1 := cell_lit hrow 1 _ rfl
        have hb0 := cell_lit hrow2 0 _ rfl
        have hb1 := cell_lit hrow2 1 _ rfl
        clear hrow hrow2
        go_wp2_with fail
        clear ha0 ha1 hb0 hb1
        refine CTK.out.mono ?_; rintro e w9 ⟨rfl, hp9⟩
        have HW9 := Lib.hid (show Wr w4.heap.size w4 w9 w4.heap.size w4.heap.size (HB ++ (l.take (k + 1)).flatMap (tokB M D)) from by
          have := HWA.out.pen hp9 hszA
          rw [HNX.out, ← List.append_assoc]; exact this)
        clear hp9 HWA CTK
        go_wp2_with fail
        go_roundw
        case rel => exact ⟨k + 1, by omega, by go_num, HW9⟩
        case measure => simp [intOf]; omega
    · obtain rfl : k = n := by omega
      have hki : ¬ (k : Int) < (k : Int) := by omega
      have hw' := hw.out
      rw [List.take_of_length_le (show l.length ≤ k by rw [HLN.out]; exact Nat.le_refl _)] at hw'
      have HWE := Lib.hid hw'
      clear hw hw'
      go_wp2_with fail
      go_ret2
      refine ⟨_, rfl, w4.heap.size, ?_⟩
      have hE := HHB.out
      unfold codedB
      rw [hE]
      exact ⟨HWE.out.wr, HB4.out.trans (HWE.out.old.mono HB4.out.size), fun k hk => Nat.le_trans HB4.out.size (HWE.out.feet k hk)⟩
set_option maxHeartbeats 6400000 in
theorem cWriteFar (a : Option Addr) (c n : Nat) (l : List Tk) (M D : List Int) (w : World) (hl : l.length = n) (h : IsTk w a l) (h0 : n ≠ 0) (hn : n ≤ 300) (hok : ∀ t ∈ l, t.ok) (hMe : tabL (tl l).1 = M) (hDe : tabL (tl l).2 = D) (T : Tabs l M D) (hf : ∃ t ∈ l, t.k = 1) :
    Calls Tryz.prog 15 #[.slice a n c] w fun e w' => ∃ g B, e = .returned (.tuple #[.pointer (some ⟨g, 0, none⟩), .int .i64 0]) ∧ Wr w.heap.size w w' g B (codedB l M D) := by
  have HT := Lib.hid T
  have HI := Lib.hid h
  have HOK := Lib.hid hok
  have hM := T.lm
  have hD := T.ld
  have hokM := T.okM
  have h16M := (check_16 hokM).1
  have HM0 := Lib.hid (show M ≠ [] from fun e => by rw [e] at hM; simp at hM)
  have HD0 := Lib.hid (show D ≠ [] from fun e => by rw [e] at hD; simp at hD)
  have CT := Lib.hid (cTabG a c n l w hl h (by omega) (tl l).1 (tl l).2 (by unfold frA; rw [if_pos hok]) (tl_len l).1 (tl_len l).2)
  rw [hMe, hDe] at CT
  have hni : ((n : Int) == 0) = false := by rw [beq_eq_false_iff_ne]; omega
  have HLN := Lib.hid hl
  have CBM := Lib.hid (fun a c W (h : IsInts W a M) => by have := cBook a c M W h h16M (by omega) HM0.out; rw [hM] at this; exact this)
  have CPM := Lib.hid (fun (W : World) g B (h : IsWriter W g B []) a c (hi : IsInts W a M) => by have := cPutOk W g B [] h (by simp) a c M hi HM0.out (by omega) T.vM; rw [hM] at this; exact this)
  have hMb := tabB_few HM0.out (by omega) T.vM
  have hokD := (T.far hf).1
  have h16D := (check_16 hokD).1
  have CBD := Lib.hid (fun a c W (h : IsInts W a D) => by have := cBook a c D W h h16D (by omega) HD0.out; rw [hD] at this; exact this)
  have hDb := tabB_few HD0.out (by omega) T.vD
  have CPD := Lib.hid (fun (W : World) g B bits (h : IsWriter W g B bits) (hb : bits.length ≤ 900000) a c (hi : IsInts W a D) => by have := cPutOk W g B bits h hb a c D hi HD0.out (by omega) T.vD; rw [hD] at this; exact this)
  have h16 := h16M
  clear h hok hl hMe hDe hokM h16M hokD
  go_enter Tryz.func15, Tryz.ntmps15
  go_wp2_with fail
  refine CT.out.mono ?_; rintro e w1 ⟨u1, v1, rfl, hu1, hv1, hb1⟩
  obtain ⟨gm, cm, rfl, hgm1, hgm2, him⟩ := own_slI hu1 (by omega) (by omega)
  obtain ⟨gd, cd, rfl, hgd1, hgd2, hid⟩ := own_slI hv1 (by omega) (by omega)
  rw [hM, hD]
  have HIM1 := Lib.hid him
  have HID1 := Lib.hid hid
  have HB1 := Lib.hid hb1
  clear hu1 hv1 hb1 him hid CT
  go_wp2_with fail
  refine (CBM.out _ cm w1 HIM1.out).mono ?_; rintro e w2 ⟨v2, rfl, ho2, hb2⟩
  obtain ⟨gc, cc, rfl, hgc1, hgc2, hic⟩ := own_slI ho2 (by rw [turnedL_len]; omega) (by rw [turnedL_len]; omega)
  rw [turnedL_len, hM]
  have HIC2 := Lib.hid hic
  have HIM2 := Lib.hid (HIM1.out.kept hb2)
  have HID2 := Lib.hid (HID1.out.kept hb2)
  have HB2 := Lib.hid (HB1.out.trans (hb2.mono HB1.out.size))
  clear ho2 hb2 hic HIM1 HID1 HB1 CBM
  go_wp2_with fail
  refine (CBD.out _ cd w2 HID2.out).mono ?_; rintro e w3 ⟨v3, rfl, ho3, hb3⟩
  obtain ⟨ge, ce, rfl, hge1, hge2, hie⟩ := own_slI ho3 (by rw [turnedL_len]; omega) (by rw [turnedL_len]; omega)
  rw [turnedL_len, hD]
  have HIE3 := Lib.hid hie
  have HIC3 := Lib.hid (HIC2.out.kept hb3)
  have HIM3 := Lib.hid (HIM2.out.kept hb3)
  have HID3 := Lib.hid (HID2.out.kept hb3)
  have HB3 := Lib.hid (HB2.out.trans (hb3.mono HB2.out.size))
  clear hb3 ho3 hie HIC2 HIM2 HID2 HB2 CBD
  obtain ⟨gA, hgA⟩ : ∃ gA, w3.heap.size = gA := ⟨_, rfl⟩
  obtain ⟨w4, hw4⟩ : ∃ w4, (w3.alloc (.cells #[.slice (some ⟨gc, 0, none⟩) 401 cc, .slice (some ⟨gm, 0, none⟩) 401 cm] 69)).alloc (.cells #[.slice (some ⟨ge, 0, none⟩) 52 ce, .slice (some ⟨gd, 0, none⟩) 52 cd] 69) = w4 := ⟨_, rfl⟩
  have HXA := Lib.hid (show w4.heap[gA]? = some (.cells #[.slice (some ⟨gc, 0, none⟩) 401 cc, .slice (some ⟨gm, 0, none⟩) 401 cm] 69 (0, 0)) by rw [← hw4, ← hgA]; exact heap_two_first _ _ _)
  have HXB := Lib.hid (show w4.heap[gA + 1]? = some (.cells #[.slice (some ⟨ge, 0, none⟩) 52 ce, .slice (some ⟨gd, 0, none⟩) 52 cd] 69 (0, 0)) by rw [← hw4, ← hgA]; exact heap_two_last _ _ _)
  have hb4 : Below w3.heap.size w3 w4 := by rw [← hw4]; exact ((Below.refl _ _).alloc (Nat.le_refl _) _).alloc (by simp) _
  have hgc4 : gc < w4.heap.size := by have := hb4.size; have := ints_blk HIC3.out (by rw [turnedL_len, hM]; decide); simp only at this; omega
  have hgm4 : gm < w4.heap.size := by have := hb4.size; have := ints_blk HIM3.out (by rw [hM]; decide); simp only at this; omega
  have hge4 : ge < w4.heap.size := by have := hb4.size; have := ints_blk HIE3.out (by rw [turnedL_len, hD]; decide); simp only at this; omega
  have hgd4 : gd < w4.heap.size := by have := hb4.size; have := ints_blk HID3.out (by rw [hD]; decide); simp only at this; omega
  have HIC4 := Lib.hid (HIC3.out.kept hb4)
  have HIM4 := Lib.hid (HIM3.out.kept hb4)
  have HIE4 := Lib.hid (HIE3.out.kept hb4)
  have HID4 := Lib.hid (HID3.out.kept hb4)
  have HB4 := Lib.hid (HB3.out.trans (hb4.mono HB3.out.size))
  clear hb4 HIC3 HIM3 HIE3 HID3 HB3
  go_wp2_with fail
  clear hgA hw4
  refine (wNew w4).mono ?_; rintro e w5 ⟨rfl, hw5, hbw5, hz5, hf5⟩
  have HW5 := Lib.hid (show Wr w4.heap.size w4 w5 w4.heap.size w4.heap.size [] from ⟨hw5, hbw5, hf5⟩)
  have hsz5 := hbw5.size
  clear hw5 hbw5 hz5 hf5
  go_wp2_with fail
  refine (CPM.out w5 _ _ HW5.out.wr _ cm (HIM4.out.kept HW5.out.old)).mono ?_; rintro e w6 ⟨rfl, hp6⟩
  have HW6 := Lib.hid (HW5.out.pen hp6 hsz5)
  have hsz6 : w4.heap.size ≤ w6.heap.size := Nat.le_trans hsz5 hp6.2.1.size
  clear hp6 HW5 hsz5 CPM
  have hxb := wr_box HW6.out HXB.out
  have k0 := cell_lit hxb 0 _ rfl
  clear hxb
  have heq := fun a l c W => eql_nilI a l c W
  go_wp2_with fail
  clear k0
  refine (pPut w6 _ _ _ 1 1 HW6.out.wr (by decide) (by decide) (by rw [List.nil_append]; have : (writeB (packL M) (ofR (packL M))).length ≤ 14397 := hMb; omega)).mono ?_; rintro e w7 ⟨rfl, hp7⟩
  have HW7 := Lib.hid (HW6.out.pen hp7 hsz6)
  have hsz7 : w4.heap.size ≤ w7.heap.size := Nat.le_trans hsz6 hp7.2.1.size
  have HL7 := Lib.hid (show (([] : List Bool) ++ writeB (packL M) (ofR (packL M)) ++ bitsOf 1 1).length ≤ 900000 from by
    rw [List.nil_append, List.length_append, bitsOf_length]
    have : (writeB (packL M) (ofR (packL M))).length ≤ 14397 := hMb
    omega)
  clear hp7 HW6 hsz6 heq
  go_wp2_with fail
  refine (CPD.out w7 _ _ _ HW7.out.wr HL7.out _ cd (HID4.out.kept HW7.out.old)).mono ?_; rintro e w8 ⟨rfl, hp8⟩
  have HW8 := Lib.hid (HW7.out.pen hp8 hsz7)
  clear hp8 HW7 hsz7 CPD HL7
  obtain ⟨HB, hHB⟩ : ∃ HB, headsB (farB l) M D = HB := ⟨_, rfl⟩
  have hfb : farB l = true := (far_iff l).2 hf
  have hHl : HB.length ≤ 30000 := by
    rw [← hHB, hfb]; unfold headsB; rw [List.length_append]; simp; omega
  have HWH := Lib.hid (show Wr w4.heap.size w4 w8 w4.heap.size w4.heap.size HB from by
    have := HW8.out
    rw [← hHB, hfb]
    unfold headsB tabB
    rw [List.nil_append, List.append_assoc] at this
    exact this)
  have HHB := Lib.hid hHB
  clear HW8 hHB hfb
  go_wp2_with fail
  go_loopw [45] (fun i wr => ∃ k : Nat, k ≤ n ∧ i = .int .i64 k ∧ Hid (Wr w4.heap.size w4 wr w4.heap.size w4.heap.size (HB ++ (l.take k).flatMap (tokB M D)))) (fun i _ => n - (intOf i).toNat)
  case atStart => exact ⟨0, Nat.zero_le _, rfl, by rw [List.take_zero, List.flatMap_nil, List.append_nil]; exact HWH⟩
  case round =>
    clear HWH
    obtain ⟨k, hk, rfl, hw⟩ := hrel
    by_cases hlt : k < n
    · have hkl : k < l.length := by have := HLN.out; omega
      obtain ⟨x, rfl, hxl, hat⟩ := (HI.out.kept (HB4.out.trans (hw.out.old.mono HB4.out.size))).at k hkl
      have htm : l[k] ∈ l := List.getElem_mem hkl
      have hfew := toks_few HT.out HOK.out k (by omega)
      have hnx : (l.take (k + 1)).flatMap (tokB M D) = (l.take k).flatMap (tokB M D) ++ tokB M D l[k] := by
        rw [List.take_succ_eq_append_getElem hkl, List.flatMap_append]; simp
      have hcs := tok_cases (HOK.out _ htm)
      obtain ⟨t, ht⟩ : ∃ t, l[k] = t := ⟨_, rfl⟩
      rw [ht] at hat hnx hcs htm
      obtain ⟨q0, q1, q2, q3, q4⟩ := hat
      have HNX := Lib.hid hnx
      have HFEW := Lib.hid (show (HB ++ (l.take k).flatMap (tokB M D)).length ≤ 800000 by rw [List.length_append]; omega)
      have hki : (k : Int) < (n : Int) := by omega
      have hk0 : (0 : Int) ≤ (k : Int) := by omega
      have hszr : w4.heap.size ≤ wr.heap.size := hw.out.old.size
      clear hnx hfew ht
      rcases hcs with ⟨b, hb, rfl⟩ | ⟨ll, dd, hl2, hd2, rfl⟩ | ⟨ll, rr, hl2, hr2, rfl⟩
      · simp only at q0 q1 q2 q3 q4
        have hal : Below wr.heap.size wr (wr.alloc (.cells #[.int .i64 0, .int .i64 b, .int .i64 0, .int .i64 0, .int .i64 0] 42)) := (Below.refl _ _).alloc (Nat.le_refl _) _
        have HWA := Lib.hid (hw.out.below hal hszr)
        have hszA : w4.heap.size ≤ (wr.alloc (.cells #[.int .i64 0, .int .i64 b, .int .i64 0, .int .i64 0, .int .i64 0] 42)).heap.size := HWA.out.old.size
        have CTK := Lib.hid (cTokLit _ _ _ _ HWA.out.wr HFEW.out b hb (some ⟨gc, 0, none⟩) (some ⟨gm, 0, none⟩) cc cm M D HT.out.lm (wr_bk HWA.out HIC4.out HIM4.out hgc4 hgm4 h16) HT.out.bM (.slice (some ⟨ge, 0, none⟩) 52 ce) (.slice (some ⟨gd, 0, none⟩) 52 cd) rfl rfl)
        clear hal hw
        have hrow := wr_box HWA.out HXA.out
        have hrow2 := wr_box HWA.out HXB.out
        have ha0 := cell_lit hrow 0 _ rfl
        have ha1 := cell_lit hrow 1 _ rfl
        have hb0 := cell_lit hrow2 0 _ rfl
        have hb1 := cell_lit hrow2 1 _ rfl
        clear hrow hrow2
        go_wp2_with fail
        clear ha0 ha1 hb0 hb1
        refine CTK.out.mono ?_; rintro e w9 ⟨rfl, hp9⟩
        have HW9 := Lib.hid (show Wr w4.heap.size w4 w9 w4.heap.size w4.heap.size (HB ++ (l.take (k + 1)).flatMap (tokB M D)) from by
          have := HWA.out.pen hp9 hszA
          rw [HNX.out, ← List.append_assoc]; exact this)
        clear hp9 HWA CTK
        go_wp2_with fail
        go_roundw
        case rel => exact ⟨k + 1, by omega, by go_num, HW9⟩
        case measure => simp [intOf]; omega
      · skip
        simp only at q0 q1 q2 q3 q4
        have hal : Below wr.heap.size wr (wr.alloc (.cells #[.int .i64 1, .int .i64 0, .int .i64 (ll : Int), .int .i64 (dd : Int), .int .i64 0] 42)) := (Below.refl _ _).alloc (Nat.le_refl _) _
        have HWA := Lib.hid (hw.out.below hal hszr)
        have hszA : w4.heap.size ≤ (wr.alloc (.cells #[.int .i64 1, .int .i64 0, .int .i64 (ll : Int), .int .i64 (dd : Int), .int .i64 0] 42)).heap.size := HWA.out.old.size
        have CTK := Lib.hid (cTokCopy _ _ _ _ HWA.out.wr HFEW.out ll dd hl2 hd2 (some ⟨gc, 0, none⟩) (some ⟨gm, 0, none⟩) cc cm M D HT.out.lm (wr_bk HWA.out HIC4.out HIM4.out hgc4 hgm4 h16) HT.out.bM (some ⟨ge, 0, none⟩) (some ⟨gd, 0, none⟩) ce cd HT.out.ld (wr_bk HWA.out HIE4.out HID4.out hge4 hgd4 h16D) HT.out.bD)
        clear hal hw
        have hrow := wr_box HWA.out HXA.out
        have hrow2 := wr_box HWA.out HXB.out
        have ha0 := cell_lit hrow 0 _ rfl
        have ha1 := cell_lit hrow 1 _ rfl
        have hb0 := cell_lit hrow2 0 _ rfl
        have hb1 := cell_lit hrow2 1 _ rfl
        clear hrow hrow2
        go_wp2_with fail
        clear ha0 ha1 hb0 hb1
        refine CTK.out.mono ?_; rintro e w9 ⟨rfl, hp9⟩
        have HW9 := Lib.hid (show Wr w4.heap.size w4 w9 w4.heap.size w4.heap.size (HB ++ (l.take (k + 1)).flatMap (tokB M D)) from by
          have := HWA.out.pen hp9 hszA
          rw [HNX.out, ← List.append_assoc]; exact this)
        clear hp9 HWA CTK
        go_wp2_with fail
        go_roundw
        case rel => exact ⟨k + 1, by omega, by go_num, HW9⟩
        case measure => simp [intOf]; omega
      · simp only at q0 q1 q2 q3 q4
        have hal : Below wr.heap.size wr (wr.alloc (.cells #[.int .i64 2, .int .i64 0, .int .i64 (ll : Int), .int .i64 0, .int .i64 (rr : Int)] 42)) := (Below.refl _ _).alloc (Nat.le_refl _) _
        have HWA := Lib.hid (hw.out.below hal hszr)
        have hszA : w4.heap.size ≤ (wr.alloc (.cells #[.int .i64 2, .int .i64 0, .int .i64 (ll : Int), .int .i64 0, .int .i64 (rr : Int)] 42)).heap.size := HWA.out.old.size
        have CTK := Lib.hid (cTokRep _ _ _ _ HWA.out.wr HFEW.out ll rr hl2 hr2 (some ⟨gc, 0, none⟩) (some ⟨gm, 0, none⟩) cc cm M D HT.out.lm (wr_bk HWA.out HIC4.out HIM4.out hgc4 hgm4 h16) HT.out.bM (.slice (some ⟨ge, 0, none⟩) 52 ce) (.slice (some ⟨gd, 0, none⟩) 52 cd) rfl rfl)
        clear hal hw
        have hrow := wr_box HWA.out HXA.out
        have hrow2 := wr_box HWA.out HXB.out
        have ha0 := cell_lit hrow 0 _ rfl
        have ha1 := cell_lit hrow 1 _ rfl
        have hb0 := cell_lit hrow2 0 _ rfl
        have hb1 := cell_lit hrow2 1 _ rfl
        clear hrow hrow2
        go_wp2_with fail
        clear ha0 ha1 hb0 hb1
        refine CTK.out.mono ?_; rintro e w9 ⟨rfl, hp9⟩
        have HW9 := Lib.hid (show Wr w4.heap.size w4 w9 w4.heap.size w4.heap.size (HB ++ (l.take (k + 1)).flatMap (tokB M D)) from by
          have := HWA.out.pen hp9 hszA
          rw [HNX.out, ← List.append_assoc]; exact this)
        clear hp9 HWA CTK
        go_wp2_with fail
        go_roundw
        case rel => exact ⟨k + 1, by omega, by go_num, HW9⟩
        case measure => simp [intOf]; omega
    · obtain rfl : k = n := by omega
      have hki : ¬ (k : Int) < (k : Int) := by omega
      have hw' := hw.out
      rw [List.take_of_length_le (show l.length ≤ k by rw [HLN.out]; exact Nat.le_refl _)] at hw'
      have HWE := Lib.hid hw'
      clear hw hw'
      go_wp2_with fail
      go_ret2
      refine ⟨_, rfl, w4.heap.size, ?_⟩
      have hE := HHB.out
      unfold codedB
      rw [hE]
      exact ⟨HWE.out.wr, HB4.out.trans (HWE.out.old.mono HB4.out.size), fun k hk => Nat.le_trans HB4.out.size (HWE.out.feet k hk)⟩
end Go.Proofs.YtipcdkemokkdfaaGreat

/- Layer 27: Put, Size. -/
namespace Go.Proofs.YtipcdkemokkdfaaGreat
open Go.ChangeShapes Go.WideShapes Go.ChangeAt Go.RowKit
set_option linter.unusedVariables false
set_option linter.unusedSimpArgs false
set_option maxRecDepth 100000
open Bits hiding packF pack_length
open RunsMath KraftMath CanonMath TurnMath Pm
def tabM (l : List Tk) : List Int := tabL (tl l).1
def tabD (l : List Tk) : List Int := tabL (tl l).2
/-- A block of tokens, as bits, and to a whole byte. -/
def bitsK (l : List Tk) : List Bool := codedB l (tabM l) (tabD l)
def bytesK (l : List Tk) : List UInt8 := pack (bitsK l ++ bitsOf 0 (lack (bitsK l).length))
theorem cWrite (a : Option Addr) (c n : Nat) (l : List Tk) (w : World) (hl : l.length = n) (h : IsTk w a l) (h0 : n ≠ 0) (hn : n ≤ 300) (hok : ∀ t ∈ l, t.ok) :
    Calls Tryz.prog 15 #[.slice a n c] w fun e w' => ∃ g B, e = .returned (.tuple #[.pointer (some ⟨g, 0, none⟩), .int .i64 0]) ∧ Wr w.heap.size w w' g B (bitsK l) := by
  have T := tabs_of l (fun e => h0 (by rw [← hl, e]; rfl)) (by omega) hok
  by_cases hf : ∃ t ∈ l, t.k = 1
  · exact cWriteFar a c n l (tabM l) (tabD l) w hl h h0 hn hok rfl rfl T hf
  · exact cWriteNear a c n l (tabM l) (tabD l) w hl h h0 hn hok rfl rfl T hf
theorem bitsK_few (l : List Tk) (h0 : l ≠ []) (hn : l.length ≤ 300) (hok : ∀ t ∈ l, t.ok) : (bitsK l).length ≤ 60000 := by
  have T := tabs_of l h0 hn hok
  have hM0 : tabM l ≠ [] := fun e => by have := T.lm; unfold tabM at e; rw [e] at this; simp at this
  have hD0 : tabD l ≠ [] := fun e => by have := T.ld; unfold tabD at e; rw [e] at this; simp at this
  have h1 := tabB_few hM0 (by have := T.lm; unfold tabM; omega) T.vM
  have h2 := tabB_few hD0 (by have := T.ld; unfold tabD; omega) T.vD
  have h3 := toks_few T hok l.length (Nat.le_refl _)
  rw [List.take_length] at h3
  have h4 : (headsB (farB l) (tabM l) (tabD l)).length ≤ 28795 := by
    unfold headsB
    rw [List.length_append]
    cases farB l
    · simp; omega
    · simp; omega
  unfold bitsK codedB
  rw [List.length_append]
  have : (l.flatMap (tokB (tabM l) (tabD l))).length ≤ 90 * l.length := h3
  omega
theorem cPutNone (a : Option Addr) (c : Nat) (w : World) : Calls Tryz.prog 9 #[.slice a 0 c] w fun e w' => e = .returned (.tuple #[.string ⟨#[]⟩, .int .i64 1]) ∧ Below w.heap.size w w' := by
  have C := Lib.hid (cWriteNil w a c)
  go_enter Tryz.func9, Tryz.ntmps9
  go_wp2_with fail
  refine C.out.mono ?_; rintro e w1 ⟨rfl, rfl⟩
  go_wp2_with fail
  go_ret2
  exact ⟨rfl, Below.refl _ _⟩
theorem cPutNot (a : Option Addr) (c n : Nat) (l : List Tk) (w : World) (hl : l.length = n) (h : IsTk w a l) (h0 : n ≠ 0) (hn : n ≤ 300) (hb : ¬ ∀ t ∈ l, t.ok) : Calls Tryz.prog 9 #[.slice a n c] w fun e w' => e = .returned (.tuple #[.string ⟨#[]⟩, .int .i64 10]) ∧ Below w.heap.size w w' := by
  have C := Lib.hid (cWriteBad a c n l w hl h h0 hn hb)
  clear h hb hl
  go_enter Tryz.func9, Tryz.ntmps9
  go_wp2_with fail
  refine C.out.mono ?_; rintro e w1 ⟨rfl, hb1⟩
  have HB := Lib.hid hb1
  clear hb1
  go_wp2_with fail
  go_ret2
  exact ⟨rfl, HB.out⟩
theorem cPutK (a : Option Addr) (c n : Nat) (l : List Tk) (w : World) (hl : l.length = n) (h : IsTk w a l) (h0 : n ≠ 0) (hn : n ≤ 300) (hok : ∀ t ∈ l, t.ok) : Calls Tryz.prog 9 #[.slice a n c] w fun e w' => e = .returned (.tuple #[.string ⟨(bytesK l).toArray⟩, .int .i64 0]) ∧ Below w.heap.size w w' := by
  have C := Lib.hid (cWrite a c n l w hl h h0 hn hok)
  have hfw := bitsK_few l (fun e => h0 (by rw [← hl, e]; rfl)) (by omega) hok
  unfold bytesK
  obtain ⟨L, hL⟩ : ∃ L, bitsK l = L := ⟨_, rfl⟩
  rw [hL] at C hfw ⊢
  clear h hok hl hL
  go_enter Tryz.func9, Tryz.ntmps9
  go_wp2_with fail
  refine C.out.mono ?_; rintro e w1 ⟨g, B, rfl, hw⟩
  have HW1 := Lib.hid hw
  have hsz := hw.old.size
  clear hw C
  go_wp2_with fail
  refine (wAlign w1 g B L HW1.out.wr (by omega)).mono ?_; rintro e w2 ⟨rfl, h2, h3, h4⟩
  have HW2 := Lib.hid (HW1.out.pen ⟨h2, h3, h4⟩ hsz)
  have hsz2 := HW2.out.old.size
  clear h2 h3 h4 HW1 hsz
  go_wp2_with fail
  refine (wBytes w2 g B _ HW2.out.wr).mono ?_; rintro e w3 ⟨rfl, hb3⟩
  have HB3 := Lib.hid (HW2.out.old.trans (hb3.mono hsz2))
  clear hb3 HW2 hsz2
  go_wp2_with fail
  go_ret2
  exact ⟨rfl, HB3.out⟩
end Go.Proofs.YtipcdkemokkdfaaGreat

/- Layer 15, carried over: LenOf, DistOf. -/
namespace Go.Proofs.YtipcdkemokkdfaaGreat.Slo
open Go.ChangeShapes Go.WideShapes Go.ChangeAt Go.RowKit
set_option linter.unusedVariables false
set_option linter.unusedSimpArgs false
set_option maxRecDepth 100000
theorem firstL_facts : ∀ s : Fin 28, 8 ≤ s.val → exD 0 = 0 ∧ exL s.val = s.val / 4 - 1 ∧ tbL s.val = 2 + (s.val - 4 * (s.val / 4 - 1)) * 2 ^ (s.val / 4 - 1) := by decide +kernel
theorem smallL_facts : ∀ s : Fin 8, exL s.val = 0 ∧ tbL s.val = 2 + s.val := by decide +kernel
set_option maxHeartbeats 800000 in
theorem firstL_any (s : Nat) (hs : s < 28) (w : World) :
    Calls Tryz.prog 116 #[.int .i64 s, .int .i64 8, .int .i64 4] w fun e w' => e = .returned (.tuple #[.int .i64 (tbL s - 2 : Nat), .int .i64 (exL s)]) ∧ Below w.heap.size w w' := by
  by_cases h : s < 8
  · have hf := smallL_facts ⟨s, h⟩
    simp only at hf
    rw [hf.1, hf.2, show 2 + s - 2 = s by omega]
    clear hf
    go_enter Tryz.func116, Tryz.ntmps116
    go_wp2
    go_ret2
    exact ⟨rfl, Below.refl _ _⟩
  · have hf := firstL_facts ⟨s, hs⟩ (by simp only; omega)
    simp only at hf
    have ht := (tbL_bd s (by omega)).1
    obtain ⟨F, hF⟩ : ∃ F, (s - 4 * (s / 4 - 1)) * 2 ^ (s / 4 - 1) = F := ⟨_, rfl⟩
    rw [hF] at hf
    rw [hf.2.1, hf.2.2, show 2 + F - 2 = F by omega]
    rw [hf.2.2] at ht
    obtain ⟨q, hq⟩ : ∃ q, s / 4 = q + 1 := ⟨s / 4 - 1, by omega⟩
    rw [hq, show q + 1 - 1 = q by omega] at hF ⊢
    have hqi : (s : Int) / 4 = (q : Int) + 1 := by omega
    have e1 : ((s : Int) - 4 * (q : Int)) * 2 ^ q = (F : Int) := by
      rw [← hF, Int.natCast_mul, pow_cast, Int.ofNat_sub (by omega), Int.natCast_mul]; rfl
    have e2 : 0 ≤ ((s : Int) - 4 * (q : Int)) * 2 ^ q := by rw [e1]; omega
    have e3 : ((s : Int) - 4 * (q : Int)) * 2 ^ q ≤ 200000000 := by rw [e1]; omega
    have E1 := Lib.hid e1
    clear hf hF e1 hq
    go_enter Tryz.func116, Tryz.ntmps116
    go_wp2_with fail
    (try go_quiet (fail))
    go_wp2
    go_ret2
    exact ⟨ret2_i E1.out rfl, by first | exact Below.refl _ _ | exact below_drewN (Below.refl _ _) _⟩

theorem firstD_facts : ∀ s : Fin 52, 4 ≤ s.val → exD 0 = 0 ∧ exD s.val = s.val / 2 - 1 ∧ tbD s.val = 1 + (s.val - 2 * (s.val / 2 - 1)) * 2 ^ (s.val / 2 - 1) := by decide +kernel
theorem smallD_facts : ∀ s : Fin 4, exD s.val = 0 ∧ tbD s.val = 1 + s.val := by decide +kernel
set_option maxHeartbeats 800000 in
theorem firstD_any (s : Nat) (hs : s < 52) (w : World) :
    Calls Tryz.prog 116 #[.int .i64 s, .int .i64 4, .int .i64 2] w fun e w' => e = .returned (.tuple #[.int .i64 (tbD s - 1 : Nat), .int .i64 (exD s)]) ∧ Below w.heap.size w w' := by
  by_cases h : s < 4
  · have hf := smallD_facts ⟨s, h⟩
    simp only at hf
    rw [hf.1, hf.2, show 1 + s - 1 = s by omega]
    clear hf
    go_enter Tryz.func116, Tryz.ntmps116
    go_wp2
    go_ret2
    exact ⟨rfl, Below.refl _ _⟩
  · have hf := firstD_facts ⟨s, hs⟩ (by simp only; omega)
    simp only at hf
    have ht := (tbD_bd s (by omega)).1
    obtain ⟨F, hF⟩ : ∃ F, (s - 2 * (s / 2 - 1)) * 2 ^ (s / 2 - 1) = F := ⟨_, rfl⟩
    rw [hF] at hf
    rw [hf.2.1, hf.2.2, show 1 + F - 1 = F by omega]
    rw [hf.2.2] at ht
    obtain ⟨q, hq⟩ : ∃ q, s / 2 = q + 1 := ⟨s / 2 - 1, by omega⟩
    rw [hq, show q + 1 - 1 = q by omega] at hF ⊢
    have hqi : (s : Int) / 2 = (q : Int) + 1 := by omega
    have e1 : ((s : Int) - 2 * (q : Int)) * 2 ^ q = (F : Int) := by
      rw [← hF, Int.natCast_mul, pow_cast, Int.ofNat_sub (by omega), Int.natCast_mul]; rfl
    have e2 : 0 ≤ ((s : Int) - 2 * (q : Int)) * 2 ^ q := by rw [e1]; omega
    have e3 : ((s : Int) - 2 * (q : Int)) * 2 ^ q ≤ 200000000 := by rw [e1]; omega
    have E1 := Lib.hid e1
    clear hf hF e1 hq
    go_enter Tryz.func116, Tryz.ntmps116
    go_wp2_with fail
    (try go_quiet (fail))
    go_wp2
    go_ret2
    exact ⟨ret2_i E1.out rfl, by first | exact Below.refl _ _ | exact below_drewN (Below.refl _ _) _⟩

theorem leastL : ∀ s : Fin 28, 2 ≤ tbL s.val := by decide
theorem wideL_bd : ∀ s : Fin 53, 1 ≤ wideL s.val ∧ wideL s.val ≤ 1073741824 := by decide +kernel
set_option maxHeartbeats 800000 in
theorem numberL_any (s : Nat) (m : Int) (hs : s < 28) (w : World) :
    Calls Tryz.prog 101 #[.int .i64 s, .int .i64 m, .int .i64 8, .int .i64 4, .int .i64 2] w fun e w' =>
      e = .returned (.tuple #[.int .i64 (if 0 ≤ m ∧ m < wideL s then (tbL s : Int) + m else 0), .int .i64 (if 0 ≤ m ∧ m < wideL s then 0 else 2)]) ∧ Below w.heap.size w w' := by
  have C := Lib.hid (firstL_any s hs)
  have hl := leastL ⟨s, by omega⟩
  obtain ⟨ht, hx30⟩ := tbL_bd s (by omega)
  have hw := wideL_bd ⟨s, by omega⟩
  simp only at hl hw
  have hpw : (2 : Int) ^ exL s = ((wideL s : Nat) : Int) := by rw [← pow_cast]; rfl
  obtain ⟨x, hx⟩ : ∃ x, exL s = x := ⟨_, rfl⟩
  obtain ⟨T, hT⟩ : ∃ T, tbL s = T := ⟨_, rfl⟩
  obtain ⟨W, hW⟩ : ∃ W, wideL s = W := ⟨_, rfl⟩
  rw [hx, hT] at C; rw [hx, hW] at hpw; rw [hx] at hx30; rw [hT] at hl ht ⊢; rw [hW] at hw ⊢
  have hx0 : (1 : Int) ≤ 2 ^ x := by rw [hpw]; omega
  have hx1 : (2 : Int) ^ x ≤ 1073741824 := by rw [hpw]; omega
  obtain ⟨F, rfl⟩ : ∃ F, T = F + 2 := ⟨T - 2, by omega⟩
  rw [show F + 2 - 2 = F by omega] at C
  have HP := Lib.hid hpw
  clear hw hT hx hW
  by_cases h : 0 ≤ m ∧ m < W
  · rw [if_pos h, if_pos h]
    obtain ⟨h0, h1⟩ := h
    have h2 : m < 2 ^ x := by rw [HP.out]; exact h1
    have h3 : ¬ m < 0 := by omega
    have h4 : m ≤ 2000000000 := by omega
    clear h1 hpw
    go_enter Tryz.func101, Tryz.ntmps101
    go_wp2_with fail
    refine (C.out _).mono ?_; rintro e w1 ⟨rfl, hb1⟩
    go_wp2
    go_ret2
    exact ⟨ret2_i (by omega) rfl, hb1⟩
  · rw [if_neg h, if_neg h]
    by_cases h0 : m < 0
    · clear h hpw
      go_enter Tryz.func101, Tryz.ntmps101
      go_wp2_with fail
      refine (C.out _).mono ?_; rintro e w1 ⟨rfl, hb1⟩
      go_wp2
      go_ret2
      exact ⟨rfl, hb1⟩
    · have h2 : (2 : Int) ^ x ≤ m := by rw [HP.out]; omega
      clear h hpw
      go_enter Tryz.func101, Tryz.ntmps101
      go_wp2_with fail
      refine (C.out _).mono ?_; rintro e w1 ⟨rfl, hb1⟩
      go_wp2
      go_ret2
      exact ⟨rfl, hb1⟩

theorem leastD : ∀ s : Fin 52, 1 ≤ tbD s.val := by decide
theorem wideD_bd : ∀ s : Fin 53, 1 ≤ wideD s.val ∧ wideD s.val ≤ 1073741824 := by decide +kernel
set_option maxHeartbeats 800000 in
theorem numberD_any (s : Nat) (m : Int) (hs : s < 52) (w : World) :
    Calls Tryz.prog 101 #[.int .i64 s, .int .i64 m, .int .i64 4, .int .i64 2, .int .i64 1] w fun e w' =>
      e = .returned (.tuple #[.int .i64 (if 0 ≤ m ∧ m < wideD s then (tbD s : Int) + m else 0), .int .i64 (if 0 ≤ m ∧ m < wideD s then 0 else 2)]) ∧ Below w.heap.size w w' := by
  have C := Lib.hid (firstD_any s hs)
  have hl := leastD ⟨s, by omega⟩
  obtain ⟨ht, hx30⟩ := tbD_bd s (by omega)
  have hw := wideD_bd ⟨s, by omega⟩
  simp only at hl hw
  have hpw : (2 : Int) ^ exD s = ((wideD s : Nat) : Int) := by rw [← pow_cast]; rfl
  obtain ⟨x, hx⟩ : ∃ x, exD s = x := ⟨_, rfl⟩
  obtain ⟨T, hT⟩ : ∃ T, tbD s = T := ⟨_, rfl⟩
  obtain ⟨W, hW⟩ : ∃ W, wideD s = W := ⟨_, rfl⟩
  rw [hx, hT] at C; rw [hx, hW] at hpw; rw [hx] at hx30; rw [hT] at hl ht ⊢; rw [hW] at hw ⊢
  have hx0 : (1 : Int) ≤ 2 ^ x := by rw [hpw]; omega
  have hx1 : (2 : Int) ^ x ≤ 1073741824 := by rw [hpw]; omega
  obtain ⟨F, rfl⟩ : ∃ F, T = F + 1 := ⟨T - 1, by omega⟩
  rw [show F + 1 - 1 = F by omega] at C
  have HP := Lib.hid hpw
  clear hw hT hx hW
  by_cases h : 0 ≤ m ∧ m < W
  · rw [if_pos h, if_pos h]
    obtain ⟨h0, h1⟩ := h
    have h2 : m < 2 ^ x := by rw [HP.out]; exact h1
    have h3 : ¬ m < 0 := by omega
    have h4 : m ≤ 2000000000 := by omega
    clear h1 hpw
    go_enter Tryz.func101, Tryz.ntmps101
    go_wp2_with fail
    refine (C.out _).mono ?_; rintro e w1 ⟨rfl, hb1⟩
    go_wp2
    go_ret2
    exact ⟨ret2_i (by omega) rfl, hb1⟩
  · rw [if_neg h, if_neg h]
    by_cases h0 : m < 0
    · clear h hpw
      go_enter Tryz.func101, Tryz.ntmps101
      go_wp2_with fail
      refine (C.out _).mono ?_; rintro e w1 ⟨rfl, hb1⟩
      go_wp2
      go_ret2
      exact ⟨rfl, hb1⟩
    · have h2 : (2 : Int) ^ x ≤ m := by rw [HP.out]; omega
      clear h hpw
      go_enter Tryz.func101, Tryz.ntmps101
      go_wp2_with fail
      refine (C.out _).mono ?_; rintro e w1 ⟨rfl, hb1⟩
      go_wp2
      go_ret2
      exact ⟨rfl, hb1⟩
set_option maxHeartbeats 800000 in
theorem LenOf_in (s : Nat) (m : Int) (hs : s ≤ 28) (w : World) :
    Calls Tryz.prog 79 #[.int .i64 s, .int .i64 m] w fun e w' =>
      e = .returned (.tuple #[.int .i64 (if 0 ≤ m ∧ m < wideL s then (tbL s : Int) + m else 0), .int .i64 (if 0 ≤ m ∧ m < wideL s then 0 else 2)]) ∧ Below w.heap.size w w' := by
  by_cases h28 : s = 28
  · subst h28
    rw [show wideL 28 = 1 from by decide, show tbL 28 = 258 from by decide]
    by_cases hm : m = 0
    · subst hm
      go_enter Tryz.func79, Tryz.ntmps79
      go_wp2
      go_ret2
      exact ⟨rfl, Below.refl _ _⟩
    · have hb : (m == 0) = false := by rw [beq_eq_false_iff_ne]; exact hm
      have hn : ¬ (0 ≤ m ∧ m < ((1 : Nat) : Int)) := by omega
      rw [if_neg hn, if_neg hn]
      clear hn
      go_enter Tryz.func79, Tryz.ntmps79
      go_wp2
      go_ret2
      exact ⟨rfl, Below.refl _ _⟩
  · have hb : ((s : Int) == 28) = false := by rw [beq_eq_false_iff_ne]; omega
    have hs2 : s < 28 := by omega
    have C := Lib.hid (numberL_any s m hs2)
    obtain ⟨A, hA⟩ : ∃ A, (if 0 ≤ m ∧ m < wideL s then (tbL s : Int) + m else 0) = A := ⟨_, rfl⟩
    obtain ⟨B, hB⟩ : ∃ B : Int, (if 0 ≤ m ∧ m < wideL s then (0 : Int) else 2) = B := ⟨_, rfl⟩
    rw [hA, hB] at C ⊢
    clear hA hB
    go_enter Tryz.func79, Tryz.ntmps79
    go_wp2_with fail
    refine (C.out _).mono ?_; rintro e w1 ⟨rfl, hb1⟩
    go_wp2
    go_ret2
    exact ⟨rfl, hb1⟩

set_option maxHeartbeats 800000 in
theorem DistOf_in (s : Nat) (m : Int) (hs : s ≤ 51) (w : World) :
    Calls Tryz.prog 81 #[.int .i64 s, .int .i64 m] w fun e w' =>
      e = .returned (.tuple #[.int .i64 (if 0 ≤ m ∧ m < wideD s then (tbD s : Int) + m else 0), .int .i64 (if 0 ≤ m ∧ m < wideD s then 0 else 2)]) ∧ Below w.heap.size w w' := by
  have hs2 : s < 52 := by omega
  have C := Lib.hid (numberD_any s m hs2)
  obtain ⟨A, hA⟩ : ∃ A, (if 0 ≤ m ∧ m < wideD s then (tbD s : Int) + m else 0) = A := ⟨_, rfl⟩
  obtain ⟨B, hB⟩ : ∃ B : Int, (if 0 ≤ m ∧ m < wideD s then (0 : Int) else 2) = B := ⟨_, rfl⟩
  rw [hA, hB] at C ⊢
  clear hA hB
  go_enter Tryz.func81, Tryz.ntmps81
  go_wp2_with fail
  refine (C.out _).mono ?_; rintro e w1 ⟨rfl, hb1⟩
  go_wp2
  go_ret2
  exact ⟨rfl, hb1⟩


end Go.Proofs.YtipcdkemokkdfaaGreat.Slo

/- Layer 16, carried over: Size, Of. -/
namespace Go.Proofs.YtipcdkemokkdfaaGreat.Tok
open Go.ChangeShapes Go.WideShapes Go.ChangeAt Go.RowKit
set_option linter.unusedVariables false
set_option linter.unusedSimpArgs false
set_option maxRecDepth 100000
set_option maxHeartbeats 800000 in
theorem size_any (k b l d r : Int) (w : World) :
    Calls Tryz.prog 54 #[.agg #[.int .i64 k, .int .i64 b, .int .i64 l, .int .i64 d, .int .i64 r]] w fun e w' => e = .returned (.int .i64 (szTok k b l d r)) ∧ Below w.heap.size w w' := by
  have C := Lib.hid (check_any k b l d r)
  by_cases h : OkTok k b l d r
  · have e1 : chk k b l d r = 0 := (chk_yes h).symm
    rw [e1] at C
    clear e1
    by_cases k0 : k = 0
    · subst k0
      have e2 : szTok 0 b l d r = 1 := by unfold szTok; rw [if_pos h, if_pos rfl]
      rw [e2]; clear e2 h
      go_enter Tryz.func54, Tryz.ntmps54
      go_wp2_with fail
      refine (C.out _).mono ?_; rintro e w1 ⟨rfl, hb1⟩
      obtain ⟨⟨q0, q1, q2⟩, q3, q4⟩ := boxed5 hb1
      have hlt : w.heap.size < w1.heap.size := by have := hb1.size; simp at this; omega
      have hbb := below_box hb1
      clear hb1
      go_wp2
      go_ret
      exact ⟨rfl, hbb⟩
    · skip
      by_cases k1 : k = 1
      · subst k1
        have e2 : szTok 1 b l d r = l := by unfold szTok; rw [if_pos h, if_neg (by decide)]
        rw [e2]; clear e2 h
        go_enter Tryz.func54, Tryz.ntmps54
        go_wp2_with fail
        refine (C.out _).mono ?_; rintro e w1 ⟨rfl, hb1⟩
        obtain ⟨⟨q0, q1, q2⟩, q3, q4⟩ := boxed5 hb1
        have hlt : w.heap.size < w1.heap.size := by have := hb1.size; simp at this; omega
        have hbb := below_box hb1
        clear hb1
        go_wp2
        go_ret
        exact ⟨rfl, hbb⟩
      · skip
        obtain rfl : k = 2 := by unfold OkTok at h; omega
        have e2 : szTok 2 b l d r = l := by unfold szTok; rw [if_pos h, if_neg (by decide)]
        rw [e2]; clear e2 h
        go_enter Tryz.func54, Tryz.ntmps54
        go_wp2_with fail
        refine (C.out _).mono ?_; rintro e w1 ⟨rfl, hb1⟩
        obtain ⟨⟨q0, q1, q2⟩, q3, q4⟩ := boxed5 hb1
        have hlt : w.heap.size < w1.heap.size := by have := hb1.size; simp at this; omega
        have hbb := below_box hb1
        clear hb1
        go_wp2
        go_ret
        exact ⟨rfl, hbb⟩
  · have e1 : chk k b l d r = 10 := (chk_no h).symm
    have e2 : szTok k b l d r = 0 := if_neg h
    rw [e1] at C
    rw [e2]; clear e1 e2 h
    go_enter Tryz.func54, Tryz.ntmps54
    go_wp2_with fail
    refine (C.out _).mono ?_; rintro e w1 ⟨rfl, hb1⟩
    have hbb := below_box hb1
    clear hb1
    go_wp2
    go_ret
    exact ⟨rfl, hbb⟩

/-- What a symbol is. -/
def ofK (s : Int) : Int := if s < 0 ∨ 400 < s then 0 else if s < 256 then 0 else if s < 285 then 1 else 2
def ofB (s : Int) : Int := if s < 0 ∨ 400 < s then 0 else if s < 256 then s else 0
def ofR (s : Int) : Int := if s < 0 ∨ 400 < s then 0 else if s < 285 then 0 else (s - 285) / 29
def ofS (s : Int) : Int := if s < 0 ∨ 400 < s then 0 else if s < 256 then 0 else if s < 285 then s - 256 else (s - 285) % 29
def ofE (s : Int) : Int := if s < 0 ∨ 400 < s then 2 else 0
theorem ret5_i {a b c d e a' b' c' d' e' : Int} (h1 : a = a') (h2 : b = b') (h3 : c = c') (h4 : d = d') (h5 : e = e') : Ending.returned (.tuple #[.int .i64 a, .int .i64 b, .int .i64 c, .int .i64 d, .int .i64 e]) = .returned (.tuple #[.int .i64 a', .int .i64 b', .int .i64 c', .int .i64 d', .int .i64 e']) := by rw [h1, h2, h3, h4, h5]

set_option maxHeartbeats 800000 in
theorem Of_any (s : Int) (w : World) : Calls Tryz.prog 75 #[.int .i64 s] w fun e w' =>
    e = .returned (.tuple #[.int .i64 (ofK s), .int .i64 (ofB s), .int .i64 (ofR s), .int .i64 (ofS s), .int .i64 (ofE s)]) ∧ w = w' := by
  by_cases h1 : s < 0
  · go_enter Tryz.func75, Tryz.ntmps75
    go_wp2
    exact bodyPost_ret (v := .tuple #[.int .i64 0, .int .i64 0, .int .i64 0, .int .i64 0, .int .i64 2]) (by simp [results, Tryz.results26, go_sem]) rfl ⟨ret5_i (by unfold ofK; rw [if_pos (.inl h1)]) (by unfold ofB; rw [if_pos (.inl h1)]) (by unfold ofR; rw [if_pos (.inl h1)]) (by unfold ofS; rw [if_pos (.inl h1)]) (by unfold ofE; rw [if_pos (.inl h1)]), rfl⟩
  · by_cases h2 : 400 < s
    · go_enter Tryz.func75, Tryz.ntmps75
      go_wp2
      exact bodyPost_ret (v := .tuple #[.int .i64 0, .int .i64 0, .int .i64 0, .int .i64 0, .int .i64 2]) (by simp [results, Tryz.results26, go_sem]) rfl ⟨ret5_i (by unfold ofK; rw [if_pos (.inr h2)]) (by unfold ofB; rw [if_pos (.inr h2)]) (by unfold ofR; rw [if_pos (.inr h2)]) (by unfold ofS; rw [if_pos (.inr h2)]) (by unfold ofE; rw [if_pos (.inr h2)]), rfl⟩
    · have hn : ¬ (s < 0 ∨ 400 < s) := by omega
      by_cases h3 : s < 256
      · have h4 : s < 285 := by omega
        have e1 : ofK s = 0 := by unfold ofK; rw [if_neg hn, if_pos h3]
        have e2 : ofB s = s := by unfold ofB; rw [if_neg hn, if_pos h3]
        have e3 : ofR s = 0 := by unfold ofR; rw [if_neg hn, if_pos h4]
        have e4 : ofS s = 0 := by unfold ofS; rw [if_neg hn, if_pos h3]
        have e5 : ofE s = 0 := by unfold ofE; rw [if_neg hn]
        rw [e1, e2, e3, e4, e5]; clear e1 e2 e3 e4 e5 hn
        go_enter Tryz.func75, Tryz.ntmps75
        go_wp2
        exact bodyPost_ret (v := .tuple #[.int .i64 0, .int .i64 s, .int .i64 0, .int .i64 0, .int .i64 0]) (by simp [results, Tryz.results26, go_sem]) rfl ⟨rfl, rfl⟩
      · by_cases h4 : s < 285
        · have e1 : ofK s = 1 := by unfold ofK; rw [if_neg hn, if_neg h3, if_pos h4]
          have e2 : ofB s = 0 := by unfold ofB; rw [if_neg hn, if_neg h3]
          have e3 : ofR s = 0 := by unfold ofR; rw [if_neg hn, if_pos h4]
          have e4 : ofS s = s - 256 := by unfold ofS; rw [if_neg hn, if_neg h3, if_pos h4]
          have e5 : ofE s = 0 := by unfold ofE; rw [if_neg hn]
          rw [e1, e2, e3, e4, e5]; clear e1 e2 e3 e4 e5 hn
          go_enter Tryz.func75, Tryz.ntmps75
          go_wp2
          exact bodyPost_ret (v := .tuple #[.int .i64 1, .int .i64 0, .int .i64 0, .int .i64 (s - 256), .int .i64 0]) (by simp [results, Tryz.results26, go_sem]) rfl ⟨rfl, rfl⟩
        · have e1 : ofK s = 2 := by unfold ofK; rw [if_neg hn, if_neg h3, if_neg h4]
          have e2 : ofB s = 0 := by unfold ofB; rw [if_neg hn, if_neg h3]
          have e3 : ofR s = (s - 285) / 29 := by unfold ofR; rw [if_neg hn, if_neg h4]
          have e4 : ofS s = (s - 285) % 29 := by unfold ofS; rw [if_neg hn, if_neg h3, if_neg h4]
          have e5 : ofE s = 0 := by unfold ofE; rw [if_neg hn]
          rw [e1, e2, e3, e4, e5]; clear e1 e2 e3 e4 e5 hn
          go_enter Tryz.func75, Tryz.ntmps75
          go_wp2
          exact bodyPost_ret (v := .tuple #[.int .i64 2, .int .i64 0, .int .i64 ((s - 285) / 29), .int .i64 ((s - 285) % 29), .int .i64 0]) (by simp [results, Tryz.results26, go_sem]) rfl ⟨rfl, rfl⟩


end Go.Proofs.YtipcdkemokkdfaaGreat.Tok
