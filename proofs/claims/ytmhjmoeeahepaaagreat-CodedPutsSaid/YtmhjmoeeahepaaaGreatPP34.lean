import Derived.Test.YtmhjmoeeahepaaaGreatPP33
import Derived.Test.YtmhjmoeeahepaaaGreatPP28
import Derived.Laws.Cover3
import Derived.Test.YtmhjmoeeahepaaaGreatPP20
/- Layer 13: the chapter's example: values. -/
namespace Go.Proofs.YtmhjmoeeahepaaaGreat
set_option linter.unusedVariables false
set_option maxRecDepth 100000
open Bits hiding packF pack_length
open RunsMath KraftMath CanonMath TurnMath Pm
deriving instance DecidableEq for RdR
theorem p11 : packL [1, 1] = [(1, 0), (1, 0)] := by decide +kernel
theorem o11 : ofR [(1, 0), (1, 0)] = [0, 1, 0, 0, 0, 0, 0, 0, 0, 0, 0, 0, 0, 0, 0, 0, 0, 0, 0] := by decide +kernel
def O11 : List Int := [0, 1, 0, 0, 0, 0, 0, 0, 0, 0, 0, 0, 0, 0, 0, 0, 0, 0, 0]
theorem w11 : (writeB [(1, 0), (1, 0)] O11).length = 60 := by decide +kernel
theorem s11 : ((spread (pack (writeB [(1, 0), (1, 0)] O11)))).length = 64 := by decide +kernel
theorem k11 : peek ((spread (pack (writeB [(1, 0), (1, 0)] O11))).drop 0) 4 + 4 = 18 := by decide +kernel
theorem h11 : headO ((spread (pack (writeB [(1, 0), (1, 0)] O11))).drop (0 + 4)) 18 = O11 := by decide +kernel
theorem c11 : check O11 7 = 0 := by decide +kernel
theorem r11 : rdR O11 (spread (pack (writeB [(1, 0), (1, 0)] O11))) 7 (7 + 1) (0 + 4 + 3 * 18) 0 [] = .bad 3 := by decide +kernel
end Go.Proofs.YtmhjmoeeahepaaaGreat

/- Layer 13: Size, and what the example reads. -/
namespace Go.Proofs.YtmhjmoeeahepaaaGreat
open Go.ChangeShapes Go.WideShapes Go.ChangeAt Go.RowKit
set_option linter.unusedVariables false
set_option linter.unusedSimpArgs false
set_option maxRecDepth 100000
open Bits hiding packF pack_length
open RunsMath KraftMath CanonMath TurnMath Pm
/-- A writer of the call's own. -/
structure Wr (N : Nat) (w0 w : World) (g B : Nat) (bits : List Bool) : Prop where
  wr : IsWriter w g B bits
  old : Below N w0 w
  feet : ∀ k, foot w g k → N ≤ k
theorem Wr.pen {N : Nat} {w0 w w' : World} {g B : Nat} {b1 b2 : List Bool} (h : Wr N w0 w g B b1) (p : PenW w w' g B b2) (hN : N ≤ w.heap.size) : Wr N w0 w' g B b2 :=
  ⟨p.1, h.old.trans (p.2.1.below (fun k hk => ⟨by omega, fun e => by have := h.feet k e; omega⟩)), fun k hk => by
    rcases p.2.2 k hk with e | e
    · exact h.feet k e
    · omega⟩
theorem Wr.below {N : Nat} {w0 w w' : World} {g B : Nat} {b1 : List Bool} (h : Wr N w0 w g B b1) (hb : Below w.heap.size w w') (hN : N ≤ w.heap.size) : Wr N w0 w' g B b1 := by
  obtain ⟨h1, h2⟩ := IsWriter.keep (S := fun _ => False) h.wr (Keeps.of_below hb) (fun _ _ h => h)
  exact ⟨h1, h.old.trans (hb.mono hN), fun k hk => h.feet k ((h2 k).1 hk)⟩
theorem cSizeOk (a : Option Addr) (c : Nat) (l : List Int) (h0 : l ≠ []) (hl : l.length ≤ 1024) (hok : okB l = true) (w : World) (hi : IsInts w a l) :
    Calls Tryz.prog 9 #[.slice a l.length c] w fun e w' => e = .returned (.int .i64 (writeB (packL l) (ofR (packL l))).length) ∧ Below w.heap.size w w' := by
  have HI := Lib.hid hi
  have CN := Lib.hid (wNew w)
  have CP := Lib.hid (fun W g B (h : IsWriter W g B []) (hi : IsInts W a l) => cPutOk W g B [] h (by simp) a c l hi h0 hl hok)
  have CL := Lib.hid (fun W g B bits (h : IsWriter W g B bits) => wLen W g B bits h)
  obtain ⟨b, hb⟩ : ∃ b, writeB (packL l) (ofR (packL l)) = b := ⟨_, rfl⟩
  rw [hb] at CP ⊢
  clear hi hb h0 hl hok
  go_enter Tryz.func9, Tryz.ntmps9
  go_wp2_with fail
  refine CN.out.mono ?_; rintro e w1 ⟨rfl, hw, hbw, hz, hf⟩
  have HW := Lib.hid (show Wr w.heap.size w w1 w.heap.size w.heap.size [] from ⟨hw, hbw, hf⟩)
  have hsz := hbw.size
  have C := Lib.hid (CP.out w1 _ _ hw (HI.out.kept hbw))
  clear hw hbw hz hf CN CP HI
  go_wp2_with fail
  refine C.out.mono ?_; rintro e w2 ⟨rfl, hp⟩
  rw [List.nil_append] at hp
  have HW2 := Lib.hid (HW.out.pen hp hsz)
  clear hp C HW
  go_wp2_with fail
  refine (CL.out _ _ _ _ HW2.out.wr).mono ?_; rintro e w3 ⟨rfl, k, rfl⟩
  go_wp2_with fail
  go_ret
  exact ⟨rfl, below_dn HW2.out.old k⟩
theorem cSizeBad (v : Value) (E : Int) (hE : E ≠ 0) (C : ∀ W, ∀ w : World, Below w.heap.size w W → Calls Tryz.prog 42 #[v] W fun e w' => e = .returned (.int .i64 E) ∧ w' = W) (w : World) :
    Calls Tryz.prog 9 #[v] w fun e w' => e = .returned (.int .i64 0) ∧ Below w.heap.size w w' := by
  have CN := Lib.hid (wNew w)
  have CP := Lib.hid (fun (W : World) (g : Nat) (h : Below w.heap.size w W) => cPutBad ⟨g, 0, none⟩ v E hE W (C W w h))
  have CL := Lib.hid (fun W g B bits (h : IsWriter W g B bits) => wLen W g B bits h)
  clear hE C
  go_enter Tryz.func9, Tryz.ntmps9
  go_wp2_with fail
  refine CN.out.mono ?_; rintro e w1 ⟨rfl, hw, hbw, hz, hf⟩
  have HW := Lib.hid (show Wr w.heap.size w w1 w.heap.size w.heap.size [] from ⟨hw, hbw, hf⟩)
  have C := Lib.hid (CP.out w1 w.heap.size hbw)
  clear hw hbw hz hf CN CP
  go_wp2_with fail
  refine C.out.mono ?_; rintro e w2 ⟨rfl, h2⟩; rw [h2]; clear h2 w2
  go_wp2_with fail
  refine (CL.out _ _ _ _ HW.out.wr).mono ?_; rintro e w3 ⟨rfl, k, rfl⟩
  go_wp2_with fail
  go_ret
  exact ⟨rfl, below_dn HW.out.old k⟩
/-- What was written is read. -/
theorem cReadOk (w : World) (g : Nat) (s : List UInt8) (l : List Int) (h0 : l ≠ []) (hl : l.length ≤ 1024) (hok : okB l = true) (rest : List Bool) (hs : spread s = writeB (packL l) (ofR (packL l)) ++ rest) (hr : IsReader w g s 0) :
    Calls Tryz.prog 80 #[.pointer (some ⟨g, 0, none⟩), .int .i64 l.length] w fun e w' => ∃ v, e = .returned (.tuple #[v, .int .i64 0]) ∧ Keeps (fun k => k = g) w w' ∧ OwnI w.heap.size w' v l ∧ IsReader w' g s (writeB (packL l) (ofR (packL l))).length := by
  obtain ⟨r, hr'⟩ : ∃ r, packL l = r := ⟨_, rfl⟩
  have hR : RunsOk r := by rw [← hr']; exact pack_ok h0 hl hok
  obtain ⟨h1, h2, h3, h4, h5⟩ := read_back h0 hl hok rest r hr'
  rw [hr'] at hs ⊢
  rw [← hs] at h1 h2 h4
  have hlen : (spread s).length = 8 * s.length := spread_length s
  rw [hs, List.length_append] at hlen
  have hl1 : 1 ≤ l.length := List.length_pos_iff.2 h0
  refine (cReadAll w g 0 s hr l.length hl1 hl _ (fun W hW => cRead W g 0 s hW l.length hl1 hl _ h1 (by omega) (ofR r) h2 hR.chk7 _ h4 (fun r' t e _ => by injection e with e _; rw [← e, h5]))).mono ?_
  rintro e w' ⟨v, E, rfl, hk, rfl, ho, hrd⟩
  rw [h5] at ho
  exact ⟨v, rfl, hk, ho, hrd⟩
theorem cRead7 (w : World) (g : Nat) (hr : IsReader w g (pack (writeB [(1, 0), (1, 0)] O11)) 0) :
    Calls Tryz.prog 80 #[.pointer (some ⟨g, 0, none⟩), .int .i64 7] w fun e w' => e = .returned (.tuple #[.slice none 0 0, .int .i64 3]) ∧ Keeps (fun k => k = g) w w' := by
  have hlen : 0 + 4 + 3 * 18 ≤ 8 * (pack (writeB [(1, 0), (1, 0)] O11)).length := by rw [← spread_length, s11]; decide
  refine (cReadAll w g 0 _ hr 7 (by decide) (by decide) _ (fun W hW => cRead W g 0 _ hW 7 (by decide) (by decide) 18 k11 hlen O11 h11 c11 _ r11 (fun r' t e _ => by cases e))).mono ?_
  rintro e w' ⟨v, E, rfl, hk, rfl, rfl⟩
  exact ⟨rfl, hk⟩
end Go.Proofs.YtmhjmoeeahepaaaGreat

/- Layer 27: tokens are written, walked. -/
namespace Go.Proofs.YtmhjmoeeahepaaaGreat
open Go.ChangeShapes Go.WideShapes Go.ChangeAt Go.RowKit
set_option linter.unusedVariables false
set_option linter.unusedSimpArgs false
set_option maxRecDepth 100000
open Bits hiding packF pack_length
open RunsMath KraftMath CanonMath TurnMath Pm
theorem own_slI {B : Nat} {w : World} {v : Value} {l : List Int} (h : OwnI B w v l) (h0 : l.length ≠ 0) (hl : l.length ≤ 1000) : ∃ g c, v = .slice (some ⟨g, 0, none⟩) l.length c ∧ B ≤ g ∧ g < w.heap.size ∧ IsInts w (some ⟨g, 0, none⟩) l := by
  obtain ⟨g, c, rfl, h1, h2⟩ := own_getI h h0
  exact ⟨g, c, rfl, h1, h2, own_ints h (by omega)⟩
theorem wr_bk {w4 wr : World} {g B : Nat} {bits : List Bool} {gc gm : Nat} {l : List Int} (h : Wr w4.heap.size w4 wr g B bits) (h1 : IsInts w4 (some ⟨gc, 0, none⟩) (turnedL l)) (h2 : IsInts w4 (some ⟨gm, 0, none⟩) l) (b1 : gc < w4.heap.size) (b2 : gm < w4.heap.size) (hE : check l 16 = 0) : Bk wr g (some ⟨gc, 0, none⟩) (some ⟨gm, 0, none⟩) l :=
  ⟨h1.kept h.old, h2.kept h.old, fun x hx e => by injection hx with hx; subst hx; have := h.feet _ e; simp only at this; omega, fun x hx e => by injection hx with hx; subst hx; have := h.feet _ e; simp only at this; omega, hE⟩
theorem wr_box {w4 wr : World} {g B gA : Nat} {bits : List Bool} {cs : Array Value} {t : TypeId} (h : Wr w4.heap.size w4 wr g B bits) (hb : w4.heap[gA]? = some (.cells cs t (0, 0))) : wr.heap[gA]? = some (.cells cs t (0, 0)) := (h.old.block gA (block_lt hb)).trans hb
theorem eql_nilI (a : Option Addr) (l c : Nat) (W : World) : (binOp .eql 27 (.slice a l c) (.slice none 0 0)).run Tryz.prog W = .ok (.bool a.isNone) W := by
  simp only [binOp]
  simp [run_equal_slice_nil W 27 3 a l c Tryz.underlying27]
theorem tok_cases {t : Tk} (h : t.ok) : (∃ b : Int, (0 ≤ b ∧ b ≤ 255) ∧ t = ⟨0, b, 0, 0, 0⟩) ∨ (∃ l d : Nat, (2 ≤ l ∧ l ≤ 258) ∧ (1 ≤ d ∧ d ≤ 67108864) ∧ t = ⟨1, 0, (l : Int), (d : Int), 0⟩) ∨ (∃ l r : Nat, (2 ≤ l ∧ l ≤ 258) ∧ r ≤ 3 ∧ t = ⟨2, 0, (l : Int), 0, (r : Int)⟩) := by
  obtain ⟨k, b, l, d, r⟩ := t
  unfold Tk.ok Tok.OkTok at h
  simp only at h
  rcases h with ⟨rfl, h1, h2, rfl, rfl, rfl⟩ | ⟨rfl, h1, h2, h3, h4, rfl, rfl⟩ | ⟨rfl, h1, h2, h3, h4, rfl, rfl⟩
  · exact .inl ⟨b, ⟨h1, h2⟩, rfl⟩
  · exact .inr (.inl ⟨l.toNat, d.toNat, by omega, by omega, by rw [Int.toNat_of_nonneg (by omega), Int.toNat_of_nonneg (by omega)]⟩)
  · exact .inr (.inr ⟨l.toNat, r.toNat, by omega, by omega, by rw [Int.toNat_of_nonneg (by omega), Int.toNat_of_nonneg (by omega)]⟩)
set_option maxHeartbeats 6400000 in
theorem cWriteNear (a : Option Addr) (c n : Nat) (l : List Tk) (M D : List Int) (w : World) (hl : l.length = n) (h : IsTk w a l) (h0 : n ≠ 0) (hn : n ≤ 300) (hok : ∀ t ∈ l, t.ok) (hMe : tabL (tl l).1 = M) (hDe : tabL (tl l).2 = D) (T : Tabs l M D) (hf : ¬ ∃ t ∈ l, t.k = 1) :
    Calls Tryz.prog 15 #[.slice a n c] w fun e w' => ∃ g B, e = .returned (.tuple #[.pointer (some ⟨g, 0, none⟩), .int .i64 0]) ∧ Wr w.heap.size w w' g B (codedB l M D) := by
  have HT := Lib.hid T
  have HI := Lib.hid h
  have HOK := Lib.hid hok
  have hM := T.lm
  have hD := T.ld
  have hokM := T.okM
  have h16M := (check_16 hokM).1
  have HM0 := Lib.hid (show M ≠ [] from fun e => by rw [e] at hM; simp at hM)
  have HD0 := Lib.hid (show D ≠ [] from fun e => by rw [e] at hD; simp at hD)
  have CT := Lib.hid (cTabG a c n l w hl h (by omega) (tl l).1 (tl l).2 (by unfold frA; rw [if_pos hok]) (tl_len l).1 (tl_len l).2)
  rw [hMe, hDe] at CT
  have hni : ((n : Int) == 0) = false := by rw [beq_eq_false_iff_ne]; omega
  have HLN := Lib.hid hl
  have CBM := Lib.hid (fun a c W (h : IsInts W a M) => by have := cBook a c M W h h16M (by omega) HM0.out; rw [hM] at this; exact this)
  have CPM := Lib.hid (fun (W : World) g B (h : IsWriter W g B []) a c (hi : IsInts W a M) => by have := cPutOk W g B [] h (by simp) a c M hi HM0.out (by omega) T.vM; rw [hM] at this; exact this)
  have hMb := tabB_few HM0.out (by omega) T.vM
  have hbad : check D 16 ≠ 0 := by rw [T.near hf]; exact none_bad
  have CBD := Lib.hid (fun a c W (h : IsInts W a D) => by have := cBookNil a c D W h hbad; rw [hD] at this; exact this)
  have h16 := h16M
  clear h hok hl hMe hDe hokM h16M hbad
  go_enter Tryz.func15, Tryz.ntmps15
  go_wp2_with fail
  refine CT.out.mono ?_; rintro e w1 ⟨u1, v1, rfl, hu1, hv1, hb1⟩
  obtain ⟨gm, cm, rfl, hgm1, hgm2, him⟩ := own_slI hu1 (by omega) (by omega)
  obtain ⟨gd, cd, rfl, hgd1, hgd2, hid⟩ := own_slI hv1 (by omega) (by omega)
  rw [hM, hD]
  have HIM1 := Lib.hid him
  have HID1 := Lib.hid hid
  have HB1 := Lib.hid hb1
  clear hu1 hv1 hb1 him hid CT
  go_wp2_with fail
  refine (CBM.out _ cm w1 HIM1.out).mono ?_; rintro e w2 ⟨v2, rfl, ho2, hb2⟩
  obtain ⟨gc, cc, rfl, hgc1, hgc2, hic⟩ := own_slI ho2 (by rw [turnedL_len]; omega) (by rw [turnedL_len]; omega)
  rw [turnedL_len, hM]
  have HIC2 := Lib.hid hic
  have HIM2 := Lib.hid (HIM1.out.kept hb2)
  have HID2 := Lib.hid (HID1.out.kept hb2)
  have HB2 := Lib.hid (HB1.out.trans (hb2.mono HB1.out.size))
  clear ho2 hb2 hic HIM1 HID1 HB1 CBM
  go_wp2_with fail
  refine (CBD.out _ cd w2 HID2.out).mono ?_; rintro e w3 ⟨rfl, hb3⟩
  have HIC3 := Lib.hid (HIC2.out.kept hb3)
  have HIM3 := Lib.hid (HIM2.out.kept hb3)
  have HB3 := Lib.hid (HB2.out.trans (hb3.mono HB2.out.size))
  clear hb3 HIC2 HIM2 HID2 HB2 CBD
  obtain ⟨gA, hgA⟩ : ∃ gA, w3.heap.size = gA := ⟨_, rfl⟩
  obtain ⟨w4, hw4⟩ : ∃ w4, (w3.alloc (.cells #[.slice (some ⟨gc, 0, none⟩) 401 cc, .slice (some ⟨gm, 0, none⟩) 401 cm] 66)).alloc (.cells #[.slice none 0 0, .slice (some ⟨gd, 0, none⟩) 52 cd] 66) = w4 := ⟨_, rfl⟩
  have HXA := Lib.hid (show w4.heap[gA]? = some (.cells #[.slice (some ⟨gc, 0, none⟩) 401 cc, .slice (some ⟨gm, 0, none⟩) 401 cm] 66 (0, 0)) by rw [← hw4, ← hgA]; exact heap_two_first _ _ _)
  have HXB := Lib.hid (show w4.heap[gA + 1]? = some (.cells #[.slice none 0 0, .slice (some ⟨gd, 0, none⟩) 52 cd] 66 (0, 0)) by rw [← hw4, ← hgA]; exact heap_two_last _ _ _)
  have hb4 : Below w3.heap.size w3 w4 := by rw [← hw4]; exact ((Below.refl _ _).alloc (Nat.le_refl _) _).alloc (by simp) _
  have hgc4 : gc < w4.heap.size := by have := HB3.out.size; have := hb4.size; have := block_lt HXA.out; have := ints_blk HIC3.out (by rw [turnedL_len, hM]; decide); simp only at this; omega
  have hgm4 : gm < w4.heap.size := by have := hb4.size; have := ints_blk HIM3.out (by rw [hM]; decide); simp only at this; omega
  have HIC4 := Lib.hid (HIC3.out.kept hb4)
  have HIM4 := Lib.hid (HIM3.out.kept hb4)
  have HB4 := Lib.hid (HB3.out.trans (hb4.mono HB3.out.size))
  clear hb4 HIC3 HIM3 HB3
  go_wp2_with fail
  clear hgA hw4
  refine (wNew w4).mono ?_; rintro e w5 ⟨rfl, hw5, hbw5, hz5, hf5⟩
  have HW5 := Lib.hid (show Wr w4.heap.size w4 w5 w4.heap.size w4.heap.size [] from ⟨hw5, hbw5, hf5⟩)
  have hsz5 := hbw5.size
  clear hw5 hbw5 hz5 hf5
  go_wp2_with fail
  refine (CPM.out w5 _ _ HW5.out.wr _ cm (HIM4.out.kept HW5.out.old)).mono ?_; rintro e w6 ⟨rfl, hp6⟩
  have HW6 := Lib.hid (HW5.out.pen hp6 hsz5)
  have hsz6 : w4.heap.size ≤ w6.heap.size := Nat.le_trans hsz5 hp6.2.1.size
  clear hp6 HW5 hsz5 CPM
  have hxb := wr_box HW6.out HXB.out
  have k0 := cell_lit hxb 0 _ rfl
  clear hxb
  have heq := fun a l c W => eql_nilI a l c W
  go_wp2_with fail
  clear k0
  refine (pPut w6 _ _ _ 0 1 HW6.out.wr (by decide) (by decide) (by rw [List.nil_append]; have : (writeB (packL M) (ofR (packL M))).length ≤ 14397 := hMb; omega)).mono ?_; rintro e w7 ⟨rfl, hp7⟩
  have HW7 := Lib.hid (HW6.out.pen hp7 hsz6)
  clear hp7 HW6 hsz6 heq
  obtain ⟨HB, hHB⟩ : ∃ HB, headsB (farB l) M D = HB := ⟨_, rfl⟩
  have hfb : farB l = false := by
    rw [Bool.eq_false_iff]; exact fun e => hf ((far_iff l).1 e)
  have hHl : HB.length ≤ 30000 := by
    rw [← hHB, hfb]; unfold headsB; rw [List.length_append]; simp; omega
  have HWH := Lib.hid (show Wr w4.heap.size w4 w7 w4.heap.size w4.heap.size HB from by
    have := HW7.out
    rw [← hHB, hfb]
    exact this)
  have HHB := Lib.hid hHB
  clear HW7 hHB hfb
  go_wp2_with fail
  go_loopw [45] (fun i wr => ∃ k : Nat, k ≤ n ∧ i = .int .i64 k ∧ Hid (Wr w4.heap.size w4 wr w4.heap.size w4.heap.size (HB ++ (l.take k).flatMap (tokB M D)))) (fun i _ => n - (intOf i).toNat)
  case atStart => exact ⟨0, Nat.zero_le _, rfl, by rw [List.take_zero, List.flatMap_nil, List.append_nil]; exact HWH⟩
  case round =>
    clear HWH
    obtain ⟨k, hk, rfl, hw⟩ := hrel
    by_cases hlt : k < n
    · have hkl : k < l.length := by have := HLN.out; omega
      obtain ⟨x, rfl, hxl, hat⟩ := (HI.out.kept (HB4.out.trans (hw.out.old.mono HB4.out.size))).at k hkl
      have htm : l[k] ∈ l := List.getElem_mem hkl
      have hfew := toks_few HT.out HOK.out k (by omega)
      have hnx : (l.take (k + 1)).flatMap (tokB M D) = (l.take k).flatMap (tokB M D) ++ tokB M D l[k] := by
        rw [List.take_succ_eq_append_getElem hkl, List.flatMap_append]; simp
      have hcs := tok_cases (HOK.out _ htm)
      obtain ⟨t, ht⟩ : ∃ t, l[k] = t := ⟨_, rfl⟩
      rw [ht] at hat hnx hcs htm
      obtain ⟨q0, q1, q2, q3, q4⟩ := hat
      have HNX := Lib.hid hnx
      have HFEW := Lib.hid (show (HB ++ (l.take k).flatMap (tokB M D)).length ≤ 800000 by rw [List.length_append]; omega)
      have hki : (k : Int) < (n : Int) := by omega
      have hk0 : (0 : Int) ≤ (k : Int) := by omega
      have hszr : w4.heap.size ≤ wr.heap.size := hw.out.old.size
      clear hnx hfew ht
      rcases hcs with ⟨b, hb, rfl⟩ | ⟨ll, dd, hl2, hd2, rfl⟩ | ⟨ll, rr, hl2, hr2, rfl⟩
      · simp only at q0 q1 q2 q3 q4
        have hal : Below wr.heap.size wr (wr.alloc (.cells #[.int .i64 0, .int .i64 b, .int .i64 0, .int .i64 0, .int .i64 0] 35)) := (Below.refl _ _).alloc (Nat.le_refl _) _
        have HWA := Lib.hid (hw.out.below hal hszr)
        have hszA : w4.heap.size ≤ (wr.alloc (.cells #[.int .i64 0, .int .i64 b, .int .i64 0, .int .i64 0, .int .i64 0] 35)).heap.size := HWA.out.old.size
        have CTK := Lib.hid (cTokLit _ _ _ _ HWA.out.wr HFEW.out b hb (some ⟨gc, 0, none⟩) (some ⟨gm, 0, none⟩) cc cm M D HT.out.lm (wr_bk HWA.out HIC4.out HIM4.out hgc4 hgm4 h16) HT.out.bM (.slice none 0 0) (.slice (some ⟨gd, 0, none⟩) 52 cd) rfl rfl)
        clear hal hw
        have hrow := wr_box HWA.out HXA.out
        have hrow2 := wr_box HWA.out HXB.out
        have ha0 := cell_lit hrow 0 _ rfl
        have ha1 := cell_lit hrow 1 _ rfl
        have hb0 := cell_lit hrow2 0 _ rfl
        have hb1 := cell_lit hrow2 1 _ rfl
        clear hrow hrow2
        go_wp2_with fail
        clear ha0 ha1 hb0 hb1
        refine CTK.out.mono ?_; rintro e w9 ⟨rfl, hp9⟩
        have HW9 := Lib.hid (show Wr w4.heap.size w4 w9 w4.heap.size w4.heap.size (HB ++ (l.take (k + 1)).flatMap (tokB M D)) from by
          have := HWA.out.pen hp9 hszA
          rw [HNX.out, ← List.append_assoc]; exact this)
        clear hp9 HWA CTK
        go_wp2_with fail
        go_roundw
        case rel => exact ⟨k + 1, by omega, by go_num, HW9⟩
        case measure => simp [intOf]; omega
      · skip
        exact absurd ⟨_, htm, rfl⟩ hf
      · simp only at q0 q1 q2 q3 q4
        have hal : Below wr.heap.size wr (wr.alloc (.cells #[.int .i64 2, .int .i64 0, .int .i64 (ll : Int), .int .i64 0, .int .i64 (rr : Int)] 35)) := (Below.refl _ _).alloc (Nat.le_refl _) _
        have HWA := Lib.hid (hw.out.below hal hszr)
        have hszA : w4.heap.size ≤ (wr.alloc (.cells #[.int .i64 2, .int .i64 0, .int .i64 (ll : Int), .int .i64 0, .int .i64 (rr : Int)] 35)).heap.size := HWA.out.old.size
        have CTK := Lib.hid (cTokRep _ _ _ _ HWA.out.wr HFEW.out ll rr hl2 hr2 (some ⟨gc, 0, none⟩) (some ⟨gm, 0, none⟩) cc cm M D HT.out.lm (wr_bk HWA.out HIC4.out HIM4.out hgc4 hgm4 h16) HT.out.bM (.slice none 0 0) (.slice (some ⟨gd, 0, none⟩) 52 cd) rfl rfl)
        clear hal hw
        have hrow := wr_box HWA.out HXA.out
        have hrow2 := wr_box HWA.out HXB.out
        have ha0 := cell_lit hrow 0 _ rfl
        have ha1 := cell_lit hrow 1 _ rfl
        have hb0 := cell_lit hrow2 0 _ rfl
        have hb1 := cell_lit hrow2 1 _ rfl
        clear hrow hrow2
        go_wp2_with fail
        clear ha0 ha1 hb0 hb1
        refine CTK.out.mono ?_; rintro e w9 ⟨rfl, hp9⟩
        have HW9 := Lib.hid (show Wr w4.heap.size w4 w9 w4.heap.size w4.heap.size (HB ++ (l.take (k + 1)).flatMap (tokB M D)) from by
          have := HWA.out.pen hp9 hszA
          rw [HNX.out, ← List.append_assoc]; exact this)
        clear hp9 HWA CTK
        go_wp2_with fail
        go_roundw
        case rel => exact ⟨k + 1, by omega, by go_num, HW9⟩
        case measure => simp [intOf]; omega
    · obtain rfl : k = n := by omega
      have hki : ¬ (k : Int) < (k : Int) := by omega
      have hw' := hw.out
      rw [List.take_of_length_le (show l.length ≤ k by rw [HLN.out]; exact Nat.le_refl _)] at hw'
      have HWE := Lib.hid hw'
      clear hw hw'
      go_wp2_with fail
      go_ret2
      refine ⟨_, rfl, w4.heap.size, ?_⟩
      have hE := HHB.out
      unfold codedB
      rw [hE]
      exact ⟨HWE.out.wr, HB4.out.trans (HWE.out.old.mono HB4.out.size), fun k hk => Nat.le_trans HB4.out.size (HWE.out.feet k hk)⟩
set_option maxHeartbeats 6400000 in
theorem cWriteFar (a : Option Addr) (c n : Nat) (l : List Tk) (M D : List Int) (w : World) (hl : l.length = n) (h : IsTk w a l) (h0 : n ≠ 0) (hn : n ≤ 300) (hok : ∀ t ∈ l, t.ok) (hMe : tabL (tl l).1 = M) (hDe : tabL (tl l).2 = D) (T : Tabs l M D) (hf : ∃ t ∈ l, t.k = 1) :
    Calls Tryz.prog 15 #[.slice a n c] w fun e w' => ∃ g B, e = .returned (.tuple #[.pointer (some ⟨g, 0, none⟩), .int .i64 0]) ∧ Wr w.heap.size w w' g B (codedB l M D) := by
  have HT := Lib.hid T
  have HI := Lib.hid h
  have HOK := Lib.hid hok
  have hM := T.lm
  have hD := T.ld
  have hokM := T.okM
  have h16M := (check_16 hokM).1
  have HM0 := Lib.hid (show M ≠ [] from fun e => by rw [e] at hM; simp at hM)
  have HD0 := Lib.hid (show D ≠ [] from fun e => by rw [e] at hD; simp at hD)
  have CT := Lib.hid (cTabG a c n l w hl h (by omega) (tl l).1 (tl l).2 (by unfold frA; rw [if_pos hok]) (tl_len l).1 (tl_len l).2)
  rw [hMe, hDe] at CT
  have hni : ((n : Int) == 0) = false := by rw [beq_eq_false_iff_ne]; omega
  have HLN := Lib.hid hl
  have CBM := Lib.hid (fun a c W (h : IsInts W a M) => by have := cBook a c M W h h16M (by omega) HM0.out; rw [hM] at this; exact this)
  have CPM := Lib.hid (fun (W : World) g B (h : IsWriter W g B []) a c (hi : IsInts W a M) => by have := cPutOk W g B [] h (by simp) a c M hi HM0.out (by omega) T.vM; rw [hM] at this; exact this)
  have hMb := tabB_few HM0.out (by omega) T.vM
  have hokD := (T.far hf).1
  have h16D := (check_16 hokD).1
  have CBD := Lib.hid (fun a c W (h : IsInts W a D) => by have := cBook a c D W h h16D (by omega) HD0.out; rw [hD] at this; exact this)
  have hDb := tabB_few HD0.out (by omega) T.vD
  have CPD := Lib.hid (fun (W : World) g B bits (h : IsWriter W g B bits) (hb : bits.length ≤ 900000) a c (hi : IsInts W a D) => by have := cPutOk W g B bits h hb a c D hi HD0.out (by omega) T.vD; rw [hD] at this; exact this)
  have h16 := h16M
  clear h hok hl hMe hDe hokM h16M hokD
  go_enter Tryz.func15, Tryz.ntmps15
  go_wp2_with fail
  refine CT.out.mono ?_; rintro e w1 ⟨u1, v1, rfl, hu1, hv1, hb1⟩
  obtain ⟨gm, cm, rfl, hgm1, hgm2, him⟩ := own_slI hu1 (by omega) (by omega)
  obtain ⟨gd, cd, rfl, hgd1, hgd2, hid⟩ := own_slI hv1 (by omega) (by omega)
  rw [hM, hD]
  have HIM1 := Lib.hid him
  have HID1 := Lib.hid hid
  have HB1 := Lib.hid hb1
  clear hu1 hv1 hb1 him hid CT
  go_wp2_with fail
  refine (CBM.out _ cm w1 HIM1.out).mono ?_; rintro e w2 ⟨v2, rfl, ho2, hb2⟩
  obtain ⟨gc, cc, rfl, hgc1, hgc2, hic⟩ := own_slI ho2 (by rw [turnedL_len]; omega) (by rw [turnedL_len]; omega)
  rw [turnedL_len, hM]
  have HIC2 := Lib.hid hic
  have HIM2 := Lib.hid (HIM1.out.kept hb2)
  have HID2 := Lib.hid (HID1.out.kept hb2)
  have HB2 := Lib.hid (HB1.out.trans (hb2.mono HB1.out.size))
  clear ho2 hb2 hic HIM1 HID1 HB1 CBM
  go_wp2_with fail
  refine (CBD.out _ cd w2 HID2.out).mono ?_; rintro e w3 ⟨v3, rfl, ho3, hb3⟩
  obtain ⟨ge, ce, rfl, hge1, hge2, hie⟩ := own_slI ho3 (by rw [turnedL_len]; omega) (by rw [turnedL_len]; omega)
  rw [turnedL_len, hD]
  have HIE3 := Lib.hid hie
  have HIC3 := Lib.hid (HIC2.out.kept hb3)
  have HIM3 := Lib.hid (HIM2.out.kept hb3)
  have HID3 := Lib.hid (HID2.out.kept hb3)
  have HB3 := Lib.hid (HB2.out.trans (hb3.mono HB2.out.size))
  clear hb3 ho3 hie HIC2 HIM2 HID2 HB2 CBD
  obtain ⟨gA, hgA⟩ : ∃ gA, w3.heap.size = gA := ⟨_, rfl⟩
  obtain ⟨w4, hw4⟩ : ∃ w4, (w3.alloc (.cells #[.slice (some ⟨gc, 0, none⟩) 401 cc, .slice (some ⟨gm, 0, none⟩) 401 cm] 66)).alloc (.cells #[.slice (some ⟨ge, 0, none⟩) 52 ce, .slice (some ⟨gd, 0, none⟩) 52 cd] 66) = w4 := ⟨_, rfl⟩
  have HXA := Lib.hid (show w4.heap[gA]? = some (.cells #[.slice (some ⟨gc, 0, none⟩) 401 cc, .slice (some ⟨gm, 0, none⟩) 401 cm] 66 (0, 0)) by rw [← hw4, ← hgA]; exact heap_two_first _ _ _)
  have HXB := Lib.hid (show w4.heap[gA + 1]? = some (.cells #[.slice (some ⟨ge, 0, none⟩) 52 ce, .slice (some ⟨gd, 0, none⟩) 52 cd] 66 (0, 0)) by rw [← hw4, ← hgA]; exact heap_two_last _ _ _)
  have hb4 : Below w3.heap.size w3 w4 := by rw [← hw4]; exact ((Below.refl _ _).alloc (Nat.le_refl _) _).alloc (by simp) _
  have hgc4 : gc < w4.heap.size := by have := hb4.size; have := ints_blk HIC3.out (by rw [turnedL_len, hM]; decide); simp only at this; omega
  have hgm4 : gm < w4.heap.size := by have := hb4.size; have := ints_blk HIM3.out (by rw [hM]; decide); simp only at this; omega
  have hge4 : ge < w4.heap.size := by have := hb4.size; have := ints_blk HIE3.out (by rw [turnedL_len, hD]; decide); simp only at this; omega
  have hgd4 : gd < w4.heap.size := by have := hb4.size; have := ints_blk HID3.out (by rw [hD]; decide); simp only at this; omega
  have HIC4 := Lib.hid (HIC3.out.kept hb4)
  have HIM4 := Lib.hid (HIM3.out.kept hb4)
  have HIE4 := Lib.hid (HIE3.out.kept hb4)
  have HID4 := Lib.hid (HID3.out.kept hb4)
  have HB4 := Lib.hid (HB3.out.trans (hb4.mono HB3.out.size))
  clear hb4 HIC3 HIM3 HIE3 HID3 HB3
  go_wp2_with fail
  clear hgA hw4
  refine (wNew w4).mono ?_; rintro e w5 ⟨rfl, hw5, hbw5, hz5, hf5⟩
  have HW5 := Lib.hid (show Wr w4.heap.size w4 w5 w4.heap.size w4.heap.size [] from ⟨hw5, hbw5, hf5⟩)
  have hsz5 := hbw5.size
  clear hw5 hbw5 hz5 hf5
  go_wp2_with fail
  refine (CPM.out w5 _ _ HW5.out.wr _ cm (HIM4.out.kept HW5.out.old)).mono ?_; rintro e w6 ⟨rfl, hp6⟩
  have HW6 := Lib.hid (HW5.out.pen hp6 hsz5)
  have hsz6 : w4.heap.size ≤ w6.heap.size := Nat.le_trans hsz5 hp6.2.1.size
  clear hp6 HW5 hsz5 CPM
  have hxb := wr_box HW6.out HXB.out
  have k0 := cell_lit hxb 0 _ rfl
  clear hxb
  have heq := fun a l c W => eql_nilI a l c W
  go_wp2_with fail
  clear k0
  refine (pPut w6 _ _ _ 1 1 HW6.out.wr (by decide) (by decide) (by rw [List.nil_append]; have : (writeB (packL M) (ofR (packL M))).length ≤ 14397 := hMb; omega)).mono ?_; rintro e w7 ⟨rfl, hp7⟩
  have HW7 := Lib.hid (HW6.out.pen hp7 hsz6)
  have hsz7 : w4.heap.size ≤ w7.heap.size := Nat.le_trans hsz6 hp7.2.1.size
  have HL7 := Lib.hid (show (([] : List Bool) ++ writeB (packL M) (ofR (packL M)) ++ bitsOf 1 1).length ≤ 900000 from by
    rw [List.nil_append, List.length_append, bitsOf_length]
    have : (writeB (packL M) (ofR (packL M))).length ≤ 14397 := hMb
    omega)
  clear hp7 HW6 hsz6 heq
  go_wp2_with fail
  refine (CPD.out w7 _ _ _ HW7.out.wr HL7.out _ cd (HID4.out.kept HW7.out.old)).mono ?_; rintro e w8 ⟨rfl, hp8⟩
  have HW8 := Lib.hid (HW7.out.pen hp8 hsz7)
  clear hp8 HW7 hsz7 CPD HL7
  obtain ⟨HB, hHB⟩ : ∃ HB, headsB (farB l) M D = HB := ⟨_, rfl⟩
  have hfb : farB l = true := (far_iff l).2 hf
  have hHl : HB.length ≤ 30000 := by
    rw [← hHB, hfb]; unfold headsB; rw [List.length_append]; simp; omega
  have HWH := Lib.hid (show Wr w4.heap.size w4 w8 w4.heap.size w4.heap.size HB from by
    have := HW8.out
    rw [← hHB, hfb]
    unfold headsB tabB
    rw [List.nil_append, List.append_assoc] at this
    exact this)
  have HHB := Lib.hid hHB
  clear HW8 hHB hfb
  go_wp2_with fail
  go_loopw [45] (fun i wr => ∃ k : Nat, k ≤ n ∧ i = .int .i64 k ∧ Hid (Wr w4.heap.size w4 wr w4.heap.size w4.heap.size (HB ++ (l.take k).flatMap (tokB M D)))) (fun i _ => n - (intOf i).toNat)
  case atStart => exact ⟨0, Nat.zero_le _, rfl, by rw [List.take_zero, List.flatMap_nil, List.append_nil]; exact HWH⟩
  case round =>
    clear HWH
    obtain ⟨k, hk, rfl, hw⟩ := hrel
    by_cases hlt : k < n
    · have hkl : k < l.length := by have := HLN.out; omega
      obtain ⟨x, rfl, hxl, hat⟩ := (HI.out.kept (HB4.out.trans (hw.out.old.mono HB4.out.size))).at k hkl
      have htm : l[k] ∈ l := List.getElem_mem hkl
      have hfew := toks_few HT.out HOK.out k (by omega)
      have hnx : (l.take (k + 1)).flatMap (tokB M D) = (l.take k).flatMap (tokB M D) ++ tokB M D l[k] := by
        rw [List.take_succ_eq_append_getElem hkl, List.flatMap_append]; simp
      have hcs := tok_cases (HOK.out _ htm)
      obtain ⟨t, ht⟩ : ∃ t, l[k] = t := ⟨_, rfl⟩
      rw [ht] at hat hnx hcs htm
      obtain ⟨q0, q1, q2, q3, q4⟩ := hat
      have HNX := Lib.hid hnx
      have HFEW := Lib.hid (show (HB ++ (l.take k).flatMap (tokB M D)).length ≤ 800000 by rw [List.length_append]; omega)
      have hki : (k : Int) < (n : Int) := by omega
      have hk0 : (0 : Int) ≤ (k : Int) := by omega
      have hszr : w4.heap.size ≤ wr.heap.size := hw.out.old.size
      clear hnx hfew ht
      rcases hcs with ⟨b, hb, rfl⟩ | ⟨ll, dd, hl2, hd2, rfl⟩ | ⟨ll, rr, hl2, hr2, rfl⟩
      · simp only at q0 q1 q2 q3 q4
        have hal : Below wr.heap.size wr (wr.alloc (.cells #[.int .i64 0, .int .i64 b, .int .i64 0, .int .i64 0, .int .i64 0] 35)) := (Below.refl _ _).alloc (Nat.le_refl _) _
        have HWA := Lib.hid (hw.out.below hal hszr)
        have hszA : w4.heap.size ≤ (wr.alloc (.cells #[.int .i64 0, .int .i64 b, .int .i64 0, .int .i64 0, .int .i64 0] 35)).heap.size := HWA.out.old.size
        have CTK := Lib.hid (cTokLit _ _ _ _ HWA.out.wr HFEW.out b hb (some ⟨gc, 0, none⟩) (some ⟨gm, 0, none⟩) cc cm M D HT.out.lm (wr_bk HWA.out HIC4.out HIM4.out hgc4 hgm4 h16) HT.out.bM (.slice (some ⟨ge, 0, none⟩) 52 ce) (.slice (some ⟨gd, 0, none⟩) 52 cd) rfl rfl)
        clear hal hw
        have hrow := wr_box HWA.out HXA.out
        have hrow2 := wr_box HWA.out HXB.out
        have ha0 := cell_lit hrow 0 _ rfl
        have ha1 := cell_lit hrow 1 _ rfl
        have hb0 := cell_lit hrow2 0 _ rfl
        have hb1 := cell_lit hrow2 1 _ rfl
        clear hrow hrow2
        go_wp2_with fail
        clear ha0 ha1 hb0 hb1
        refine CTK.out.mono ?_; rintro e w9 ⟨rfl, hp9⟩
        have HW9 := Lib.hid (show Wr w4.heap.size w4 w9 w4.heap.size w4.heap.size (HB ++ (l.take (k + 1)).flatMap (tokB M D)) from by
          have := HWA.out.pen hp9 hszA
          rw [HNX.out, ← List.append_assoc]; exact this)
        clear hp9 HWA CTK
        go_wp2_with fail
        go_roundw
        case rel => exact ⟨k + 1, by omega, by go_num, HW9⟩
        case measure => simp [intOf]; omega
      · skip
        simp only at q0 q1 q2 q3 q4
        have hal : Below wr.heap.size wr (wr.alloc (.cells #[.int .i64 1, .int .i64 0, .int .i64 (ll : Int), .int .i64 (dd : Int), .int .i64 0] 35)) := (Below.refl _ _).alloc (Nat.le_refl _) _
        have HWA := Lib.hid (hw.out.below hal hszr)
        have hszA : w4.heap.size ≤ (wr.alloc (.cells #[.int .i64 1, .int .i64 0, .int .i64 (ll : Int), .int .i64 (dd : Int), .int .i64 0] 35)).heap.size := HWA.out.old.size
        have CTK := Lib.hid (cTokCopy _ _ _ _ HWA.out.wr HFEW.out ll dd hl2 hd2 (some ⟨gc, 0, none⟩) (some ⟨gm, 0, none⟩) cc cm M D HT.out.lm (wr_bk HWA.out HIC4.out HIM4.out hgc4 hgm4 h16) HT.out.bM (some ⟨ge, 0, none⟩) (some ⟨gd, 0, none⟩) ce cd HT.out.ld (wr_bk HWA.out HIE4.out HID4.out hge4 hgd4 h16D) HT.out.bD)
        clear hal hw
        have hrow := wr_box HWA.out HXA.out
        have hrow2 := wr_box HWA.out HXB.out
        have ha0 := cell_lit hrow 0 _ rfl
        have ha1 := cell_lit hrow 1 _ rfl
        have hb0 := cell_lit hrow2 0 _ rfl
        have hb1 := cell_lit hrow2 1 _ rfl
        clear hrow hrow2
        go_wp2_with fail
        clear ha0 ha1 hb0 hb1
        refine CTK.out.mono ?_; rintro e w9 ⟨rfl, hp9⟩
        have HW9 := Lib.hid (show Wr w4.heap.size w4 w9 w4.heap.size w4.heap.size (HB ++ (l.take (k + 1)).flatMap (tokB M D)) from by
          have := HWA.out.pen hp9 hszA
          rw [HNX.out, ← List.append_assoc]; exact this)
        clear hp9 HWA CTK
        go_wp2_with fail
        go_roundw
        case rel => exact ⟨k + 1, by omega, by go_num, HW9⟩
        case measure => simp [intOf]; omega
      · simp only at q0 q1 q2 q3 q4
        have hal : Below wr.heap.size wr (wr.alloc (.cells #[.int .i64 2, .int .i64 0, .int .i64 (ll : Int), .int .i64 0, .int .i64 (rr : Int)] 35)) := (Below.refl _ _).alloc (Nat.le_refl _) _
        have HWA := Lib.hid (hw.out.below hal hszr)
        have hszA : w4.heap.size ≤ (wr.alloc (.cells #[.int .i64 2, .int .i64 0, .int .i64 (ll : Int), .int .i64 0, .int .i64 (rr : Int)] 35)).heap.size := HWA.out.old.size
        have CTK := Lib.hid (cTokRep _ _ _ _ HWA.out.wr HFEW.out ll rr hl2 hr2 (some ⟨gc, 0, none⟩) (some ⟨gm, 0, none⟩) cc cm M D HT.out.lm (wr_bk HWA.out HIC4.out HIM4.out hgc4 hgm4 h16) HT.out.bM (.slice (some ⟨ge, 0, none⟩) 52 ce) (.slice (some ⟨gd, 0, none⟩) 52 cd) rfl rfl)
        clear hal hw
        have hrow := wr_box HWA.out HXA.out
        have hrow2 := wr_box HWA.out HXB.out
        have ha0 := cell_lit hrow 0 _ rfl
        have ha1 := cell_lit hrow 1 _ rfl
        have hb0 := cell_lit hrow2 0 _ rfl
        have hb1 := cell_lit hrow2 1 _ rfl
        clear hrow hrow2
        go_wp2_with fail
        clear ha0 ha1 hb0 hb1
        refine CTK.out.mono ?_; rintro e w9 ⟨rfl, hp9⟩
        have HW9 := Lib.hid (show Wr w4.heap.size w4 w9 w4.heap.size w4.heap.size (HB ++ (l.take (k + 1)).flatMap (tokB M D)) from by
          have := HWA.out.pen hp9 hszA
          rw [HNX.out, ← List.append_assoc]; exact this)
        clear hp9 HWA CTK
        go_wp2_with fail
        go_roundw
        case rel => exact ⟨k + 1, by omega, by go_num, HW9⟩
        case measure => simp [intOf]; omega
    · obtain rfl : k = n := by omega
      have hki : ¬ (k : Int) < (k : Int) := by omega
      have hw' := hw.out
      rw [List.take_of_length_le (show l.length ≤ k by rw [HLN.out]; exact Nat.le_refl _)] at hw'
      have HWE := Lib.hid hw'
      clear hw hw'
      go_wp2_with fail
      go_ret2
      refine ⟨_, rfl, w4.heap.size, ?_⟩
      have hE := HHB.out
      unfold codedB
      rw [hE]
      exact ⟨HWE.out.wr, HB4.out.trans (HWE.out.old.mono HB4.out.size), fun k hk => Nat.le_trans HB4.out.size (HWE.out.feet k hk)⟩
end Go.Proofs.YtmhjmoeeahepaaaGreat

/- Layer 27: Put, Size. -/
namespace Go.Proofs.YtmhjmoeeahepaaaGreat
open Go.ChangeShapes Go.WideShapes Go.ChangeAt Go.RowKit
set_option linter.unusedVariables false
set_option linter.unusedSimpArgs false
set_option maxRecDepth 100000
open Bits hiding packF pack_length
open RunsMath KraftMath CanonMath TurnMath Pm
def tabM (l : List Tk) : List Int := tabL (tl l).1
def tabD (l : List Tk) : List Int := tabL (tl l).2
/-- A block of tokens, as bits, and to a whole byte. -/
def bitsK (l : List Tk) : List Bool := codedB l (tabM l) (tabD l)
def bytesK (l : List Tk) : List UInt8 := pack (bitsK l ++ bitsOf 0 (lack (bitsK l).length))
theorem cWrite (a : Option Addr) (c n : Nat) (l : List Tk) (w : World) (hl : l.length = n) (h : IsTk w a l) (h0 : n ≠ 0) (hn : n ≤ 300) (hok : ∀ t ∈ l, t.ok) :
    Calls Tryz.prog 15 #[.slice a n c] w fun e w' => ∃ g B, e = .returned (.tuple #[.pointer (some ⟨g, 0, none⟩), .int .i64 0]) ∧ Wr w.heap.size w w' g B (bitsK l) := by
  have T := tabs_of l (fun e => h0 (by rw [← hl, e]; rfl)) (by omega) hok
  by_cases hf : ∃ t ∈ l, t.k = 1
  · exact cWriteFar a c n l (tabM l) (tabD l) w hl h h0 hn hok rfl rfl T hf
  · exact cWriteNear a c n l (tabM l) (tabD l) w hl h h0 hn hok rfl rfl T hf
theorem bitsK_few (l : List Tk) (h0 : l ≠ []) (hn : l.length ≤ 300) (hok : ∀ t ∈ l, t.ok) : (bitsK l).length ≤ 60000 := by
  have T := tabs_of l h0 hn hok
  have hM0 : tabM l ≠ [] := fun e => by have := T.lm; unfold tabM at e; rw [e] at this; simp at this
  have hD0 : tabD l ≠ [] := fun e => by have := T.ld; unfold tabD at e; rw [e] at this; simp at this
  have h1 := tabB_few hM0 (by have := T.lm; unfold tabM; omega) T.vM
  have h2 := tabB_few hD0 (by have := T.ld; unfold tabD; omega) T.vD
  have h3 := toks_few T hok l.length (Nat.le_refl _)
  rw [List.take_length] at h3
  have h4 : (headsB (farB l) (tabM l) (tabD l)).length ≤ 28795 := by
    unfold headsB
    rw [List.length_append]
    cases farB l
    · simp; omega
    · simp; omega
  unfold bitsK codedB
  rw [List.length_append]
  have : (l.flatMap (tokB (tabM l) (tabD l))).length ≤ 90 * l.length := h3
  omega
theorem cPutNone (a : Option Addr) (c : Nat) (w : World) : Calls Tryz.prog 6 #[.slice a 0 c] w fun e w' => e = .returned (.tuple #[.string ⟨#[]⟩, .int .i64 1]) ∧ Below w.heap.size w w' := by
  have C := Lib.hid (cWriteNil w a c)
  go_enter Tryz.func6, Tryz.ntmps6
  go_wp2_with fail
  refine C.out.mono ?_; rintro e w1 ⟨rfl, rfl⟩
  go_wp2_with fail
  go_ret2
  exact ⟨rfl, Below.refl _ _⟩
theorem cPutNot (a : Option Addr) (c n : Nat) (l : List Tk) (w : World) (hl : l.length = n) (h : IsTk w a l) (h0 : n ≠ 0) (hn : n ≤ 300) (hb : ¬ ∀ t ∈ l, t.ok) : Calls Tryz.prog 6 #[.slice a n c] w fun e w' => e = .returned (.tuple #[.string ⟨#[]⟩, .int .i64 10]) ∧ Below w.heap.size w w' := by
  have C := Lib.hid (cWriteBad a c n l w hl h h0 hn hb)
  clear h hb hl
  go_enter Tryz.func6, Tryz.ntmps6
  go_wp2_with fail
  refine C.out.mono ?_; rintro e w1 ⟨rfl, hb1⟩
  have HB := Lib.hid hb1
  clear hb1
  go_wp2_with fail
  go_ret2
  exact ⟨rfl, HB.out⟩
theorem cPutK (a : Option Addr) (c n : Nat) (l : List Tk) (w : World) (hl : l.length = n) (h : IsTk w a l) (h0 : n ≠ 0) (hn : n ≤ 300) (hok : ∀ t ∈ l, t.ok) : Calls Tryz.prog 6 #[.slice a n c] w fun e w' => e = .returned (.tuple #[.string ⟨(bytesK l).toArray⟩, .int .i64 0]) ∧ Below w.heap.size w w' := by
  have C := Lib.hid (cWrite a c n l w hl h h0 hn hok)
  have hfw := bitsK_few l (fun e => h0 (by rw [← hl, e]; rfl)) (by omega) hok
  unfold bytesK
  obtain ⟨L, hL⟩ : ∃ L, bitsK l = L := ⟨_, rfl⟩
  rw [hL] at C hfw ⊢
  clear h hok hl hL
  go_enter Tryz.func6, Tryz.ntmps6
  go_wp2_with fail
  refine C.out.mono ?_; rintro e w1 ⟨g, B, rfl, hw⟩
  have HW1 := Lib.hid hw
  have hsz := hw.old.size
  clear hw C
  go_wp2_with fail
  refine (wAlign w1 g B L HW1.out.wr (by omega)).mono ?_; rintro e w2 ⟨rfl, h2, h3, h4⟩
  have HW2 := Lib.hid (HW1.out.pen ⟨h2, h3, h4⟩ hsz)
  have hsz2 := HW2.out.old.size
  clear h2 h3 h4 HW1 hsz
  go_wp2_with fail
  refine (wBytes w2 g B _ HW2.out.wr).mono ?_; rintro e w3 ⟨rfl, hb3⟩
  have HB3 := Lib.hid (HW2.out.old.trans (hb3.mono hsz2))
  clear hb3 HW2 hsz2
  go_wp2_with fail
  go_ret2
  exact ⟨rfl, HB3.out⟩
theorem cSizeNone (a : Option Addr) (c : Nat) (w : World) : Calls Tryz.prog 8 #[.slice a 0 c] w fun e w' => e = .returned (.int .i64 0) ∧ Below w.heap.size w w' := by
  have C := Lib.hid (cWriteNil w a c)
  go_enter Tryz.func8, Tryz.ntmps8
  go_wp2_with fail
  refine C.out.mono ?_; rintro e w1 ⟨rfl, rfl⟩
  go_wp2_with fail
  go_ret
  exact ⟨rfl, Below.refl _ _⟩
theorem cSizeNot (a : Option Addr) (c n : Nat) (l : List Tk) (w : World) (hl : l.length = n) (h : IsTk w a l) (h0 : n ≠ 0) (hn : n ≤ 300) (hb : ¬ ∀ t ∈ l, t.ok) : Calls Tryz.prog 8 #[.slice a n c] w fun e w' => e = .returned (.int .i64 0) ∧ Below w.heap.size w w' := by
  have C := Lib.hid (cWriteBad a c n l w hl h h0 hn hb)
  clear h hb hl
  go_enter Tryz.func8, Tryz.ntmps8
  go_wp2_with fail
  refine C.out.mono ?_; rintro e w1 ⟨rfl, hb1⟩
  have HB := Lib.hid hb1
  clear hb1
  go_wp2_with fail
  go_ret
  exact ⟨rfl, HB.out⟩
theorem cSizeK (a : Option Addr) (c n : Nat) (l : List Tk) (w : World) (hl : l.length = n) (h : IsTk w a l) (h0 : n ≠ 0) (hn : n ≤ 300) (hok : ∀ t ∈ l, t.ok) : Calls Tryz.prog 8 #[.slice a n c] w fun e w' => e = .returned (.int .i64 ((bitsK l).length : Nat)) ∧ Below w.heap.size w w' := by
  have C := Lib.hid (cWrite a c n l w hl h h0 hn hok)
  obtain ⟨L, hL⟩ : ∃ L, bitsK l = L := ⟨_, rfl⟩
  rw [hL] at C ⊢
  clear h hok hl hL
  go_enter Tryz.func8, Tryz.ntmps8
  go_wp2_with fail
  refine C.out.mono ?_; rintro e w1 ⟨g, B, rfl, hw⟩
  have HW1 := Lib.hid hw
  clear hw C
  go_wp2_with fail
  refine (wLen w1 g B L HW1.out.wr).mono ?_; rintro e w2 ⟨rfl, k, h2⟩
  have HB2 := Lib.hid (show Below w.heap.size w w2 by rw [h2]; exact below_dn HW1.out.old k)
  clear h2 HW1
  go_wp2_with fail
  go_ret
  exact ⟨rfl, HB2.out⟩
end Go.Proofs.YtmhjmoeeahepaaaGreat
