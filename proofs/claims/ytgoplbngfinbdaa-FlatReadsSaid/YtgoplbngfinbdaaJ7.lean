/- Layer 10: the chapter's example. -/
import Derived.Test.YtgoplbngfinbdaaJ6
namespace Go.Proofs.Ytgoplbngfinbdaa
open Go.ChangeShapes Go.WideShapes Go.ChangeAt Go.RowKit
set_option linter.unusedVariables false
set_option linter.unusedSimpArgs false
set_option maxRecDepth 100000
open KraftMath CanonMath TurnMath Bits
theorem IsTab.keeps {w w' : World} {B gt ge L N g : Nat} {tab : List (Int × Int)} (h : IsTab w B gt ge L N tab) (hk : Keeps (fun j => j = g) w w') (h1 : gt ≠ g) (h2 : ge ≠ g) : IsTab w' B gt ge L N tab :=
  ⟨hk.heap h.tb h1, hk.ownsRow h.row (fun j hj e => h2 (by have : ge = j := by simpa [Value.ownBlock] using hj
                                                           have e' : j = g := e
                                                           omega))⟩
theorem IsTab.low {w w' : World} {B gt ge L N M : Nat} {tab : List (Int × Int)} (h : IsTab w B gt ge L N tab) (hb : Below M w w') (h1 : gt < M) (h2 : ge < M) : IsTab w' B gt ge L N tab := by
  refine ⟨(hb.block _ h1).trans h.tb, h.row.1, ?_⟩
  rcases h.row.2 with hn | ⟨g, cap, cur, e1, hbb, hgg, rest⟩
  · exact .inl hn
  · have : ge = g := by injection e1 with e1 _ _; injection e1 with e1; injection e1
    subst this
    exact .inr ⟨ge, cap, cur, e1, hbb, (hb.block ge h2).trans hgg, rest⟩
theorem litJ (w : World) (is : List Int) (t2 : Nat) (hl : is.length ≤ 70368744177664) : IsInts (w.alloc (.cells (is.map (Value.int .i64 ·)).toArray t2)) (some ⟨w.heap.size, 0, none⟩) is := IsInts.new w is t2 (0, 0) hl
theorem sj1 {w a b : World} {o : Obj} (h : Below w.heap.size w a) (h2 : Below (a.alloc o).heap.size (a.alloc o) b) : Below w.heap.size w b :=
  (h.alloc h.size o).trans (h2.mono (by have := h.size; simp; omega))
theorem len_lit (l : List Int) (L : Nat) (h : (List.range l.length).all (fun s => decide (len l s ≤ L)) = true) : ∀ s, s < l.length → len l s ≤ L := by
  intro s hs
  have := List.all_eq_true.1 h s (List.mem_range.2 hs)
  simpa using this
theorem nx1 : nextL [2, 1, 2] 3 ((spread [1]).drop 0) = (0, 2, 0) := by decide +kernel
theorem nx2 : nextL [2, 1, 2] 3 ((spread [1]).drop 2) = (1, 1, 0) := by decide +kernel
theorem nx3 : nextL [1] 2 ((spread [1]).drop 0) = (0, 0, 4) := by decide +kernel
theorem nx4 : nextL [2, 1, 2] 3 ((spread []).drop 0) = (0, 0, 3) := by decide +kernel
theorem fNextV (w : World) (B gt ge g L : Nat) (l : List Int) (s : List UInt8) (t t' : Nat) (hL1 : 1 ≤ L) (hL : L ≤ 15) (hlen : ∀ s, s < l.length → len l s ≤ L) (hll : l.length ≤ 1024) (N : Nat) (hN : 2 ^ L = N) (tab : List (Int × Int)) (htab : tabK l L l.length = tab) (ht : IsTab w B gt ge L N tab) (hr : IsReader w g s t) (hgt : gt ≠ g) (hge : ge ≠ g) (X Y E : Int) (hX : nextL l L ((spread s).drop t) = (X, Y, E)) (ht' : t + Y.toNat = t') :
    Calls Try.prog 21 #[.pointer (some ⟨gt, 0, none⟩), .pointer (some ⟨g, 0, none⟩)] w fun e w' => e = .returned (.tuple #[.int .i64 X, .int .i64 E]) ∧ IsReader w' g s t' ∧ IsTab w' B gt ge L N tab ∧ (∀ n, n ≤ w.heap.size → n ≤ g → Below n w w') := by
  subst hN
  subst htab
  refine (fNext w B gt ge g L l s t hL1 hL hlen hll ht hr hgt hge X Y E hX).mono ?_
  rintro e w' ⟨h1, h2, h3⟩
  exact ⟨h1, by rw [← ht']; exact h2, ht.keeps h3 hgt hge, fun n hn hg => h3.below (fun q hq => ⟨by omega, by show q ≠ g; omega⟩)⟩
theorem fNewV (a : Option Addr) (c : Nat) (l : List Int) (L : Nat) (hL1 : 1 ≤ L) (hL : L ≤ 15) (hE : check l L = 0) (n : Nat) (hn : n = l.length) (Li : Int) (hLi : Li = L) (N : Nat) (hN : 2 ^ L = N) (tab : List (Int × Int)) (htab : tabK l L l.length = tab) (w : World) (h : IsInts w a l) : Calls Try.prog 15 #[.slice a n c, .int .i64 Li] w fun e w' => ∃ gt ge, e = .returned (.tuple #[.pointer (some ⟨gt, 0, none⟩), .int .i64 0]) ∧ IsTab w' w.heap.size gt ge L N tab ∧ w.heap.size ≤ gt ∧ Below w.heap.size w w' := by
  subst hn hLi hN htab
  exact fNew a c l L hL1 hL hE w h
theorem fBadV (a : Option Addr) (c : Nat) (l : List Int) (L : Nat) (hL1 : 1 ≤ L) (hL : L ≤ 15) (E : Int) (hE : check l L = E) (h0 : E ≠ 0) (n : Nat) (hn : n = l.length) (Li : Int) (hLi : Li = L) (w : World) (h : IsInts w a l) : Calls Try.prog 15 #[.slice a n c, .int .i64 Li] w fun e w' => e = .returned (.tuple #[.pointer none, .int .i64 E]) ∧ Below w.heap.size w w' := by
  subst hn hLi hE
  exact fNewBad a c l L hL1 hL h0 w h
theorem le3 : ∀ s, s < [(2 : Int), 1, 2].length → len [2, 1, 2] s ≤ 3 := len_lit _ _ (by decide)
theorem le1 : ∀ s, s < [(1 : Int)].length → len [1] s ≤ 2 := len_lit _ _ (by decide)
set_option maxHeartbeats 1600000 in
theorem awake10 (w : World) : Calls Try.prog 14 #[] w fun e w' => e = .returned (.bool true) ∧ Below w.heap.size w w' := by
  obtain ⟨TB, hTB⟩ : ∃ TB, tabK [2, 1, 2] 3 [(2 : Int), 1, 2].length = TB := ⟨_, rfl⟩
  obtain ⟨TU, hTU⟩ : ∃ TU, tabK [1] 2 [(1 : Int)].length = TU := ⟨_, rfl⟩
  have CNew := Lib.hid (fun W h => fNewV (some ⟨w.heap.size, 0, none⟩) 3 [2, 1, 2] 3 (by decide) (by decide) (by decide +kernel) 3 rfl 3 rfl 8 rfl TB hTB W h)
  have CBad := Lib.hid (fun a W h => fBadV a 2 [2, 2] 3 (by decide) (by decide) 6 (by decide +kernel) (by decide) 2 rfl 3 rfl W h)
  have CNew1 := Lib.hid (fun a W h => fNewV a 1 [1] 2 (by decide) (by decide) (by decide +kernel) 1 rfl 2 rfl 4 rfl TU hTU W h)
  have CX1 := Lib.hid (fun W B gt ge g ht hr h1 h2 => fNextV W B gt ge g 3 [2, 1, 2] [1] 0 2 (by decide) (by decide) le3 (by decide) 8 rfl TB hTB ht hr h1 h2 0 2 0 nx1 rfl)
  have CX2 := Lib.hid (fun W B gt ge g ht hr h1 h2 => fNextV W B gt ge g 3 [2, 1, 2] [1] 2 3 (by decide) (by decide) le3 (by decide) 8 rfl TB hTB ht hr h1 h2 1 1 0 nx2 rfl)
  have CX3 := Lib.hid (fun W B gt ge g ht hr h1 h2 => fNextV W B gt ge g 2 [1] [1] 0 0 (by decide) (by decide) le1 (by decide) 4 rfl TU hTU ht hr h1 h2 0 0 4 nx3 rfl)
  have CX4 := Lib.hid (fun W B gt ge g ht hr h1 h2 => fNextV W B gt ge g 3 [2, 1, 2] [] 0 0 (by decide) (by decide) le3 (by decide) 8 rfl TB hTB ht hr h1 h2 0 0 3 nx4 rfl)
  clear hTB hTU
  go_enter Try.func14, Try.ntmps14
  go_wp2_with fail
  refine (CNew.out _ (litJ w [2, 1, 2] 3 (by decide))).mono ?_; rintro e w1 ⟨gt, ge, rfl, ht, hgt, hb1⟩
  have hb := sj1 (Below.refl w.heap.size w) hb1
  have T := Lib.hid ht
  clear ht hb1 CNew
  go_wp2_with fail
  refine (fNewArg _ 16 (by decide) _).mono ?_; rintro e w2 ⟨rfl, rfl⟩
  have hb := hb.alloc hb.size (.cells #[.int .i64 2, .int .i64 1, .int .i64 2] 3)
  have T := Lib.hid (T.out.kept ((Below.refl _ w1).alloc (Nat.le_refl _) (.cells #[.int .i64 2, .int .i64 1, .int .i64 2] 3)))
  obtain ⟨w2, hw2⟩ : ∃ w2, w1.alloc (.cells #[.int .i64 2, .int .i64 1, .int .i64 2] 3) = w2 := ⟨_, rfl⟩
  rw [hw2] at hb T ⊢
  clear hw2
  go_wp2_with fail
  refine (CBad.out _ _ (litJ w2 [2, 2] 3 (by decide))).mono ?_; rintro e w3 ⟨rfl, hb1⟩
  have T := Lib.hid ((T.out.kept ((Below.refl _ w2).alloc (Nat.le_refl _) (.cells #[.int .i64 2, .int .i64 2] 3))).kept hb1)
  have hb := sj1 hb hb1
  clear hb1 CBad
  have hw3 := hb.size
  have l1 := block_lt T.out.tb
  have l2 := (World.ownsRow.lt T.out.row ge rfl).2
  go_wp2_with fail
  refine (rNew ⟨#[1]⟩ (by decide) _).mono ?_; rintro e w4 ⟨rfl, hr, hb1, -⟩
  have T := Lib.hid (T.out.kept hb1)
  have hb := hb.trans (hb1.mono hw3)
  have R := Lib.hid (show IsReader w4 (w3.heap.size + 1) [1] 0 from hr)
  clear hb1 hr
  obtain ⟨g, hg⟩ : ∃ g, w3.heap.size + 1 = g := ⟨_, rfl⟩
  have n1 : gt ≠ g := by omega
  have n2 : ge ≠ g := by omega
  have hgw : w.heap.size ≤ g := by omega
  rw [hg] at R ⊢
  clear l1 l2 hg hw3
  go_wp2_with fail
  refine (CX1.out w4 _ gt ge g T.out R.out n1 n2).mono ?_; rintro e w5 ⟨rfl, hr, ht, hk⟩
  have T := Lib.hid ht
  have R := Lib.hid hr
  have hb := hb.trans (hk _ hb.size hgw)
  clear hr hk ht CX1
  go_wp2_with fail
  refine (CX2.out w5 _ gt ge g T.out R.out n1 n2).mono ?_; rintro e w6 ⟨rfl, hr, ht, hk⟩
  have T := Lib.hid ht
  have R := Lib.hid hr
  have hb := hb.trans (hk _ hb.size hgw)
  clear hr hk ht CX2
  go_wp2_with fail
  refine (rAt w6 g 3 [1] R.out).mono ?_; rintro e w6b ⟨rfl, rfl⟩
  clear R n1 n2 hgw
  go_wp2_with fail
  refine (CNew1.out _ _ (litJ w6b [1] 3 (by decide))).mono ?_; rintro e w7 ⟨ut, ue, rfl, hu, hut, hb1⟩
  have T := Lib.hid ((T.out.kept ((Below.refl _ w6b).alloc (Nat.le_refl _) (.cells #[.int .i64 1] 3))).kept hb1)
  have hb := sj1 hb hb1
  have U := Lib.hid hu
  clear hu hb1 CNew1 hut
  have hw7 := hb.size
  have l1 := block_lt T.out.tb
  have l2 := (World.ownsRow.lt T.out.row ge rfl).2
  have l3 := block_lt U.out.tb
  have l4 := (World.ownsRow.lt U.out.row ue rfl).2
  go_wp2_with fail
  refine (rNew ⟨#[1]⟩ (by decide) _).mono ?_; rintro e w8 ⟨rfl, hr, hb1, hz8⟩
  have T := Lib.hid (T.out.kept hb1)
  have U := Lib.hid (U.out.kept hb1)
  have hb := hb.trans (hb1.mono hw7)
  have R := Lib.hid (show IsReader w8 (w7.heap.size + 1) [1] 0 from hr)
  clear hb1 hr
  obtain ⟨S7, hS7⟩ : ∃ S7, w7.heap.size = S7 := ⟨_, rfl⟩
  rw [hS7] at l1 l2 l3 l4 hz8 R hw7 ⊢
  clear hS7
  go_wp2_with fail
  refine (CX3.out w8 _ ut ue (S7 + 1) U.out R.out (by omega) (by omega)).mono ?_; rintro e w9 ⟨rfl, hr, ht, hk⟩
  have T := Lib.hid (T.out.low (hk S7 (by omega) (by omega)) l1 l2)
  have hb := hb.trans (hk _ hb.size (by omega))
  have hz9 := (hk S7 (by omega) (by omega)).size
  clear hr hk ht CX3 U R
  go_wp2_with fail
  refine (rNew ⟨#[]⟩ (by decide) _).mono ?_; rintro e w10 ⟨rfl, hr, hb1, hz10⟩
  have T := Lib.hid (T.out.kept hb1)
  have hw9 := hb.size
  have hb := hb.trans (hb1.mono hw9)
  have R := Lib.hid (show IsReader w10 (w9.heap.size + 1) [] 0 from hr)
  clear hb1 hr
  have n1 : gt ≠ w9.heap.size + 1 := by omega
  have n2 : ge ≠ w9.heap.size + 1 := by omega
  obtain ⟨g3, hg3⟩ : ∃ g3, w9.heap.size + 1 = g3 := ⟨_, rfl⟩
  have hgw3 : w.heap.size ≤ g3 := by omega
  rw [hg3] at n1 n2 R ⊢
  clear hg3
  go_wp2_with fail
  refine (CX4.out w10 _ gt ge g3 T.out R.out n1 n2).mono ?_; rintro e w11 ⟨rfl, hr, ht, hk⟩
  have T := Lib.hid ht
  have hb := hb.trans (hk _ hb.size hgw3)
  clear hr hk ht CX4 R
  go_wp2_with fail
  refine (fSize w11 _ gt ge 3 8 TB T.out).mono ?_; rintro e w12 ⟨rfl, rfl⟩
  go_wp2_with fail
  go_ret
  exact ⟨rfl, hb⟩
end Go.Proofs.Ytgoplbngfinbdaa
