/- Layer 11: the chapter's example. -/
import Derived.Test.YtbdhfmoididkgaaAL13
namespace Go.Proofs.Ytbdhfmoididkgaa
open Go.ChangeShapes Go.WideShapes Go.ChangeAt Go.RowKit Go.Lib
set_option linter.unusedVariables false
set_option linter.unusedSimpArgs false
set_option maxRecDepth 100000
open Two KraftMath CanonMath TurnMath Bits
/-- A table, with what it means. -/
structure IsTw (w : World) (B gt gs R root L : Nat) (l : List Int) (Z : Nat) : Prop where
  ex : ∃ ao N C short long hs, IsT2 w B gt gs R root L (.slice ao N C) short long ∧ Two l L root l.length short long hs
theorem IsTw.kept {w w' : World} {B gt gs R root L Z : Nat} {l : List Int} (h : IsTw w B gt gs R root L l Z) (hb : Below w.heap.size w w') : IsTw w' B gt gs R root L l Z := by
  obtain ⟨ao, N, C, short, long, hs, h1, h2⟩ := h.ex
  exact ⟨ao, N, C, short, long, hs, h1.kept hb, h2⟩
theorem IsTw.keeps {w w' : World} {B gt gs R root L Z g t : Nat} {l : List Int} {s : List UInt8} (h : IsTw w B gt gs R root L l Z) (hr : IsReader w g s t) (hk : Keeps (fun j => j = g) w w') : IsTw w' B gt gs R root L l Z := by
  obtain ⟨ao, N, C, short, long, hs, h1, h2⟩ := h.ex
  exact ⟨ao, N, C, short, long, hs, h1.keeps hr hk, h2⟩
theorem litT (w : World) (is : List Int) (t2 : Nat) (hl : is.length ≤ 70368744177664) : IsInts (w.alloc (.cells (is.map (Value.int .i64 ·)).toArray t2)) (some ⟨w.heap.size, 0, none⟩) is := IsInts.new w is t2 (0, 0) hl
theorem sjT {w a b : World} {o : Obj} (h : Below w.heap.size w a) (h2 : Below (a.alloc o).heap.size (a.alloc o) b) : Below w.heap.size w b :=
  (h.alloc h.size o).trans (h2.mono (by have := h.size; simp; omega))
theorem len_litT (l : List Int) (L : Nat) (h : (List.range l.length).all (fun s => decide (len l s ≤ L)) = true) : ∀ s, s < l.length → len l s ≤ L := by
  intro s hs
  have := List.all_eq_true.1 h s (List.mem_range.2 hs)
  simpa using this
theorem tNewV (a : Option Addr) (c : Nat) (l : List Int) (root L : Nat) (hr : 1 ≤ root) (hrL : root ≤ L) (hL : L ≤ 15) (hE : check l L = 0) (n : Nat) (hn : n = l.length) (Li Ri : Int) (hLi : Li = L) (hRi : Ri = root) (R : Nat) (hR : 2 ^ root = R) (w : World) (h : IsInts w a l) : Calls Try.prog 6 #[.slice a n c, .int .i64 Ri, .int .i64 Li] w fun e w' => ∃ gt gs, e = .returned (.tuple #[.pointer (some ⟨gt, 0, none⟩), .int .i64 0]) ∧ IsTw w' w.heap.size gt gs R root L l 0 ∧ w.heap.size ≤ gt ∧ Below w.heap.size w w' := by
  subst hn hLi hRi hR
  refine (tNew a c l root L hr hrL hL hE w h).mono ?_
  rintro e w' ⟨gt, gs, ao, N, C, short, long, hs, rfl, h1, h2, h3, h4, h5⟩
  exact ⟨gt, gs, rfl, ⟨ao, N, C, short, long, hs, h1, h2⟩, h3, h5⟩
theorem tNextV (w : World) (B gt gs g root L : Nat) (l : List Int) (s : List UInt8) (t t' : Nat) (bits : List Bool) (hbits : spread s = bits) (hr1 : 1 ≤ root) (hrL : root ≤ L) (hL : L ≤ 15) (hlen : ∀ s, s < l.length → len l s ≤ L) (hll : l.length ≤ 1024) (R : Nat) (hR : 2 ^ root = R) (ht : IsTw w B gt gs R root L l 0) (hr : IsReader w g s t) (X Y E : Int) (hX : nextL l L (bits.drop t) = (X, Y, E)) (ht' : t + Y.toNat = t') :
    Calls Try.prog 13 #[.pointer (some ⟨gt, 0, none⟩), .pointer (some ⟨g, 0, none⟩)] w fun e w' => e = .returned (.tuple #[.int .i64 X, .int .i64 E]) ∧ IsReader w' g s t' ∧ IsTw w' B gt gs R root L l 0 ∧ Keeps (fun j => j = g) w w' := by
  subst hbits
  obtain ⟨ao, N, C, short, long, hs, h1, h2⟩ := ht.ex
  refine (tNext w B gt gs g R root L N C ao l short long hs s t hr1 hrL hL hlen hll hR h1 h2 hr X Y E hX).mono ?_
  rintro e w' ⟨h3, h4, h5⟩
  exact ⟨h3, by rw [← ht']; exact h4, ⟨ao, N, C, short, long, hs, h1.keeps hr h5, h2⟩, h5⟩
theorem tSizeV (w : World) (B gt gs root L : Nat) (l : List Int) (R D SZ : Nat) (hrL : root + D = L) (hL : L ≤ 15) (hR : 2 ^ root = R) (hSZ : 2 ^ D = SZ) (hE : check l 16 = 0) (ht : IsTw w B gt gs R root L l 0) (V : Int) (hV : (R : Int) + ((metH l root (ord l).length).length * SZ : Nat) = V) : Calls Try.prog 10 #[.pointer (some ⟨gt, 0, none⟩)] w fun e w' => e = .returned (.int .i64 V) ∧ ∃ k, w' = w.drewN k := by
  obtain ⟨ao, N, C, short, long, hs, h1, h2⟩ := ht.ex
  have hmany : hs.length ≤ 2 ^ root := nodup_le _ _ h2.nd h2.lt
  have hP : 2 ^ root * 2 ^ (L - root) = 2 ^ L := by rw [← Nat.pow_add]; congr 1; omega
  have hP2 : 2 ^ L ≤ 2 ^ 15 := Nat.pow_le_pow_right (by decide) hL
  have hmm : hs.length * 2 ^ (L - root) ≤ 2 ^ root * 2 ^ (L - root) := Nat.mul_le_mul_right _ hmany
  have hR2 : R ≤ 2 ^ 15 := by rw [← hR]; exact Nat.pow_le_pow_right (by decide) (by omega)
  have hD : L - root = D := by omega
  obtain ⟨o1, o2, o3⟩ := own_slice4 h1.rl
  have hll := h2.ll
  have hsh := seen_heads h2 hE
  rw [hsh] at hV
  rw [hD, hSZ] at hll
  rw [hD, hSZ] at hmm hP
  refine (tSize w B gt gs R root L N C ao short long h1 (by omega) (by omega)).mono ?_
  rintro e w' ⟨rfl, h3⟩
  refine ⟨?_, h3⟩
  rw [← hV, o1, hll]
theorem nt1 : nextL [1, 2, 3, 3] 3 ((spread [55]).drop 0) = (3, 3, 0) := by decide +kernel
theorem nt2 : nextL [1, 2, 3, 3] 3 ((spread [55]).drop 3) = (0, 1, 0) := by decide +kernel
theorem nt3 : (metH [1, 2, 3, 3] 1 (ord [1, 2, 3, 3]).length).length = 1 := by decide +kernel
theorem le33 : ∀ s, s < [(1 : Int), 2, 3, 3].length → len [1, 2, 3, 3] s ≤ 3 := len_litT _ _ (by decide)
set_option maxHeartbeats 1600000 in
theorem awake11 (w : World) : Calls Try.prog 5 #[] w fun e w' => e = .returned (.bool true) ∧ Below w.heap.size w w' := by
  have CNew := Lib.hid (fun W h => tNewV (some ⟨w.heap.size, 0, none⟩) 4 [1, 2, 3, 3] 1 3 (by decide) (by decide) (by decide) (by decide +kernel) 4 rfl 3 1 rfl rfl 2 rfl W h)
  have CX1 := Lib.hid (fun W B gt gs g ht hr => tNextV W B gt gs g 1 3 [1, 2, 3, 3] [55] 0 3 _ rfl (by decide) (by decide) (by decide) le33 (by decide) 2 rfl ht hr 3 3 0 nt1 rfl)
  have CX2 := Lib.hid (fun W B gt gs g ht hr => tNextV W B gt gs g 1 3 [1, 2, 3, 3] [55] 3 4 _ rfl (by decide) (by decide) (by decide) le33 (by decide) 2 rfl ht hr 0 1 0 nt2 rfl)
  have CS := Lib.hid (fun W B gt gs ht => tSizeV W B gt gs 1 3 [1, 2, 3, 3] 2 2 4 rfl (by decide) rfl rfl (by decide +kernel) ht 6 (by rw [nt3]; rfl))
  go_enter Try.func5, Try.ntmps5
  go_wp2_with fail
  refine (CNew.out _ (litT w [1, 2, 3, 3] 3 (by decide))).mono ?_; rintro e w1 ⟨gt, gs, rfl, ht, hgt, hb1⟩
  have hb := sjT (Below.refl w.heap.size w) hb1
  have T := Lib.hid ht
  clear ht hb1 CNew
  go_wp2_with fail
  refine (tNewArg _ 0 3 (by decide) _).mono ?_; rintro e w2 ⟨rfl, rfl⟩
  have hb := hb.alloc hb.size (.cells #[.int .i64 1, .int .i64 2, .int .i64 3, .int .i64 3] 3)
  have T := Lib.hid (T.out.kept ((Below.refl _ w1).alloc (Nat.le_refl _) (.cells #[.int .i64 1, .int .i64 2, .int .i64 3, .int .i64 3] 3)))
  obtain ⟨w2, hw2⟩ : ∃ w2, w1.alloc (.cells #[.int .i64 1, .int .i64 2, .int .i64 3, .int .i64 3] 3) = w2 := ⟨_, rfl⟩
  rw [hw2] at hb T ⊢
  clear hw2
  go_wp2_with fail
  refine (tNewArg _ 4 3 (by decide) _).mono ?_; rintro e w3 ⟨rfl, rfl⟩
  have hb := hb.alloc hb.size (.cells #[.int .i64 1, .int .i64 2, .int .i64 3, .int .i64 3] 3)
  have T := Lib.hid (T.out.kept ((Below.refl _ w2).alloc (Nat.le_refl _) (.cells #[.int .i64 1, .int .i64 2, .int .i64 3, .int .i64 3] 3)))
  obtain ⟨w3, hw3⟩ : ∃ w3, w2.alloc (.cells #[.int .i64 1, .int .i64 2, .int .i64 3, .int .i64 3] 3) = w3 := ⟨_, rfl⟩
  rw [hw3] at hb T ⊢
  clear hw3
  have hw3 := hb.size
  go_wp2_with fail
  refine (rNew ⟨#[55]⟩ (by decide) _).mono ?_; rintro e w4 ⟨rfl, hr, hb1, -⟩
  have T := Lib.hid (T.out.kept hb1)
  have hb := hb.trans (hb1.mono hw3)
  have R := Lib.hid (show IsReader w4 (w3.heap.size + 1) [55] 0 from hr)
  clear hb1 hr
  obtain ⟨g, hg⟩ : ∃ g, w3.heap.size + 1 = g := ⟨_, rfl⟩
  have hgw : w.heap.size ≤ g := by omega
  rw [hg] at R ⊢
  clear hg hw3
  have hk2 : ∀ {a b : World}, Keeps (fun j => j = g) a b → w.heap.size ≤ a.heap.size → Below w.heap.size a b := fun hk hs => hk.below (fun q hq => ⟨by omega, by show q ≠ g; omega⟩)
  have HK2 := Lib.hid (fun a b h1 h2 => hk2 (a := a) (b := b) h1 h2)
  clear hk2
  go_wp2_with fail
  refine (CX1.out w4 _ gt gs g T.out R.out).mono ?_; rintro e w5 ⟨rfl, hr, ht, hk⟩
  have T := Lib.hid ht
  have R := Lib.hid hr
  have hb := hb.trans (HK2.out _ _ hk hb.size)
  clear hr hk ht CX1
  go_wp2_with fail
  refine (CX2.out w5 _ gt gs g T.out R.out).mono ?_; rintro e w6 ⟨rfl, hr, ht, hk⟩
  have T := Lib.hid ht
  have R := Lib.hid hr
  have hb := hb.trans (HK2.out _ _ hk hb.size)
  clear hr hk ht CX2
  have HB := Lib.hid hb
  clear hb
  go_wp2_with fail
  refine (CS.out w6 _ gt gs T.out).mono ?_; rintro e w7 ⟨rfl, k, rfl⟩
  have R := Lib.hid (R.out.kept (below_dn (Below.refl _ _) k))
  have HB := Lib.hid (below_dn HB.out k)
  go_wp2_with fail
  refine (rAt _ g 4 [55] R.out).mono ?_; rintro e w8 ⟨rfl, rfl⟩
  go_wp2_with fail
  go_ret
  exact ⟨rfl, HB.out⟩
end Go.Proofs.Ytbdhfmoididkgaa
