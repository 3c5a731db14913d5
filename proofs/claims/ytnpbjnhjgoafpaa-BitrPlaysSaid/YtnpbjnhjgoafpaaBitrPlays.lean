/- It is proved that the law 'BitrPlays' of the program returns true for every input, with no condition, and leaves what was handed in as it was. The frame was written by a program; the walk is by hand. -/
import Derived.Test.YtnpbjnhjgoafpaaRows
import Derived.WalkKit
import Derived.ProofKit
import Derived.OpenShut
import Derived.ShutString
import Derived.ChangeOld
import Derived.Below
import Derived.Test.YtnpbjnhjgoafpaaBase
import Derived.Test.YtnpbjnhjgoafpaaB2
import Derived.Test.YtnpbjnhjgoafpaaD4
import Derived.Test.YtnpbjnhjgoafpaaB2
namespace Go.Proofs.Ytnpbjnhjgoafpaa.bitrPlays
open Go.ChangeShapes Go.WideShapes Go.ChangeAt Go.RowKit Go.Deep
open Go.ChangeMaps (open_string shut_string)
set_option linter.unusedVariables false
set_option maxRecDepth 100000

theorem own : ownKnob Try.prog.godebug = none := by kernel_rfl
theorem laidOut : laidOutB Try.prog = true := by kernel_rfl

/-- What the walk is told of the slice of structs that came in at place 1: nil, or elements at their places. -/
def IsRows1 (w : World) (a : Option Addr) (len cap : Nat) (F0 : Nat → Int) (F1 : Nat → Int) : Prop :=
  (a = none ∧ len = 0 ∧ cap = 0) ∨ ∃ x, a = some x ∧ len ≤ cap ∧ cap ≤ maxLen ∧ ∀ i, i < len → (w.cell? ((x.add (i * 2)).add 0) = some (.int .i64 (F0 i)) ∧ (Lit.int .i64 (F0 i)).wf = true) ∧ (w.cell? ((x.add (i * 2)).add 1) = some (.int .i64 (F1 i)) ∧ (Lit.int .i64 (F1 i)).wf = true)

open Bits
/-- Both readers side by side: the program's at block g, the document's row of bits, and its box b6. -/
structure SideR (w0 wr : World) (g b6 B : Nat) (s : List UInt8) (a : Option Addr) (c t : Nat) : Prop where
  rd : IsReader wr g s t
  row : OwnB B wr (.slice a (spread s).length c) (spread s)
  box : wr.heap[b6]? = some (.cells #[.slice a (spread s).length c, .int .i64 t] 46 (0, 0))
  lt : ∀ q, (Value.slice a (spread s).length c).ownBlock = some q → q < b6
  gB : g < B
  Bb : B ≤ b6
  g0 : w0.heap.size ≤ g
  below : Below w0.heap.size w0 wr
theorem OwnB.boo2 {B : Nat} {w : World} {a : Option Addr} {n c : Nat} {l : List Bool} (h : OwnB B w (.slice a n c) l) : n = l.length ∧ n ≤ c ∧ c ≤ maxLen ∧ IsBoo w a l := by
  obtain ⟨a', c', hv, hc, hb⟩ := h.boo
  simp only [Value.slice.injEq] at hv
  obtain ⟨rfl, rfl, rfl⟩ := hv
  refine ⟨rfl, hc, ?_, hb⟩
  rcases h.2 with ⟨e, h0⟩ | ⟨g, cap, cur, e, -, -, -, hm, -⟩
  · simp only [Value.slice.injEq] at e; unfold maxLen; omega
  · simp only [Value.slice.injEq] at e; omega
theorem keep4 {S : Nat → Prop} {w wx : World} {p1 p2 p3 p4 : Addr} {c1 c2 c3 c4 : Value} (hk : Keeps S w wx) (h : ((p1.block < w.heap.size ∧ ¬ S p1.block) ∧ (p2.block < w.heap.size ∧ ¬ S p2.block) ∧ (p3.block < w.heap.size ∧ ¬ S p3.block) ∧ (p4.block < w.heap.size ∧ ¬ S p4.block)) ∧ w.cell? p1 = some c1 ∧ w.cell? p2 = some c2 ∧ w.cell? p3 = some c3 ∧ w.cell? p4 = some c4) :
    wx.cell? p1 = some c1 ∧ wx.cell? p2 = some c2 ∧ wx.cell? p3 = some c3 ∧ wx.cell? p4 = some c4 :=
  ⟨(hk.cell h.1.1.1 h.1.1.2).trans h.2.1, (hk.cell h.1.2.1.1 h.1.2.1.2).trans h.2.2.1, (hk.cell h.1.2.2.1.1 h.1.2.2.1.2).trans h.2.2.2.1, (hk.cell h.1.2.2.2.1 h.1.2.2.2.2).trans h.2.2.2.2⟩
theorem afterB {wr wx : World} {g : Nat} {u v : Value} {t : TypeId} (hne : ¬ wr.heap.size = g) (hk : Keeps (fun k => k = g) (wr.alloc (.cells #[u, v] t)).drew wx) :
    wx.heap[wr.heap.size]? = some (.cells #[u, v] t (0, 0)) ∧ wr.heap.size < wx.heap.size ∧ wx.cell? ⟨wr.heap.size, 0, none⟩ = some u ∧ wx.cell? ⟨wr.heap.size, 1, none⟩ = some v ∧ wx.frozen? ⟨wr.heap.size, 0, none⟩ = false ∧ wx.frozen? ⟨wr.heap.size, 1, none⟩ = false := by
  have h : wx.heap[wr.heap.size]? = some (.cells #[u, v] t (0, 0)) := hk.heap (heap_alloc_new wr _) hne
  exact ⟨h, cells2 h⟩
theorem SideR.next {w0 wr W8 : World} {g b6 B : Nat} {s : List UInt8} {a : Option Addr} {c t t' : Nat} (hs : SideR w0 wr g b6 B s a c t) (hkW : Keeps (fun k => k = g) wr W8) (hr : IsReader W8 g s t') :
    SideR w0 ((W8.setCell ⟨b6, 0, none⟩ (.slice a (spread s).length c)).setCell ⟨b6, 1, none⟩ (.int .i64 t')) g b6 B s a c t' := by
  have h1 := hs.gB
  have h2 := hs.Bb
  have h3 := hs.g0
  have hb6 : ¬ b6 = g := by omega
  have hbx := hkW.heap hs.box hb6
  have hk6 := ((Keeps.refl (fun b => b = b6) W8).setCell (p := ⟨b6, 0, none⟩) (.inr rfl) (.slice a (spread s).length c)).setCell (p := ⟨b6, 1, none⟩) (.inr rfl) (.int .i64 t')
  have hkA : Keeps (fun k => k = g ∨ k = b6) wr ((W8.setCell ⟨b6, 0, none⟩ (.slice a (spread s).length c)).setCell ⟨b6, 1, none⟩ (.int .i64 t')) := (hkW.mono (fun k _ h => .inl h)).trans' hk6 (fun j _ h => .inr h)
  refine ⟨hr.box hbx hb6 hk6, hkA.ownsRow hs.row (fun k hk h => ?_), ?_, hs.lt, h1, h2, h3, hs.below.trans (hkA.below (fun k hk => ⟨Nat.lt_of_lt_of_le hk hs.below.size, fun h => by omega⟩))⟩
  · have := (hs.row.lt k hk).1
    have := hs.lt k hk
    omega
  · have := block_set (block_set hbx 0 (.slice a (spread s).length c)) 1 (.int .i64 t')
    exact this
theorem SideR.later {w0 wr W8 : World} {g b6 B : Nat} {s : List UInt8} {a : Option Addr} {c t : Nat} (hs : SideR w0 wr g b6 B s a c t) (hb : Below wr.heap.size wr W8) : SideR w0 W8 g b6 B s a c t :=
  ⟨hs.rd.kept hb, hs.row.kept hb, (Keeps.of_below (S := fun _ => False) hb).heap hs.box (fun h => h), hs.lt, hs.gB, hs.Bb, hs.g0, hs.below.trans (hb.mono hs.below.size)⟩
theorem keep2 {n : Nat} {w wx : World} {b o1 o2 : Nat} {c1 c2 : Value} (hb : Below n w wx) (h : b < n ∧ w.cell? ⟨b, o1, none⟩ = some c1 ∧ w.cell? ⟨b, o2, none⟩ = some c2) : wx.cell? ⟨b, o1, none⟩ = some c1 ∧ wx.cell? ⟨b, o2, none⟩ = some c2 :=
  ⟨(hb.cell (p := ⟨b, o1, none⟩) h.1).trans h.2.1, (hb.cell (p := ⟨b, o2, none⟩) h.1).trans h.2.2⟩

set_option maxHeartbeats 12800000 in
theorem walk (a0 : ByteArray) (a1 : Option Addr) (len1 cap1 : Nat) (F1_0 : Nat → Int) (F1_1 : Nat → Int) (w : World) (w0 : a0.size ≤ maxLen) (w1 : IsRows1 w a1 len1 cap1 F1_0 F1_1) :
    Calls Try.prog 6 #[.string a0, .slice a1 len1 cap1] w fun e w' => e = .returned (.bool true) ∧ Below w.heap.size w w' := by
  by_cases hs : 200 < a0.size
  · have hsi : (200 : Int) < (a0.size : Int) := by omega
    go_enter Try.func6, Try.ntmps6
    go_wp2_with fail
    refine (awake02 _).mono ?_; rintro e w1 ⟨rfl, hb⟩
    go_wp2_with fail
    go_ret
    exact ⟨rfl, hb⟩
  by_cases hl : 60 < len1
  · have hli : (60 : Int) < (len1 : Int) := by omega
    go_enter Try.func6, Try.ntmps6
    go_wp2_with fail
    refine (awake02 _).mono ?_; rintro e w1 ⟨rfl, hb⟩
    go_wp2_with fail
    go_ret
    exact ⟨rfl, hb⟩
  have hs2 : a0.size ≤ 200 := by omega
  have hl2 : len1 ≤ 60 := by omega
  have hsl : (spread a0.data.toList).length ≤ 1000000 := by rw [spread_length]; simp; omega
  have HSL := Lib.hid hsl
  have CN := Lib.hid (fun w => rNew a0 (by unfold maxLen; omega) w)
  have CM := Lib.hid (fun w => dNew2 a0 (by omega) w)
  obtain ⟨S, hS⟩ : ∃ S, a0.data.toList = S := ⟨_, rfl⟩
  rw [hS] at CN CM HSL
  clear hS hsl w0
  have w1_ := Lib.hid w1
  clear w1
  go_enter Try.func6, Try.ntmps6
  go_wp2_with fail
  refine (CN.out _).mono ?_; rintro e w2 ⟨rfl, hr2, hb2, hz2⟩
  have hr2_ := Lib.hid hr2
  have hb2_ := Lib.hid hb2
  clear hr2 hb2
  go_wp2_with fail
  refine (CM.out _).mono ?_; rintro e w3 ⟨v, rfl, hown, hb3⟩
  obtain ⟨a, c, rfl⟩ := hown.slice
  have hown_ := Lib.hid hown
  have hb3_ := Lib.hid hb3
  clear hown hb3
  go_wp2_with fail
  go_loopw [7] (fun i wr => ∃ k t : Nat, k ≤ len1 ∧ i = .int .i64 k ∧ SideR w wr (w.heap.size + 1) w3.heap.size w2.heap.size S a c t) (fun i _ => len1 - (intOf i).toNat)
  case atStart =>
    refine ⟨0, 0, Nat.zero_le _, rfl, (hr2_.out.kept hb3_.out).alloc _, hown_.out.alloc _, heap_alloc_new _ _, fun q hq => (hown_.out.lt q hq).2, by omega, hb3_.out.size, by omega, ?_⟩
    exact (hb2_.out.trans (hb3_.out.mono hb2_.out.size)).alloc (by have := hb2_.out.size; have := hb3_.out.size; omega) _
  case round =>
    clear hr2_ hown_ hb2_ hb3_ CN CM
    obtain ⟨k, t, hk, rfl, hs⟩ := hrel
    by_cases hlt : k < len1
    · rcases w1_.out with ⟨-, h0, -⟩ | ⟨x, rfl, hlc, hcm, hc⟩
      · omega
      obtain ⟨⟨q0, m0⟩, ⟨q1, m1⟩⟩ := hc k hlt
      clear hc
      obtain ⟨K, hK⟩ : ∃ K, F1_0 k = K := ⟨_, rfl⟩
      obtain ⟨N, hN⟩ : ∃ N, F1_1 k = N := ⟨_, rfl⟩
      rw [hK] at q0 m0
      rw [hN] at q1 m1
      clear hK hN
      have e0 : (x.add (k * 2)).add 0 = x.add (k * 2) := by simp [Addr.add]
      rw [e0] at q0
      have e1 : (x.add (k * 2)).add 1 = ⟨(x.add (k * 2)).block, (x.add (k * 2)).off + 1, none⟩ := rfl
      rw [e1] at q1
      clear e0 e1
      have hqb := cell_block q0
      have hsz := hs.below.size
      have p0 : wr.cell? (x.add (k * 2)) = _ := (hs.below.cell hqb).trans q0
      have p1 : wr.cell? ⟨(x.add (k * 2)).block, (x.add (k * 2)).off + 1, none⟩ = _ := (hs.below.cell (p := ⟨(x.add (k * 2)).block, (x.add (k * 2)).off + 1, none⟩) hqb).trans q1
      have p0b := cell_block p0
      obtain ⟨l6, c60, c61, f60, f61⟩ := cells2 hs.box
      have hgB := hs.gB
      have hBb := hs.Bb
      have hg0 := hs.g0
      obtain ⟨-, hn2, hn3, hboo⟩ := OwnB.boo2 hs.row
      have CT := Lib.hid (fun W (hb : Below wr.heap.size wr W) => (doT a (spread S).length c (w.heap.size + 1) t S K N W rfl hn2 (hs.rd.kept hb) (hboo.kept hb) HSL.out hn3).mono (R' := fun e w' => ∃ t' : Nat, e = .returned (.tuple #[.agg #[.slice a (spread S).length c, .int .i64 t'], .bool true]) ∧ IsReader w' (w.heap.size + 1) S t' ∧ Keeps (fun k => k = w.heap.size + 1) W w') (by rintro e w' h; exact h))
      have hB0 : Below wr.heap.size wr wr.drew := (Below.refl _ _).drew
      have hB1 : Below wr.heap.size wr (wr.alloc (.cells #[.slice none 0 0, .int .i64 0] 46)).drew := ((Below.refl _ _).alloc (Nat.le_refl _) _).drew
      have hK1 : Keeps (fun k => k = w.heap.size + 1) wr (wr.alloc (.cells #[.slice none 0 0, .int .i64 0] 46)).drew := ((Keeps.refl _ _).alloc _).drew
      have hne8 : ¬ wr.heap.size = w.heap.size + 1 := by omega
      have x8 := heap_alloc_new wr (.cells #[.slice none 0 0, .int .i64 0] 46)
      have HX8 := Lib.hid x8
      clear x8
      have HK4 := Lib.hid (show ((w3.heap.size < wr.heap.size ∧ ¬ w3.heap.size = w.heap.size + 1) ∧ (w3.heap.size < wr.heap.size ∧ ¬ w3.heap.size = w.heap.size + 1) ∧ ((x.add (k * 2)).block < wr.heap.size ∧ ¬ (x.add (k * 2)).block = w.heap.size + 1) ∧ ((x.add (k * 2)).block < wr.heap.size ∧ ¬ (x.add (k * 2)).block = w.heap.size + 1)) ∧ wr.cell? ⟨w3.heap.size, 0, none⟩ = some (.slice a (spread S).length c) ∧ wr.cell? ⟨w3.heap.size, 1, none⟩ = some (.int .i64 t) ∧ wr.cell? (x.add (k * 2)) = some (.int .i64 K) ∧ wr.cell? ⟨(x.add (k * 2)).block, (x.add (k * 2)).off + 1, none⟩ = some (.int .i64 N) from ⟨⟨⟨l6, by omega⟩, ⟨l6, by omega⟩, ⟨p0b, by omega⟩, ⟨p0b, by omega⟩⟩, c60, c61, p0, p1⟩)
      clear q0 q1 m0 m1 hboo hn2 hn3
      have hs_ := Lib.hid hs
      clear hs
      go_wp2_with fail
      go_region_held3 (fun w' => w'.cell? ⟨w3.heap.size, 0, none⟩ = some (.slice a (spread S).length c) ∧ w'.cell? ⟨w3.heap.size, 1, none⟩ = some (.int .i64 t) ∧ w'.cell? (x.add (k * 2)) = some (.int .i64 K) ∧ w'.cell? ⟨(x.add (k * 2)).block, (x.add (k * 2)).off + 1, none⟩ = some (.int .i64 N)) (first | exact ⟨c60, c61, p0, p1⟩ | exact keep4 (by assumption) HK4.out | exact keep4 (hky _) HK4.out | exact keep4 (hkz _ _) HK4.out) (first | (go_at_call 27; with_reducible refine (CT.out _ hB0).mono ?_; rintro e wx ⟨t', rfl, hr', hk'⟩; have hkx := ((Keeps.refl (fun k => k = w.heap.size + 1) wr).drew).trans hk'; have hky := fun o => hkx.alloc o) | (go_at_call 27; with_reducible refine (CT.out _ hB1).mono ?_; rintro e wx ⟨t', rfl, hr', hk'⟩; have hkx := hK1.trans hk'; obtain ⟨hx8, l8, c80, c81, f80, f81⟩ := afterB hne8 hk'; have hkz := fun u v => (hkx.setCell (p := ⟨wr.heap.size, 0, none⟩) (.inl (Nat.le_refl _)) u).setCell (p := ⟨wr.heap.size, 1, none⟩) (.inl (Nat.le_refl _)) v))
      · simp only [Exit.then]
        rename_i hK hHeld
        refine hK _ _ ?_
        have hsN := hs_.out.next (hky (.cells #[.slice a (spread S).length c, .int .i64 t'] 46)) (hr'.alloc _)
        have hb6 := (hky (.cells #[.slice a (spread S).length c, .int .i64 t'] 46)).heap hs_.out.box (by omega)
        obtain ⟨m8, d80, d81, -, -⟩ := cells2 (heap_alloc_new wx (.cells #[.slice a (spread S).length c, .int .i64 t'] 46))
        obtain ⟨m6, d60, d61, j60, j61⟩ := cells2 hb6
        clear hK hHeld hky hkx hr' hk' hb6 c60 c61 f60 f61 p0 p1 HK4 CT hB0 hB1 hK1
        have hsN_ := Lib.hid hsN
        clear hsN
        clear hs_
        go_wp2_with fail
        revert hsN_
        generalize (((wx.alloc (.cells #[.slice a (spread S).length c, .int .i64 t'] 46)).setCell ⟨w3.heap.size, 0, none⟩ (.slice a (spread S).length c)).setCell ⟨w3.heap.size, 1, none⟩ (.int .i64 t')) = WN
        intro hsN
        clear m8 d80 d81 m6 d60 d61 j60 j61
        obtain ⟨l6, c60, c61, -, -⟩ := cells2 hsN.out.box
        have hB0 : Below WN.heap.size WN WN.drew := (Below.refl _ _).drew
        have CA := Lib.hid (fun W (hb : Below WN.heap.size WN W) => (rAt W (w.heap.size + 1) t' S (hsN.out.rd.kept hb)).mono (R' := fun e w' => e = .returned (.int .i64 t') ∧ Below WN.heap.size WN w') (by rintro e w' ⟨h1, rfl⟩; exact ⟨h1, hb⟩))
        have hle := hsN.out.rd.le
        have hLE : ((8 * S.length - t' : Nat) : Int) = ((spread S).length : Int) - t' := by rw [spread_length] at hle ⊢; omega
        have CL := Lib.hid (fun W (hb : Below WN.heap.size WN W) => (rLeft W (w.heap.size + 1) t' S (hsN.out.rd.kept hb)).mono (R' := fun e w' => e = .returned (.int .i64 (((spread S).length : Int) - t')) ∧ Below WN.heap.size WN w') (by rintro e w' ⟨h1, q, rfl⟩; exact ⟨by rw [h1, hLE], below_dn hb _⟩))
        have HC := Lib.hid (show w3.heap.size < WN.heap.size ∧ WN.cell? ⟨w3.heap.size, 0, none⟩ = some (.slice a (spread S).length c) ∧ WN.cell? ⟨w3.heap.size, 1, none⟩ = some (.int .i64 t') from ⟨l6, c60, c61⟩)
        have hsl := HSL.out
        have HW : IntKind.i64.wrap (((spread S).length : Int) - t') = ((spread S).length : Int) - t' := IntWalk.i64_in _ (by omega)
        clear hLE hle hsl
        go_region_held3 (fun w' => w'.cell? ⟨w3.heap.size, 0, none⟩ = some (.slice a (spread S).length c) ∧ w'.cell? ⟨w3.heap.size, 1, none⟩ = some (.int .i64 t')) (first | exact ⟨c60, c61⟩ | exact keep2 (by assumption) HC.out) (first | (go_at_call 28; with_reducible refine (CA.out _ (by assumption)).mono ?_; rintro e wy ⟨rfl, hby⟩) | (go_at_call 29; with_reducible refine (CL.out _ (by assumption)).mono ?_; rintro e wz ⟨rfl, hbz⟩))
        all_goals (
          simp only [Exit.then]
          rename_i hK hHeld
          refine hK _ _ ?_
          have hsE := Lib.hid (hsN.out.later hbz)
          clear hK hHeld hsN hby hbz CA CL HC HW hB0 c60 c61 l6
          go_wp2_with fail
          go_roundw
          case rel => exact ⟨k + 1, t', by omega, by go_num, hsE.out⟩
          case measure => simp [intOf]; omega)
      · simp only [Exit.then]
        rename_i hK hHeld
        refine hK _ _ ?_
        have hkW := hkz (.slice a (spread S).length c) (.int .i64 t')
        have hk8 := ((Keeps.refl (fun b => b = wr.heap.size) wx).setCell (p := ⟨wr.heap.size, 0, none⟩) (.inr rfl) (.slice a (spread S).length c)).setCell (p := ⟨wr.heap.size, 1, none⟩) (.inr rfl) (.int .i64 t')
        have hsN := hs_.out.next hkW (hr'.box hx8 hne8 hk8)
        have hb6 := hkW.heap hs_.out.box (by omega)
        obtain ⟨m8, d80, d81, -, -⟩ := cells2 (x := .slice a (spread S).length c) (y := .int .i64 t') (block_set (block_set hx8 0 (.slice a (spread S).length c)) 1 (.int .i64 t'))
        obtain ⟨m6, d60, d61, j60, j61⟩ := cells2 hb6
        clear hK hHeld hkx hr' hk' hb6 c60 c61 f60 f61 p0 p1 HK4 CT hB0 hB1 hK1 hkz hkW hk8 hx8 c80 c81 f80 f81
        have hsN_ := Lib.hid hsN
        clear hsN
        clear hs_
        go_wp2_with fail
        revert hsN_
        generalize ((((wx.setCell ⟨wr.heap.size, 0, none⟩ (.slice a (spread S).length c)).setCell ⟨wr.heap.size, 1, none⟩ (.int .i64 t')).setCell ⟨w3.heap.size, 0, none⟩ (.slice a (spread S).length c)).setCell ⟨w3.heap.size, 1, none⟩ (.int .i64 t')) = WN
        intro hsN
        clear m8 d80 d81 m6 d60 d61 j60 j61
        obtain ⟨l6, c60, c61, -, -⟩ := cells2 hsN.out.box
        have hB0 : Below WN.heap.size WN WN.drew := (Below.refl _ _).drew
        have CA := Lib.hid (fun W (hb : Below WN.heap.size WN W) => (rAt W (w.heap.size + 1) t' S (hsN.out.rd.kept hb)).mono (R' := fun e w' => e = .returned (.int .i64 t') ∧ Below WN.heap.size WN w') (by rintro e w' ⟨h1, rfl⟩; exact ⟨h1, hb⟩))
        have hle := hsN.out.rd.le
        have hLE : ((8 * S.length - t' : Nat) : Int) = ((spread S).length : Int) - t' := by rw [spread_length] at hle ⊢; omega
        have CL := Lib.hid (fun W (hb : Below WN.heap.size WN W) => (rLeft W (w.heap.size + 1) t' S (hsN.out.rd.kept hb)).mono (R' := fun e w' => e = .returned (.int .i64 (((spread S).length : Int) - t')) ∧ Below WN.heap.size WN w') (by rintro e w' ⟨h1, q, rfl⟩; exact ⟨by rw [h1, hLE], below_dn hb _⟩))
        have HC := Lib.hid (show w3.heap.size < WN.heap.size ∧ WN.cell? ⟨w3.heap.size, 0, none⟩ = some (.slice a (spread S).length c) ∧ WN.cell? ⟨w3.heap.size, 1, none⟩ = some (.int .i64 t') from ⟨l6, c60, c61⟩)
        have hsl := HSL.out
        have HW : IntKind.i64.wrap (((spread S).length : Int) - t') = ((spread S).length : Int) - t' := IntWalk.i64_in _ (by omega)
        clear hLE hle hsl
        go_region_held3 (fun w' => w'.cell? ⟨w3.heap.size, 0, none⟩ = some (.slice a (spread S).length c) ∧ w'.cell? ⟨w3.heap.size, 1, none⟩ = some (.int .i64 t')) (first | exact ⟨c60, c61⟩ | exact keep2 (by assumption) HC.out) (first | (go_at_call 28; with_reducible refine (CA.out _ (by assumption)).mono ?_; rintro e wy ⟨rfl, hby⟩) | (go_at_call 29; with_reducible refine (CL.out _ (by assumption)).mono ?_; rintro e wz ⟨rfl, hbz⟩))
        all_goals (
          simp only [Exit.then]
          rename_i hK hHeld
          refine hK _ _ ?_
          have hsE := Lib.hid (hsN.out.later hbz)
          clear hK hHeld hsN hby hbz CA CL HC HW hB0 c60 c61 l6
          go_wp2_with fail
          go_roundw
          case rel => exact ⟨k + 1, t', by omega, by go_num, hsE.out⟩
          case measure => simp [intOf]; omega)
    · obtain rfl : k = len1 := by omega
      have hb := hs.below
      clear hs
      go_wp2_with fail
      refine (awake02 _).mono ?_; rintro e w4 ⟨rfl, hb4⟩
      go_wp2_with fail
      go_ret
      exact ⟨rfl, hb.trans (hb4.mono hb.size)⟩

theorem lifted (os : Os) (started : os.Started) (H : Type) (enc : TypeId × Value → H) :
    ReturnsInHanded {} Try.checked os 6 .any (Rows.bitrPlaysSpec.pre6 enc Try.prog Try.f6 Rows.bitrPlaysRow.domain false) (Rows.bitrPlaysSpec.post enc Try.prog Try.f6 false true false false) := by
  refine returnsInHanded_of_change (C := Try.checked) own started (by kernel_rfl) Try.func6
    (ChangeSpec.witness6 (enc := enc) (C := Try.checked) false ⟨#[], #[.string ByteArray.empty, .slice none 0 0], []⟩ 8 (by kernel_rfl) (by kernel_rfl) (by kernel_rfl) (by kernel_rfl)) ?_
  intro W base args ds gs before hval0 hW hcnd _
  have hval : ∀ (j : Nat) t v, Try.f6.params[j]? = some t → args[j]? = some v → Value.okWide Try.prog W .any base t v := hval0
  have hW' := hW
  obtain ⟨p, q, hA0, hV, rfl, hfz, hnd⟩ := hW
  have hA : DataW.TrodAll enc Try.prog W 0 (fun _ => true) true Try.f6.params.toList args.toList ds p := hA0
  rw [Try.params6] at hA hval
  obtain ⟨v0, vs0, d0, ds0, p0, q0, hargs, rfl, rfl, h0, r0⟩ := trodAll_cons hA
  obtain ⟨v1, vs1, d1, ds1, p1, q1, rfl, rfl, rfl, h1, r1⟩ := trodAll_cons r0
  obtain ⟨rfl, rfl, rfl⟩ := trodAll_nil r1
  obtain rfl : args = #[v0, v1] := by cases args; simp_all
  obtain ⟨rfl, rfl⟩ := trodVars_none hV
  have k0 := h0
  have lt0 : ∀ x ∈ p0, x.block < W.heap.size := by obtain ⟨m, hm⟩ := k0; exact DataW.trod_lt m _ _ _ hm
  obtain ⟨a0, rfl, rfl, rfl, w0⟩ := open_string Try.underlying9 (hval 0 9 v0 rfl rfl) h0
  obtain ⟨a1, len1, cap1, rfl⟩ := okWide_slice Try.underlying42 (hval 1 42 v1 rfl rfl)
  have k1 := h1
  have lt1 : ∀ x ∈ p1, x.block < W.heap.size := by obtain ⟨m, hm⟩ := k1; exact DataW.trod_lt m _ _ _ hm
  obtain ⟨F1_0, F1_1, w1⟩ : ∃ F0 F1, IsRows1 W a1 len1 cap1 F0 F1 := by
    obtain ⟨fuel, hf⟩ := h1
    rcases open_rows Try.underlying42 Try.underlying51 (by kernel_rfl) (by kernel_rfl) hf with hcs | ⟨x, l, c, hcs, hl, hm, hr⟩
    · simp [Value.cells] at hcs
      obtain ⟨rfl, rfl, rfl⟩ := hcs
      exact ⟨fun _ => 0, fun _ => 0, .inl ⟨rfl, rfl, rfl⟩⟩
    · simp [Value.cells] at hcs
      obtain ⟨rfl, rfl, rfl⟩ := hcs
      obtain ⟨G0, g0⟩ := hr.int 0 _ rfl Try.underlying3
      obtain ⟨G1, g1⟩ := hr.int 1 _ rfl Try.underlying3
      exact ⟨G0, G1, .inr ⟨_, rfl, hl, hm, fun i hi => ⟨g0 i hi, g1 i hi⟩⟩⟩
  clear hA0 hval0
  refine (walk a0 a1 len1 cap1 F1_0 F1_1 W w0 w1).mono fun e W' ⟨he, bel⟩ => ?_
  subst he
  exact ⟨_, rfl, _, _, _, [], _, [], hW', trodAll_mk1 (shut_bool Try.underlying4 _), (trodAll_cons_mk (Below.trod laidOut (by kernel_rfl) (of_decide_eq_true (by kernel_rfl)) k0 bel lt0) (trodAll_cons_mk (Below.trod laidOut (by kernel_rfl) (of_decide_eq_true (by kernel_rfl)) k1 bel lt1) trodAll_mk0)), rfl, bel.frame _, fun h => by cases h⟩

theorem over : Rows.bitrPlaysRow.holds Try.pinned (OpenSpec.ofChange Rows.bitrPlaysSpec) :=
  OpenClaim.holds_of_wide 6 Try.f6 rfl rfl rfl rfl rfl rfl rfl ⟨rfl, rfl, rfl, rfl, rfl⟩ rfl rfl rfl rfl rfl (by kernel_rfl) Try.func6 (by kernel_rfl)
    (of_decide_eq_true (by kernel_rfl)) (by unfold Func.isWrapper; first | (rw [if_pos (by decide +kernel)]; kernel_rfl) | (rw [if_neg (by decide +kernel)]; exact ⟨rfl, rfl⟩))
    (fun os started H enc _ => lifted os started H enc)

theorem proved : Rows.BitrPlaysSaid := over
#print axioms proved
end Go.Proofs.Ytnpbjnhjgoafpaa.bitrPlays
