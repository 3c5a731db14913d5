/- It is proved that the law 'TwolevReads' of the program returns true for every input, with no condition, and leaves what was handed in as it was. The frame was written by a program; the walk is by hand. -/
import Derived.Test.YtbdhfmoididkgaaRows
import Derived.WalkKit
import Derived.ProofKit
import Derived.OpenShut
import Derived.ShutString
import Derived.ChangeOld
import Derived.Below
import Derived.Test.YtbdhfmoididkgaaBase
import Derived.Test.YtbdhfmoididkgaaAL14
import Derived.Test.YtbdhfmoididkgaaCg
namespace Go.Proofs.Ytbdhfmoididkgaa.twolevReads
open Go.ChangeShapes Go.WideShapes Go.ChangeAt Go.RowKit Go.Deep
open Go.ChangeMaps (open_string shut_string)
set_option linter.unusedVariables false
set_option maxRecDepth 100000

theorem own : ownKnob Try.prog.godebug = none := by kernel_rfl
theorem laidOut : laidOutB Try.prog = true := by kernel_rfl

/-- What the walk is told of a slice of integers that came in: nil, or a row of 'cap' cells that hold the numbers zs, each fitting its kind. -/
def IsRow (k : IntKind) (w : World) (a : Option Addr) (len cap : Nat) (zs : List Int) : Prop :=
  (a = none ∧ len = 0 ∧ cap = 0 ∧ zs = []) ∨
  ∃ x, a = some x ∧ len ≤ cap ∧ cap ≤ maxLen ∧ zs.length = cap ∧ (∀ i, i < zs.length → w.cell? (x.add i) = some (.int k (zs.getD i 0))) ∧ ∀ n ∈ zs, (Lit.int k n).wf = true

open KraftMath CanonMath TurnMath Bits Two
theorem ints_of {w : World} {a : Option Addr} {len cap : Nat} {zs : List Int} (h : IsRow .i64 w a len cap zs) : ∃ l : List Int, l.length = len ∧ len ≤ maxLen ∧ (l.length ≤ 70368744177664 → IsInts w a l) := by
  rcases h with ⟨rfl, rfl, rfl, rfl⟩ | ⟨x, rfl, hlc, hcm, hz, hc, -⟩
  · exact ⟨[], rfl, Nat.zero_le _, fun _ => ⟨by simp, .inl rfl⟩⟩
  · have e : (zs.take len).length = len := by rw [List.length_take]; omega
    refine ⟨zs.take len, e, by omega, fun h11 => ⟨by omega, .inr ⟨x, rfl, fun i hi => ?_⟩⟩⟩
    rw [e] at hi
    rw [hc i (by omega)]
    simp [List.getD, hi]
theorem next_bound {l : List Int} {L : Nat} {rest : List Bool} {X Y E : Int} (h : nextL l L rest = (X, Y, E)) : ∃ n : Nat, Y = n ∧ n ≤ rest.length := by
  unfold nextL at h
  by_cases h1 : (entB l L (peek rest L)).2 = 0
  · rw [if_pos h1] at h
    injection h with e1 e2
    injection e2 with e2 e3
    exact ⟨0, e2.symm, Nat.zero_le _⟩
  · rw [if_neg h1] at h
    by_cases h2 : rest.length < (entB l L (peek rest L)).2
    · rw [if_pos h2] at h
      injection h with e1 e2
      injection e2 with e2 e3
      exact ⟨0, e2.symm, Nat.zero_le _⟩
    · rw [if_neg h2] at h
      injection h with e1 e2
      injection e2 with e2 e3
      exact ⟨_, e2.symm, by omega⟩
def errV (l : List Int) (L : Int) : Int := if L < 1 ∨ 15 < L then 1 else check l L
theorem lErr (a : Option Addr) (c : Nat) (l : List Int) (L : Int) (w : World) (h : IsInts w a l) : Calls Try.prog 7 #[.slice a l.length c, .int .i64 L] w fun e w' => e = .returned (.int .i64 (errV l L)) ∧ w' = w := by
  unfold errV
  by_cases hL : L < 1 ∨ 15 < L
  · rw [if_pos hL]
    by_cases h1 : L < 1
    · have hd : decide (L < 1) = true := by simpa using h1
      go_enter Try.func7, Try.ntmps7
      go_wp2_with fail
      go_ret
      exact ⟨rfl, rfl⟩
    · have hd1 : decide (L < 1) = false := by simpa using h1
      have hd : decide (15 < L) = true := by simp; omega
      go_enter Try.func7, Try.ntmps7
      go_wp2_with fail
      go_ret
      exact ⟨rfl, rfl⟩
  · rw [if_neg hL]
    have C := Lib.hid (rCheck_any a c L l w h)
    obtain ⟨E, hE⟩ : ∃ E, check l L = E := ⟨_, rfl⟩
    rw [hE] at C ⊢
    have hd1 : decide (L < 1) = false := by simp; omega
    have hd2 : decide (15 < L) = false := by simp; omega
    clear hE h
    go_enter Try.func7, Try.ntmps7
    go_wp2_with fail
    refine C.out.mono ?_; rintro e w1 ⟨rfl, rfl⟩
    go_wp2_with fail
    go_ret
    exact ⟨rfl, rfl⟩
theorem cell_vals {w : World} {a : Addr} {v : Value} {cs : Array Value} {ty : TypeId} (h : w.cell? a = some v) (hg : w.heap[a.block]? = some (.cells cs ty (0, 0))) : ∃ o : Nat, cs[o]? = some v := by
  unfold World.cell? at h
  rw [hg] at h
  simp only at h
  split at h
  · cases h
  · exact ⟨_, h⟩
theorem boo_keeps {w w' : World} {a : Option Addr} {l : List Bool} {g : Nat} {cs : Array Value} {ty : TypeId} (h : IsBoo w a l) (hk : Keeps (fun j => j = g) w w') (hg : w.heap[g]? = some (.cells cs ty (0, 0))) (hcs : ∀ (i : Nat) b, cs[i]? ≠ some (.bool b)) : IsBoo w' a l := by
  rcases h with rfl | ⟨x, rfl, hc⟩
  · exact .inl rfl
  · refine .inr ⟨x, rfl, fun i hi => ?_⟩
    have c := hc i hi
    obtain ⟨y, hy, hyb, -⟩ := IsBoo.at (.inr ⟨x, rfl, hc⟩ : IsBoo w (some x) l) i hi
    injection hy with hy
    subst hy
    have hne : ¬ (x.add i).block = g := by
      intro e
      rw [← e] at hg
      obtain ⟨o, ho⟩ := cell_vals c hg
      exact hcs o _ ho
    exact (hk.cell (p := x.add i) (by rw [add_block]; exact hyb) hne).trans c
theorem boo_reader {w w' : World} {a : Option Addr} {l : List Bool} {g t : Nat} {s : List UInt8} (h : IsBoo w a l) (hr : IsReader w g s t) (hk : Keeps (fun j => j = g) w w') : IsBoo w' a l := by
  obtain ⟨p, L, C, hg, -⟩ := hr
  exact boo_keeps h hk hg (by intro i b h; rcases i with _ | _ | _ | i <;> simp at h)
theorem set_keeps (w : World) (gb : Nat) (v : Value) : Keeps (fun j => j = gb) w (w.setCell ⟨gb, 1, none⟩ v) := Keeps.setCell (S := fun j => j = gb) (p := ⟨gb, 1, none⟩) (Keeps.refl (fun j => j = gb) w) (.inr rfl) v
theorem boo_box {w : World} {a : Option Addr} {l : List Bool} {gb : Nat} {v : Value} {va : Option Addr} {n c : Nat} {i : Int} {ty : TypeId} (h : IsBoo w a l) (hg : w.heap[gb]? = some (.cells #[.slice va n c, .int .i64 i] ty (0, 0))) : IsBoo (w.setCell ⟨gb, 1, none⟩ v) a l :=
  boo_keeps h (set_keeps w gb v) hg (by intro i b h; rcases i with _ | _ | i <;> simp at h)
theorem reader_box {w : World} {g gb t : Nat} {s : List UInt8} {v : Value} {va : Option Addr} {n c : Nat} {i : Int} {ty : TypeId} (h : IsReader w g s t) (hne : g ≠ gb) (hg : w.heap[gb]? = some (.cells #[.slice va n c, .int .i64 i] ty (0, 0))) : IsReader (w.setCell ⟨gb, 1, none⟩ v) g s t := by
  obtain ⟨p, L, C, hg1, h1, h2, h3, h4, h5, h6⟩ := h
  have hk : Keeps (fun q => q = gb) w (w.setCell ⟨gb, 1, none⟩ v) := set_keeps w gb v
  refine ⟨p, L, C, hk.heap hg1 hne, h1, h2, h3, h4, h5, fun h0 => ?_⟩
  obtain ⟨b, o, e, hn, hlt, hc⟩ := h6 h0
  have hb : ¬ b = gb := by
    intro e2
    subst e2
    obtain ⟨q, hq⟩ := cell_vals (hc 0 h0) hg
    rcases q with _ | _ | q <;> simp at hq
  exact ⟨b, o, e, hn, Nat.lt_of_lt_of_le hlt hk.size, fun j hj => (hk.cell (p := ⟨b, o + j, none⟩) hlt hb).trans (hc j hj)⟩
theorem tw_box {w : World} {B gt gs R root L gb : Nat} {l : List Int} {v : Value} {va : Option Addr} {n c : Nat} {i : Int} (h : IsTw w B gt gs R root L l 0) (hg : w.heap[gb]? = some (.cells #[.slice va n c, .int .i64 i] 34 (0, 0))) : IsTw (w.setCell ⟨gb, 1, none⟩ v) B gt gs R root L l 0 := by
  obtain ⟨ao, N, C, short, long, hs, h1, h2⟩ := h.ex
  have hk := set_keeps w gb v
  have n1 : gt ≠ gb := by
    intro e
    have h1 := h1.tb
    rw [e, hg] at h1
    injection h1 with h1
    injection h1 with h1 h2
    exact absurd h2 (by decide)
  have n2 : gs ≠ gb := fun e => own_ne h1.rs hg (by decide) (by rw [e]; rfl)
  have n3 : (Value.slice ao N C).ownBlock ≠ some gb := fun e => own_ne h1.rl hg (by decide) e
  refine ⟨ao, N, C, short, long, hs, ⟨hk.heap h1.tb n1, hk.ownsRow h1.rs (fun j hj e => n2 ?_), hk.ownsRow h1.rl (fun j hj e => n3 ?_), h1.sl⟩, h2⟩
  · have e1 : gs = j := by simpa [Value.ownBlock] using hj
    rw [e1]; exact e
  · have e : j = gb := e
    rw [hj, e]
theorem dDecV (a b : Option Addr) (ca cb : Nat) (l : List Int) (row : List Bool) (m : Nat) (hm : row.length = m) (w : World) (h1 : IsInts w a l) (h2 : IsBoo w b row) (hl : l.length ≤ 1000) (hr : m ≤ 1000000) (X Y E : Int) (hR : decL l row = (X, Y, E)) :
    Calls Try.prog 12 #[.slice a l.length ca, .slice b m cb] w fun e w' => e = .returned (.tuple #[.int .i64 X, .int .i64 Y, .int .i64 E]) ∧ Below w.heap.size w w' := by
  subst hm
  exact dDecode9 a b ca cb l row w h1 h2 hl hr X Y E hR
theorem add_add (x : Addr) (n i : Nat) : (x.add n).add i = x.add (n + i) := by
  unfold Addr.add
  by_cases hn : n = 0
  · subst hn; simp
  · by_cases hi : i = 0
    · subst hi; simp
    · simp [hn, hi]; omega
theorem boo_drop {w : World} {x : Addr} {l : List Bool} (h : IsBoo w (some x) l) (n : Nat) : IsBoo w (some (x.add n)) (l.drop n) := by
  rcases h with rfl | ⟨x', e, hc⟩
  · exact .inl (by simp)
  · injection e with e
    subst e
    refine .inr ⟨x.add n, rfl, fun i hi => ?_⟩
    rw [List.length_drop] at hi
    have := hc (n + i) (by omega)
    rw [add_add x n i, this]
    simp [List.getD_eq_getElem?_getD, List.getElem?_drop]
set_option maxHeartbeats 1600000 in
theorem bad_walk (a0 : Option Addr) (c0 : Nat) (l : List Int) (root L : Int) (s : ByteArray) (w : World) (h0 : IsInts w a0 l) (hl : l.length ≤ 200) (hs : s.size ≤ 60) (E : Int) (hE : E ≠ 0) (d1 d2 d3 d4 : Bool) (hd1 : decide (1 ≤ L) = d1) (hd2 : decide (L ≤ 15) = d2) (hd3 : decide (root < 1) = d3) (hd4 : decide (L < root) = d4)
    (hEE : (if (d1 && (d2 && (d3 || d4))) = true then 1 else errV l L) = E)
    (CN : Hid (∀ W, IsInts W a0 l → Calls Try.prog 6 #[.slice a0 l.length c0, .int .i64 root, .int .i64 L] W fun e w' => e = .returned (.tuple #[.pointer none, .int .i64 E]) ∧ Below W.heap.size W w')) :
    Calls Try.prog 3 #[.slice a0 l.length c0, .agg #[.int .i64 root, .int .i64 L], .string s] w fun e w' => e = .returned (.bool true) ∧ Below w.heap.size w w' := by
  cases d1
  · simp only [Bool.false_and, Bool.false_eq_true, if_false] at hEE
    have CE := Lib.hid (fun W h => lErr a0 c0 l L W h)
    have HI := Lib.hid h0
    try (have hne : (E != 0) = true := by rw [bne_iff_ne]; exact hE)
    go_enter Try.func3, Try.ntmps3
    go_wp2_with fail
    go_quiet (fail)
    rename_i nq
    obtain ⟨w1, hw1⟩ : ∃ w1, (w.alloc (.cells #[.int .i64 root, .int .i64 L] 23)).drewN nq = w1 := ⟨_, rfl⟩
    have HB := Lib.hid (show Below w.heap.size w w1 by rw [← hw1]; exact below_dn ((Below.refl _ _).alloc (Nat.le_refl _) _) nq)
    rw [hw1]
    clear hw1 h0
    have HI1 := Lib.hid (HI.out.kept HB.out)
    go_wp2_with fail
    refine (CN.out w1 HI1.out).mono ?_; rintro e w2 ⟨rfl, hb2⟩
    have HI2 := Lib.hid (HI1.out.kept hb2)
    have HB2 := Lib.hid (HB.out.trans (hb2.mono HB.out.size))
    clear hb2
    go_wp2_with fail
    refine (CE.out _ HI2.out).mono ?_; rintro e w3 ⟨rfl, rfl⟩
    rw [hEE]
    go_wp2_with fail
    refine (awake11 _).mono ?_; rintro e w4 ⟨rfl, hb4⟩
    go_wp2_with fail
    go_ret
    exact ⟨rfl, HB2.out.trans (hb4.mono HB2.out.size)⟩
  · cases d2
    · simp only [Bool.false_and, Bool.and_false, Bool.false_eq_true, if_false] at hEE
      have CE := Lib.hid (fun W h => lErr a0 c0 l L W h)
      have HI := Lib.hid h0
      try (have hne : (E != 0) = true := by rw [bne_iff_ne]; exact hE)
      go_enter Try.func3, Try.ntmps3
      go_wp2_with fail
      go_quiet (fail)
      rename_i nq
      obtain ⟨w1, hw1⟩ : ∃ w1, (w.alloc (.cells #[.int .i64 root, .int .i64 L] 23)).drewN nq = w1 := ⟨_, rfl⟩
      have HB := Lib.hid (show Below w.heap.size w w1 by rw [← hw1]; exact below_dn ((Below.refl _ _).alloc (Nat.le_refl _) _) nq)
      rw [hw1]
      clear hw1 h0
      have HI1 := Lib.hid (HI.out.kept HB.out)
      go_wp2_with fail
      refine (CN.out w1 HI1.out).mono ?_; rintro e w2 ⟨rfl, hb2⟩
      have HI2 := Lib.hid (HI1.out.kept hb2)
      have HB2 := Lib.hid (HB.out.trans (hb2.mono HB.out.size))
      clear hb2
      go_wp2_with fail
      refine (CE.out _ HI2.out).mono ?_; rintro e w3 ⟨rfl, rfl⟩
      rw [hEE]
      go_wp2_with fail
      refine (awake11 _).mono ?_; rintro e w4 ⟨rfl, hb4⟩
      go_wp2_with fail
      go_ret
      exact ⟨rfl, HB2.out.trans (hb4.mono HB2.out.size)⟩
    · cases d3
      · cases d4
        · simp only [Bool.true_and, Bool.or_false, Bool.false_eq_true, if_false] at hEE
          have CE := Lib.hid (fun W h => lErr a0 c0 l L W h)
          have HI := Lib.hid h0
          try (have hne : (E != 0) = true := by rw [bne_iff_ne]; exact hE)
          go_enter Try.func3, Try.ntmps3
          go_wp2_with fail
          go_quiet (fail)
          rename_i nq
          obtain ⟨w1, hw1⟩ : ∃ w1, (w.alloc (.cells #[.int .i64 root, .int .i64 L] 23)).drewN nq = w1 := ⟨_, rfl⟩
          have HB := Lib.hid (show Below w.heap.size w w1 by rw [← hw1]; exact below_dn ((Below.refl _ _).alloc (Nat.le_refl _) _) nq)
          rw [hw1]
          clear hw1 h0
          have HI1 := Lib.hid (HI.out.kept HB.out)
          go_wp2_with fail
          refine (CN.out w1 HI1.out).mono ?_; rintro e w2 ⟨rfl, hb2⟩
          have HI2 := Lib.hid (HI1.out.kept hb2)
          have HB2 := Lib.hid (HB.out.trans (hb2.mono HB.out.size))
          clear hb2
          go_wp2_with fail
          refine (CE.out _ HI2.out).mono ?_; rintro e w3 ⟨rfl, rfl⟩
          rw [hEE]
          go_wp2_with fail
          refine (awake11 _).mono ?_; rintro e w4 ⟨rfl, hb4⟩
          go_wp2_with fail
          go_ret
          exact ⟨rfl, HB2.out.trans (hb4.mono HB2.out.size)⟩
        · simp only [Bool.true_and, Bool.or_true, if_true] at hEE
          subst hEE
          have CE := Lib.hid (fun W h => lErr a0 c0 l L W h)
          have HI := Lib.hid h0
          try (have hne : (E != 0) = true := by rw [bne_iff_ne]; exact hE)
          go_enter Try.func3, Try.ntmps3
          go_wp2_with fail
          go_quiet (fail)
          rename_i nq
          obtain ⟨w1, hw1⟩ : ∃ w1, (w.alloc (.cells #[.int .i64 root, .int .i64 L] 23)).drewN nq = w1 := ⟨_, rfl⟩
          have HB := Lib.hid (show Below w.heap.size w w1 by rw [← hw1]; exact below_dn ((Below.refl _ _).alloc (Nat.le_refl _) _) nq)
          rw [hw1]
          clear hw1 h0
          have HI1 := Lib.hid (HI.out.kept HB.out)
          go_wp2_with fail
          refine (CN.out w1 HI1.out).mono ?_; rintro e w2 ⟨rfl, hb2⟩
          have HI2 := Lib.hid (HI1.out.kept hb2)
          have HB2 := Lib.hid (HB.out.trans (hb2.mono HB.out.size))
          clear hb2
          go_wp2_with fail
          refine (CE.out _ HI2.out).mono ?_; rintro e w3 ⟨rfl, rfl⟩
          skip
          go_wp2_with fail
          refine (awake11 _).mono ?_; rintro e w4 ⟨rfl, hb4⟩
          go_wp2_with fail
          go_ret
          exact ⟨rfl, HB2.out.trans (hb4.mono HB2.out.size)⟩
      · simp only [Bool.true_and, Bool.true_or, if_true] at hEE
        subst hEE
        have CE := Lib.hid (fun W h => lErr a0 c0 l L W h)
        have HI := Lib.hid h0
        try (have hne : (E != 0) = true := by rw [bne_iff_ne]; exact hE)
        go_enter Try.func3, Try.ntmps3
        go_wp2_with fail
        go_quiet (fail)
        rename_i nq
        obtain ⟨w1, hw1⟩ : ∃ w1, (w.alloc (.cells #[.int .i64 root, .int .i64 L] 23)).drewN nq = w1 := ⟨_, rfl⟩
        have HB := Lib.hid (show Below w.heap.size w w1 by rw [← hw1]; exact below_dn ((Below.refl _ _).alloc (Nat.le_refl _) _) nq)
        rw [hw1]
        clear hw1 h0
        have HI1 := Lib.hid (HI.out.kept HB.out)
        go_wp2_with fail
        refine (CN.out w1 HI1.out).mono ?_; rintro e w2 ⟨rfl, hb2⟩
        have HI2 := Lib.hid (HI1.out.kept hb2)
        have HB2 := Lib.hid (HB.out.trans (hb2.mono HB.out.size))
        clear hb2
        go_wp2_with fail
        refine (CE.out _ HI2.out).mono ?_; rintro e w3 ⟨rfl, rfl⟩
        skip
        go_wp2_with fail
        refine (awake11 _).mono ?_; rintro e w4 ⟨rfl, hb4⟩
        go_wp2_with fail
        go_ret
        exact ⟨rfl, HB2.out.trans (hb4.mono HB2.out.size)⟩
set_option maxHeartbeats 6400000 in
theorem good_walk (a0 : Option Addr) (c0 : Nat) (l : List Int) (root L D R SZ : Nat) (s : ByteArray) (w : World) (h0 : IsInts w a0 l) (hl : l.length ≤ 200) (hs : s.size ≤ 60) (hr1 : 1 ≤ root) (hrD : root + D = L) (hL : L ≤ 15) (hR : 2 ^ root = R) (hSZ : 2 ^ D = SZ) (hE : check l L = 0) :
    Calls Try.prog 3 #[.slice a0 l.length c0, .agg #[.int .i64 root, .int .i64 L], .string s] w fun e w' => e = .returned (.bool true) ∧ Below w.heap.size w w' := by
  obtain ⟨h16, hlen, -, -⟩ := check_16 hE
  have CN := Lib.hid (fun W h => tNewV a0 c0 l root L hr1 (by omega) hL hE l.length rfl L root rfl rfl R hR W h)
  have CE := Lib.hid (fun W h => lErr a0 c0 l L W h)
  have he0 : errV l L = 0 := by unfold errV; rw [if_neg (by omega)]; exact hE
  rw [he0] at CE
  have CX := Lib.hid (fun W B gt gs g t t' bits hbits ht hr X Y E hX ht' => tNextV W B gt gs g root L l s.data.toList t t' bits hbits hr1 (by omega) hL hlen (by omega) R hR ht hr X Y E hX ht')
  have HND := Lib.hid (fun rest => next_dec h16 hlen (by omega) (by omega) rest (fun _ _ => trivial))
  have CD := Lib.hid (fun W a b ca cb row m hm h1 h2 hr X Y E hR => dDecV a b ca cb l row m hm W h1 h2 (by omega) hr X Y E hR)
  have CR := Lib.hid (fun W => rNew s (by unfold maxLen; omega) W)
  have CB := Lib.hid (fun W => dNew2 s (by omega) W)
  obtain ⟨V, hV⟩ : ∃ V, (R : Int) + ((metH l root (ord l).length).length * SZ : Nat) = V := ⟨_, rfl⟩
  have CS := Lib.hid (fun W B gt gs ht => tSizeV W B gt gs root L l R D SZ hrD hL hR hSZ h16 ht V hV)
  have CZ := Lib.hid (fun W h => dSize a0 c0 l root L D R SZ hr1 hrD hL hR hSZ h16 hlen hl W h)
  rw [hV] at CZ
  have hd1 : decide ((1 : Int) ≤ (L : Int)) = true := by simp; omega
  have hd2 : decide ((L : Int) ≤ 15) = true := by simp; omega
  have hd3 : decide ((root : Int) < 1) = false := by simp; omega
  have hd4 : decide ((L : Int) < (root : Int)) = false := by simp; omega
  have hd5 : decide (L < root) = false := by simp; omega
  have hd6 : decide (root < 1) = false := by simp; omega
  have hd7 : decide (root = 0) = false := by simp; omega
  have hd8 : decide (1 ≤ L) = true := by simp; omega
  have hd9 : decide (L ≤ 15) = true := by simp; omega
  have hrr : root ≤ L := by omega
  have HI := Lib.hid h0
  clear h0 hE hlen he0 h16 hV hR hSZ hrD
  go_enter Try.func3, Try.ntmps3
  go_wp2_with fail
  go_quiet (fail)
  rename_i nq
  obtain ⟨w0, hw0⟩ : ∃ w0, (w.alloc (.cells #[.int .i64 root, .int .i64 L] 23)).drewN nq = w0 := ⟨_, rfl⟩
  have HB0 := Lib.hid (show Below w.heap.size w w0 by rw [← hw0]; exact below_dn ((Below.refl _ _).alloc (Nat.le_refl _) _) nq)
  rw [hw0]
  clear hw0
  have HI0 := Lib.hid (HI.out.kept HB0.out)
  go_wp2_with fail
  refine (CN.out w0 HI0.out).mono ?_; rintro e w1 ⟨gt, gs, rfl, ht, hgt, hb1⟩
  have HB := Lib.hid (HB0.out.trans (hb1.mono HB0.out.size))
  have HI1 := Lib.hid (HI0.out.kept hb1)
  have T := Lib.hid ht
  clear hb1 ht CN hgt HB0 HI0
  obtain ⟨BB, hBB⟩ : ∃ BB, w0.heap.size = BB := ⟨_, rfl⟩
  rw [hBB] at T
  clear hBB
  go_wp2_with fail
  refine (CE.out _ HI1.out).mono ?_; rintro e w2 ⟨rfl, rfl⟩
  go_wp2_with fail
  refine (CR.out _).mono ?_; rintro e w3 ⟨rfl, hr, hb3, hz3⟩
  have T := Lib.hid (T.out.kept hb3)
  have HI3 := Lib.hid (HI1.out.kept hb3)
  have HB3 := Lib.hid (HB.out.trans (hb3.mono HB.out.size))
  have hwB := HB.out.size
  obtain ⟨g, hg⟩ : ∃ g, w2.heap.size + 1 = g := ⟨_, rfl⟩
  rw [hg] at hr ⊢
  have R1 := Lib.hid hr
  have hgw : w.heap.size ≤ g := by omega
  have hg3 : g < w3.heap.size := by omega
  clear hr hb3 hz3 hg HI1 HB CR CE hwB
  go_wp2_with fail
  refine (CB.out _).mono ?_; rintro e w4 ⟨v4, rfl, ho4, hb4⟩
  obtain ⟨va, vc, rfl, hi4⟩ := ho4.isB
  have hcap : ((spread s.data.toList).length ≤ vc ∧ vc ≤ 9223372036854775807) ∧ ((va = none ∧ vc = 0 ∧ spread s.data.toList = []) ∨ ∃ x, va = some x) := by
    rcases ho4.2 with ⟨e, e2⟩ | ⟨g, cap, cur, e, -, -, e2, e3, -⟩
    · injection e with e0 e1 e; subst e; subst e0; exact ⟨⟨by omega, by omega⟩, .inl ⟨rfl, rfl, List.length_eq_zero_iff.1 e1⟩⟩
    · injection e with e0 _ e; subst e; subst e0
      unfold maxLen at e3
      exact ⟨⟨e2, by omega⟩, .inr ⟨_, rfl⟩⟩
  obtain ⟨⟨hc1, hc2⟩, hva⟩ := hcap
  have hbl : (spread s.data.toList).length ≤ 480 := by rw [spread_length, Array.length_toList]; have : s.data.size = s.size := rfl; omega
  have T := Lib.hid (T.out.kept hb4)
  have R1 := Lib.hid (R1.out.kept hb4)
  have HI4 := Lib.hid (HI3.out.kept hb4)
  have HB4 := Lib.hid (HB3.out.trans (hb4.mono HB3.out.size))
  have HO4 := Lib.hid hi4
  have hg4 : g < w4.heap.size := by have := hb4.size; omega
  obtain ⟨bits, hbits⟩ : ∃ bits, spread s.data.toList = bits := ⟨_, rfl⟩
  rw [hbits] at hc1 hva hbl HO4 ⊢
  have HBITS := Lib.hid hbits
  obtain ⟨BL, hBL⟩ : ∃ BL, bits.length = BL := ⟨_, rfl⟩
  rw [hBL] at hc1 hbl ⊢
  have HBL := Lib.hid hBL
  clear ho4 hb4 hi4 HI3 HB3 CB hg3 hbits hBL
  go_wp2_with fail
  obtain ⟨gb, hgb0⟩ : ∃ gb, w4.heap.size = gb := ⟨_, rfl⟩
  have T5 := Lib.hid (T.out.kept ((Below.refl _ w4).alloc (Nat.le_refl _) (.cells #[.slice va BL vc, .int .i64 0] 34)))
  have R5 := Lib.hid (R1.out.alloc (.cells #[.slice va BL vc, .int .i64 0] 34))
  have HO5 := Lib.hid (IsBoo.alloc HO4.out (.cells #[.slice va BL vc, .int .i64 0] 34))
  have HX5 := Lib.hid (heap_alloc_new w4 (.cells #[.slice va BL vc, .int .i64 0] 34))
  have HB5 := Lib.hid (HB4.out.alloc HB4.out.size (.cells #[.slice va BL vc, .int .i64 0] 34))
  have HI5 := Lib.hid (HI4.out.kept ((Below.refl _ w4).alloc (Nat.le_refl _) (.cells #[.slice va BL vc, .int .i64 0] 34)))
  have hgb : w.heap.size ≤ gb := by have := HB4.out.size; omega
  obtain ⟨w5, hw5⟩ : ∃ w5, w4.alloc (.cells #[.slice va BL vc, .int .i64 0] 34) = w5 := ⟨_, rfl⟩
  rw [hw5] at T5 R5 HO5 HX5 HB5 HI5 ⊢
  rw [hgb0] at HX5 hg4 ⊢
  have m3 : g ≠ gb := by omega
  clear hw5 hgb0 T R1 HO4 HB4 hg4 HI4
  refine (CS.out w5 _ gt gs T5.out).mono ?_; rintro e w6 ⟨rfl, ks, rfl⟩
  have hks := below_dn (Below.refl w5.heap.size w5) ks
  have T6 := Lib.hid (T5.out.kept hks)
  have R6 := Lib.hid (R5.out.kept hks)
  have HO6 := Lib.hid (HO5.out.kept hks)
  have HX6 := Lib.hid ((Keeps.of_below (S := fun _ => False) hks).heap HX5.out (fun h => h))
  have HI6 := Lib.hid (HI5.out.kept hks)
  have HB6 := Lib.hid (HB5.out.trans (hks.mono HB5.out.size))
  obtain ⟨w6, hw6⟩ : ∃ w6, w5.drewN ks = w6 := ⟨_, rfl⟩
  rw [hw6] at T6 R6 HO6 HX6 HI6 HB6 ⊢
  clear hw6 hks T5 R5 HO5 HX5 HI5 HB5
  go_wp2_with fail
  refine (CZ.out w6 HI6.out).mono ?_; rintro e w7 ⟨rfl, hb7⟩
  have T7 := Lib.hid (T6.out.kept hb7)
  have R7 := Lib.hid (R6.out.kept hb7)
  have HO7 := Lib.hid (HO6.out.kept hb7)
  have HX7 := Lib.hid ((Keeps.of_below (S := fun _ => False) hb7).heap HX6.out (fun h => h))
  have HB7 := Lib.hid (HB6.out.trans (hb7.mono HB6.out.size))
  clear hb7 T6 R6 HO6 HX6 HI6 HB6
  go_wp2_with fail
  obtain ⟨VV, hVV⟩ : ∃ VV, Value.agg #[.slice va BL vc, .int .i64 0] = VV := ⟨_, rfl⟩
  try rw [hVV]
  clear hVV
  go_loopw [14] (fun i wr => ∃ k t : Nat, i = .int .i64 k ∧ k ≤ 40 ∧ t ≤ BL ∧ Hid (IsTw wr BB gt gs R root L l 0) ∧ Hid (IsReader wr g s.data.toList t) ∧ Hid (wr.heap[gb]? = some (.cells #[.slice va BL vc, .int .i64 t] 34 (0, 0))) ∧ Hid (IsBoo wr va bits) ∧ Hid (Below w.heap.size w wr)) (fun i _ => 40 - (intOf i).toNat)
  case atStart => exact ⟨0, 0, rfl, Nat.zero_le _, Nat.zero_le _, T7, R7, HX7, HO7, HB7⟩
  case round =>
    obtain ⟨k, t, rfl, hk, htl, ht, hr, hx, hbo, hb⟩ := hrel
    by_cases hlt : k < 40
    · obtain ⟨⟨X, Y, E⟩, hXYE⟩ : ∃ r, decL l (bits.drop t) = r := ⟨_, rfl⟩
      have hnx := (HND.out (bits.drop t)).trans hXYE
      obtain ⟨n, rfl, hn⟩ := next_bound hnx
      rw [List.length_drop, HBL.out] at hn
      have HNX := Lib.hid hnx
      have CDX := Lib.hid (fun b cb hb2 => CD.out wr a0 b c0 cb (bits.drop t) (BL - t) (by rw [List.length_drop, HBL.out]) (HI.out.kept hb.out) hb2 (by omega) X n E hXYE)
      obtain ⟨T', hT'⟩ : ∃ T' : Nat, T' = t + n := ⟨_, rfl⟩
      have hTi : (t : Int) + n = ((T' : Nat) : Int) := by omega
      have HTN := Lib.hid (show t + ((n : Nat) : Int).toNat = T' by omega)
      have hTb : T' ≤ BL := by omega
      clear hT'
      have HTi := Lib.hid hTi
      clear hTi
      have c0' : wr.cell? ⟨gb, 0, none⟩ = some (.slice va BL vc) := cell_lit hx.out 0 _ rfl
      have c1' : wr.cell? ⟨gb, 1, none⟩ = some (.int .i64 t) := cell_lit hx.out 1 _ rfl
      have hti : (t : Int) ≤ (BL : Int) := by omega
      have htc : (BL : Int) ≤ (vc : Int) := by omega
      clear hXYE hnx
      rcases va with _ | x
      · obtain ⟨rfl, rfl⟩ : vc = 0 ∧ bits = [] := by
          rcases hva with ⟨-, h1, h2⟩ | ⟨x, h⟩
          · exact ⟨h1, h2⟩
          · cases h
        obtain rfl : BL = 0 := by omega
        obtain rfl : t = 0 := by omega
        go_wp2_with fail
        obtain rfl : n = 0 := by omega
        obtain rfl : T' = 0 := by have := HTN.out; simpa using this.symm
        refine (CDX.out _ _ (by exact .inl rfl)).mono ?_; rintro e w6 ⟨rfl, hb6⟩
        have T6 := Lib.hid (ht.out.kept hb6)
        have R6 := Lib.hid (hr.out.kept hb6)
        have hx6 := (Keeps.of_below (S := fun _ => False) hb6).heap hx.out (fun h => h)
        have HO6 := Lib.hid (hbo.out.kept hb6)
        have HB6 := Lib.hid (hb.out.trans (hb6.mono hb.out.size))
        have c61 : w6.cell? ⟨gb, 1, none⟩ = some (.int .i64 0) := cell_lit hx6 1 _ rfl
        have f61 := free_in hx6 1
        have T7 := Lib.hid (tw_box (v := .int .i64 0) T6.out hx6)
        have R7 := Lib.hid (reader_box (v := .int .i64 0) R6.out m3 hx6)
        have HO7 := Lib.hid (boo_box (v := .int .i64 0) HO6.out hx6)
        have HX7 := Lib.hid (block_set hx6 1 (.int .i64 0))
        have HB7 := Lib.hid (HB6.out.setCell (p := ⟨gb, 1, none⟩) hgb (.int .i64 0))
        clear hb6 hx6 T6 R6 HO6 HB6 CDX
        go_wp2_with fail
        obtain ⟨w7, hw7⟩ : ∃ w7, w6.setCell ⟨gb, 1, none⟩ (.int .i64 0) = w7 := ⟨_, rfl⟩
        rw [hw7] at T7 R7 HO7 HX7 HB7 ⊢
        clear hw7 c61 f61
        refine (CX.out w7 _ gt gs g 0 0 [] HBITS.out T7.out R7.out X 0 E HNX.out HTN.out).mono ?_; rintro e w8 ⟨rfl, hr8, ht8, hk8⟩
        have T8 := Lib.hid ht8
        have R8 := Lib.hid hr8
        have HO8 := Lib.hid (boo_reader HO7.out R7.out hk8)
        have HX8 := Lib.hid (show w8.heap[gb]? = some (.cells #[.slice none 0 0, .int .i64 0] 34 (0, 0)) from hk8.heap HX7.out (fun e => m3 e.symm))
        have HB8 := Lib.hid (HB7.out.trans (hk8.below (fun q hq => ⟨by have := HB7.out.size; omega, fun e => by omega⟩)))
        have c8 : w8.cell? ⟨gb, 1, none⟩ = some (.int .i64 0) := cell_lit HX8.out 1 _ rfl
        clear hr8 ht8 hk8 T7 R7 HO7 HX7 HB7
        go_wp2_with fail
        go_region_held3 (fun w1 => w1.cell? ⟨gb, 1, none⟩ = some (.int .i64 0)) (first | exact c8) ((go_at_call 14; refine (rAt _ g 0 _ (by first | exact R8.out | exact R8.out.drewN 1)).mono ?_; rintro e w9 ⟨rfl, rfl⟩))
        go_wp2_with fail
        go_roundw
        case rel => exact ⟨k + 1, 0, by go_num, by omega, by omega, by first | exact T8 | exact Lib.hid (T8.out.kept (below_dn (Below.refl _ _) 1)), by first | exact R8 | exact Lib.hid (R8.out.drewN 1), HX8, HO8, by first | exact HB8 | exact Lib.hid HB8.out.drew⟩
        case measure => simp [intOf]; omega
      · have HEND := Lib.hid (show vc = t → bits.drop t = [] from fun e => List.drop_eq_nil_of_le (by rw [HBL.out]; omega))
        go_wp2_with fail
        all_goals
          refine (CDX.out _ _ (by first | exact boo_drop hbo.out t | (exact .inl (HEND.out (by assumption))) | (split; exact .inl (HEND.out (by assumption)); exact boo_drop hbo.out t))).mono ?_; rintro e w6 ⟨rfl, hb6⟩
          clear h
          have T6 := Lib.hid (ht.out.kept hb6)
          have R6 := Lib.hid (hr.out.kept hb6)
          have hx6 := (Keeps.of_below (S := fun _ => False) hb6).heap hx.out (fun h => h)
          have HO6 := Lib.hid (hbo.out.kept hb6)
          have HB6 := Lib.hid (hb.out.trans (hb6.mono hb.out.size))
          have c61 : w6.cell? ⟨gb, 1, none⟩ = some (.int .i64 t) := cell_lit hx6 1 _ rfl
          have f61 := free_in hx6 1
          have T7 := Lib.hid (tw_box (v := .int .i64 ((T' : Nat) : Int)) T6.out hx6)
          have R7 := Lib.hid (reader_box (v := .int .i64 ((T' : Nat) : Int)) R6.out m3 hx6)
          have HO7 := Lib.hid (boo_box (v := .int .i64 ((T' : Nat) : Int)) HO6.out hx6)
          have HX7 := Lib.hid (block_set hx6 1 (.int .i64 ((T' : Nat) : Int)))
          have HB7 := Lib.hid (HB6.out.setCell (p := ⟨gb, 1, none⟩) hgb (.int .i64 ((T' : Nat) : Int)))
          clear hb6 hx6 T6 R6 HO6 HB6 CDX
          go_wp2_with fail
          rw [HTi.out]
          obtain ⟨w7, hw7⟩ : ∃ w7, w6.setCell ⟨gb, 1, none⟩ (.int .i64 ((T' : Nat) : Int)) = w7 := ⟨_, rfl⟩
          rw [hw7] at T7 R7 HO7 HX7 HB7 ⊢
          clear hw7 c61 f61
          refine (CX.out w7 _ gt gs g t T' bits HBITS.out T7.out R7.out X n E HNX.out HTN.out).mono ?_; rintro e w8 ⟨rfl, hr8, ht8, hk8⟩
          have T8 := Lib.hid ht8
          have R8 := Lib.hid hr8
          have HO8 := Lib.hid (boo_reader HO7.out R7.out hk8)
          have HX8 := Lib.hid (show w8.heap[gb]? = some (.cells #[.slice (some x) BL vc, .int .i64 ((T' : Nat) : Int)] 34 (0, 0)) from hk8.heap HX7.out (fun e => m3 e.symm))
          have HB8 := Lib.hid (HB7.out.trans (hk8.below (fun q hq => ⟨by have := HB7.out.size; omega, fun e => by omega⟩)))
          have c8 : w8.cell? ⟨gb, 1, none⟩ = some (.int .i64 ((T' : Nat) : Int)) := cell_lit HX8.out 1 _ rfl
          clear hr8 ht8 hk8 T7 R7 HO7 HX7 HB7
          go_wp2_with fail
          go_region_held3 (fun w1 => w1.cell? ⟨gb, 1, none⟩ = some (.int .i64 ((T' : Nat) : Int))) (first | exact c8) ((go_at_call 14; refine (rAt _ g T' _ (by first | exact R8.out | exact R8.out.drewN 1)).mono ?_; rintro e w9 ⟨rfl, rfl⟩))
          go_wp2_with fail
          go_roundw
          case rel => exact ⟨k + 1, T', by go_num, by omega, by omega, by first | exact T8 | exact Lib.hid (T8.out.kept (below_dn (Below.refl _ _) 1)), by first | exact R8 | exact Lib.hid (R8.out.drewN 1), HX8, HO8, by first | exact HB8 | exact Lib.hid HB8.out.drew⟩
          case measure => simp [intOf]; omega
    · obtain rfl : k = 40 := by omega
      go_wp2_with fail
      refine (awake11 _).mono ?_; rintro e w6 ⟨rfl, hb6⟩
      go_wp2_with fail
      go_ret
      exact ⟨rfl, hb.out.trans (hb6.mono hb.out.size)⟩

set_option maxHeartbeats 3200000 in
theorem walk (a0 : Option Addr) (len0 cap0 : Nat) (z0 : List Int) (b1_0 : Int) (b1_1 : Int) (a2 : ByteArray) (w : World) (w0 : IsRow .i64 w a0 len0 cap0 z0) (w1_0 : (Lit.int .i64 b1_0).wf = true) (w1_1 : (Lit.int .i64 b1_1).wf = true) (w2 : a2.size ≤ maxLen) :
    Calls Try.prog 3 #[.slice a0 len0 cap0, .agg #[.int .i64 b1_0, .int .i64 b1_1], .string a2] w fun e w' => e = .returned (.bool true) ∧ Below w.heap.size w w' := by
  obtain ⟨l, hl, hmax, h0⟩ := ints_of w0
  subst hl
  unfold maxLen at hmax w2
  by_cases hlong : 200 < l.length
  · go_enter Try.func3, Try.ntmps3
    go_wp2_with fail
    go_quiet (fail)
    rename_i nq
    go_wp2_with fail
    refine (awake11 _).mono ?_; rintro e w1 ⟨rfl, hb⟩
    go_wp2_with fail
    go_ret
    exact ⟨rfl, (below_dn ((Below.refl _ _).alloc (Nat.le_refl _) _) nq).trans (hb.mono (by simp))⟩
  · by_cases hlong2 : 60 < a2.size
    · go_enter Try.func3, Try.ntmps3
      go_wp2_with fail
      go_quiet (fail)
      rename_i nq
      go_wp2_with fail
      refine (awake11 _).mono ?_; rintro e w1 ⟨rfl, hb⟩
      go_wp2_with fail
      go_ret
      exact ⟨rfl, (below_dn ((Below.refl _ _).alloc (Nat.le_refl _) _) nq).trans (hb.mono (by simp))⟩
    · by_cases hL : b1_1 < 1 ∨ 15 < b1_1
      · refine bad_walk a0 cap0 l b1_0 b1_1 a2 w (h0 (by omega)) (by omega) (by omega) 1 (by decide) _ _ _ _ rfl rfl rfl rfl ?_ (Lib.hid (fun W h => (tNewArg _ b1_0 b1_1 (by omega) W).mono (by rintro e w' ⟨rfl, rfl⟩; exact ⟨rfl, Below.refl _ _⟩)))
        have e1 : errV l b1_1 = 1 := by unfold errV; rw [if_pos hL]
        rw [e1]; split <;> rfl
      · by_cases hr : b1_0 < 1 ∨ b1_1 < b1_0
        · refine bad_walk a0 cap0 l b1_0 b1_1 a2 w (h0 (by omega)) (by omega) (by omega) 1 (by decide) _ _ _ _ rfl rfl rfl rfl ?_ (Lib.hid (fun W h => (tNewArg _ b1_0 b1_1 (by omega) W).mono (by rintro e w' ⟨rfl, rfl⟩; exact ⟨rfl, Below.refl _ _⟩)))
          rw [if_pos]
          have h1 : decide (1 ≤ b1_1) = true := by simp; omega
          have h2 : decide (b1_1 ≤ 15) = true := by simp; omega
          rw [h1, h2]
          rcases hr with h | h
          · simp [h]
          · simp [h]
        · obtain ⟨root, rfl⟩ : ∃ n : Nat, b1_0 = n := ⟨b1_0.toNat, by omega⟩
          obtain ⟨L, rfl⟩ : ∃ n : Nat, b1_1 = n := ⟨b1_1.toNat, by omega⟩
          have e1 : errV l L = check l L := by unfold errV; rw [if_neg hL]
          by_cases hE : check l L = 0
          · exact good_walk a0 cap0 l root L (L - root) _ _ a2 w (h0 (by omega)) (by omega) (by omega) (by omega) (by omega) (by omega) rfl rfl hE
          · refine bad_walk a0 cap0 l root L a2 w (h0 (by omega)) (by omega) (by omega) (check l L) hE _ _ _ _ rfl rfl rfl rfl ?_ (Lib.hid (fun W h => tNewBad _ _ l root L (by omega) (by omega) (by omega) hE W h))
            rw [if_neg, e1]
            have h1 : decide ((root : Int) < 1) = false := by simp; omega
            have h2 : decide ((L : Int) < root) = false := by simp; omega
            rw [h1, h2]; simp

theorem lifted (os : Os) (started : os.Started) (H : Type) (enc : TypeId × Value → H) :
    ReturnsInHanded {} Try.checked os 3 .any (Rows.twolevReadsSpec.pre6 enc Try.prog Try.f3 Rows.twolevReadsRow.domain false) (Rows.twolevReadsSpec.post enc Try.prog Try.f3 false true false false) := by
  refine returnsInHanded_of_change (C := Try.checked) own started (by kernel_rfl) Try.func3
    (ChangeSpec.witness6 (enc := enc) (C := Try.checked) false ⟨#[], #[.slice none 0 0, .agg #[.int .i64 0, .int .i64 0], .string ByteArray.empty], []⟩ 8 (by kernel_rfl) (by kernel_rfl) (by kernel_rfl) (by kernel_rfl)) ?_
  intro W base args ds gs before hval0 hW hcnd _
  have hval : ∀ (j : Nat) t v, Try.f3.params[j]? = some t → args[j]? = some v → Value.okWide Try.prog W .any base t v := hval0
  have hW' := hW
  obtain ⟨p, q, hA0, hV, rfl, hfz, hnd⟩ := hW
  have hA : DataW.TrodAll enc Try.prog W 0 (fun _ => true) true Try.f3.params.toList args.toList ds p := hA0
  rw [Try.params3] at hA hval
  obtain ⟨v0, vs0, d0, ds0, p0, q0, hargs, rfl, rfl, h0, r0⟩ := trodAll_cons hA
  obtain ⟨v1, vs1, d1, ds1, p1, q1, rfl, rfl, rfl, h1, r1⟩ := trodAll_cons r0
  obtain ⟨v2, vs2, d2, ds2, p2, q2, rfl, rfl, rfl, h2, r2⟩ := trodAll_cons r1
  obtain ⟨rfl, rfl, rfl⟩ := trodAll_nil r2
  obtain rfl : args = #[v0, v1, v2] := by cases args; simp_all
  obtain ⟨rfl, rfl⟩ := trodVars_none hV
  obtain ⟨a0, len0, cap0, rfl⟩ := okWide_slice Try.underlying22 (hval 0 22 v0 rfl rfl)
  have k0 := h0
  have lt0 : ∀ x ∈ p0, x.block < W.heap.size := by obtain ⟨m, hm⟩ := k0; exact DataW.trod_lt m _ _ _ hm
  obtain ⟨z0, w0⟩ : ∃ zs, IsRow .i64 W a0 len0 cap0 zs := by
    obtain ⟨fuel, hf⟩ := h0
    rcases open_ints Try.underlying22 Try.underlying3 (by kernel_rfl) hf with ⟨hcs, _⟩ | ⟨x, l, c, zs, hcs, _, hl, hm, hz, _, hcell, hwz⟩
    · simp [Value.cells] at hcs
      obtain ⟨rfl, rfl, rfl⟩ := hcs
      exact ⟨[], .inl ⟨rfl, rfl, rfl, rfl⟩⟩
    · simp [Value.cells] at hcs
      obtain ⟨rfl, rfl, rfl⟩ := hcs
      exact ⟨zs, .inr ⟨_, rfl, hl, hm, by simpa using hz, hcell, hwz⟩⟩
  have k1 := h1
  have lt1 : ∀ x ∈ p1, x.block < W.heap.size := by obtain ⟨m, hm⟩ := k1; exact DataW.trod_lt m _ _ _ hm
  obtain ⟨l, rfl, hl, hcs⟩ := agg_array Try.underlying23 (by kernel_rfl) (by kernel_rfl) (hval 1 23 v1 rfl rfl) h1
  obtain ⟨x0, x1, rfl⟩ := len2 l hl
  obtain ⟨n0, c, y, hc, hy⟩ := hcs 0 (by decide)
  simp only [List.getElem?_cons_zero, Option.some.injEq] at hc
  subst hc
  obtain ⟨b1_0, hc, -, w1_0⟩ := DataW.trod_int Try.underlying3 hy
  simp only [List.cons.injEq, and_true] at hc
  subst hc
  clear hy
  obtain ⟨n1, c, y, hc, hy⟩ := hcs 1 (by decide)
  simp only [List.getElem?_cons_zero, List.getElem?_cons_succ, Option.some.injEq] at hc
  subst hc
  obtain ⟨b1_1, hc, -, w1_1⟩ := DataW.trod_int Try.underlying3 hy
  simp only [List.cons.injEq, and_true] at hc
  subst hc
  clear hy
  clear hl hcs
  have k2 := h2
  have lt2 : ∀ x ∈ p2, x.block < W.heap.size := by obtain ⟨m, hm⟩ := k2; exact DataW.trod_lt m _ _ _ hm
  obtain ⟨a2, rfl, rfl, rfl, w2⟩ := open_string Try.underlying9 (hval 2 9 v2 rfl rfl) h2
  clear hA0 hval0
  refine (walk a0 len0 cap0 z0 b1_0 b1_1 a2 W w0 w1_0 w1_1 w2).mono fun e W' ⟨he, bel⟩ => ?_
  subst he
  exact ⟨_, rfl, _, _, _, [], _, [], hW', trodAll_mk1 (shut_bool Try.underlying4 _), (trodAll_cons_mk (Below.trod laidOut (by kernel_rfl) (of_decide_eq_true (by kernel_rfl)) k0 bel lt0) (trodAll_cons_mk (Below.trod laidOut (by kernel_rfl) (of_decide_eq_true (by kernel_rfl)) k1 bel lt1) (trodAll_cons_mk (Below.trod laidOut (by kernel_rfl) (of_decide_eq_true (by kernel_rfl)) k2 bel lt2) trodAll_mk0))), rfl, bel.frame _, fun h => by cases h⟩

theorem over : Rows.twolevReadsRow.holds Try.pinned (OpenSpec.ofChange Rows.twolevReadsSpec) :=
  OpenClaim.holds_of_wide 3 Try.f3 rfl rfl rfl rfl rfl rfl rfl ⟨rfl, rfl, rfl, rfl, rfl⟩ rfl rfl rfl rfl rfl (by kernel_rfl) Try.func3 (by kernel_rfl)
    (of_decide_eq_true (by kernel_rfl)) (by unfold Func.isWrapper; first | (rw [if_pos (by decide +kernel)]; kernel_rfl) | (rw [if_neg (by decide +kernel)]; exact ⟨rfl, rfl⟩))
    (fun os started H enc _ => lifted os started H enc)

theorem proved : Rows.TwolevReadsSaid := over
#print axioms proved
end Go.Proofs.Ytbdhfmoididkgaa.twolevReads
