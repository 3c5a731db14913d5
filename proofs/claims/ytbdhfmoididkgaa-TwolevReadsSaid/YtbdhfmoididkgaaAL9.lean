/- Layer 11: New. -/
import Derived.Test.YtbdhfmoididkgaaAL8
namespace Go.Proofs.Ytbdhfmoididkgaa
open Go.ChangeShapes Go.WideShapes Go.ChangeAt Go.RowKit Go.Lib
set_option linter.unusedVariables false
set_option linter.unusedSimpArgs false
set_option maxRecDepth 100000
open Two KraftMath CanonMath TurnMath Bits
theorem tNewArg (v : Value) (root L : Int) (hL : L < 1 ∨ 15 < L ∨ root < 1 ∨ L < root) (w : World) : Calls Try.prog 6 #[v, .int .i64 root, .int .i64 L] w fun e w' => e = .returned (.tuple #[.pointer none, .int .i64 1]) ∧ w' = w := by
  by_cases h1 : L < 1
  · have hd : decide (L < 1) = true := by simpa using h1
    go_enter Try.func6, Try.ntmps6
    go_wp2_with fail
    go_ret2
    exact ⟨rfl, rfl⟩
  · have hd1 : decide (L < 1) = false := by simpa using h1
    by_cases h2 : 15 < L
    · have hd : decide (15 < L) = true := by simpa using h2
      go_enter Try.func6, Try.ntmps6
      go_wp2_with fail
      go_ret2
      exact ⟨rfl, rfl⟩
    · have hd2 : decide (15 < L) = false := by simpa using h2
      by_cases h3 : root < 1
      · have hd : decide (root < 1) = true := by simpa using h3
        go_enter Try.func6, Try.ntmps6
        go_wp2_with fail
        go_ret2
        exact ⟨rfl, rfl⟩
      · have hd3 : decide (root < 1) = false := by simpa using h3
        have hd : decide (L < root) = true := by simp; omega
        go_enter Try.func6, Try.ntmps6
        go_wp2_with fail
        go_ret2
        exact ⟨rfl, rfl⟩
theorem tNewBad (a : Option Addr) (c : Nat) (l : List Int) (root L : Nat) (hr : 1 ≤ root) (hrL : root ≤ L) (hL : L ≤ 15) (hE : check l L ≠ 0) (w : World) (h : IsInts w a l) : Calls Try.prog 6 #[.slice a l.length c, .int .i64 root, .int .i64 L] w fun e w' => e = .returned (.tuple #[.pointer none, .int .i64 (check l L)]) ∧ Below w.heap.size w w' := by
  have C1 := Lib.hid (kCheck_any a c L l w h)
  obtain ⟨CE, hCE⟩ : ∃ CE, check l L = CE := ⟨_, rfl⟩
  rw [hCE] at hE C1 ⊢
  have hne : (CE != 0) = true := by rw [bne_iff_ne]; exact hE
  have hd1 : decide ((L : Int) < 1) = false := by simp; omega
  have hd2 : decide ((15 : Int) < (L : Int)) = false := by simp; omega
  have hd3 : decide ((root : Int) < 1) = false := by simp; omega
  have hd4 : decide ((L : Int) < (root : Int)) = false := by simp; omega
  clear hCE h
  go_enter Try.func6, Try.ntmps6
  go_wp2_with fail
  refine C1.out.mono ?_; rintro e w1 ⟨rfl, k, rfl⟩
  go_wp2_with fail
  go_ret2
  exact ⟨rfl, below_dn (Below.refl _ _) k⟩
theorem IsT2.low {w : World} {B B' gt gs R root L : Nat} {vl : Value} {short long : List Ent} (h : IsT2 w B gt gs R root L vl short long) (hB : B' ≤ B) : IsT2 w B' gt gs R root L vl short long := ⟨h.tb, OwnS.base h.rs hB, OwnS.base h.rl hB, h.sl⟩
set_option maxHeartbeats 6400000 in
theorem tNew (a : Option Addr) (c : Nat) (l : List Int) (root L : Nat) (hr : 1 ≤ root) (hrL : root ≤ L) (hL : L ≤ 15) (hE : check l L = 0) (w : World) (h : IsInts w a l) : Calls Try.prog 6 #[.slice a l.length c, .int .i64 root, .int .i64 L] w fun e w' => ∃ gt gs ao N C short long hs, e = .returned (.tuple #[.pointer (some ⟨gt, 0, none⟩), .int .i64 0]) ∧ IsT2 w' w.heap.size gt gs (2 ^ root) root L (.slice ao N C) short long ∧ Two l L root l.length short long hs ∧ w.heap.size ≤ gt ∧ w.heap.size ≤ gs ∧ Below w.heap.size w w' := by
  obtain ⟨h16, hlen, -, -⟩ := check_16 hE
  have C1 := Lib.hid (kCheck_any a c L l w h)
  rw [hE] at C1
  have C2 := Lib.hid (fun k => cCodes a c l (w.drewN k) (IsInts.drewN h k))
  rw [h16] at C2
  have HCL := Lib.hid (codes_len (l := l) h16)
  have HCA := Lib.hid (fun s hs => codes_at (l := l) h16 (s := s) hs)
  have HLI := Lib.hid (fun s hs => lenI (l := l) h16 (s := s) hs)
  have HLB := Lib.hid hlen
  have HCB := Lib.hid (fun s hs => ok_c (l := l) h16 (s := s) hs)
  have HN0 := Lib.hid (Nat.pow_pos (n := root) (show 0 < 2 by decide))
  have HN1 := Lib.hid (show 2 ^ root ≤ 2 ^ 15 from Nat.pow_le_pow_right (by decide) (by omega))
  have hll : l.length ≤ 1024 := ((check_ok l L).1 hE).2.2.1
  have HW := Lib.hid (show wrap64 ((2 : Int) ^ root) = ((2 ^ root : Nat) : Int) by
    have hN1 := HN1.out
    have e1 : (2 : Int) ^ root = ((2 ^ root : Nat) : Int) := by simp
    rw [e1]; unfold wrap64; generalize 2 ^ root = q at *; omega)
  have HZ := Lib.hid (two_zero (l := l) (L := L) (root := root) hrL)
  have HSK := Lib.hid (fun k short long hs (t : Two l L root k short long hs) (hk : k < l.length) (h0 : len l k = 0) => two_skip t h16 hk h0)
  have CA := Lib.hid (fun w B gt gs k ao N C short long hs h hB hgt hgs t hk h0 => tAddK w B gt gs (2 ^ root) root L k ao N C l short long hs h rfl hL hr hrL hB hgt hgs t h16 hlen hk h0)
  have hd1 : decide ((L : Int) < 1) = false := by simp; omega
  have hd2 : decide ((15 : Int) < (L : Int)) = false := by simp; omega
  have hd3 : decide ((root : Int) < 1) = false := by simp; omega
  have hd4 : decide ((L : Int) < (root : Int)) = false := by simp; omega
  have HI := Lib.hid h
  clear h hE h16 hlen
  go_enter Try.func6, Try.ntmps6
  go_wp2_with fail
  refine C1.out.mono ?_; rintro e w1 ⟨rfl, k, rfl⟩
  go_wp2_with fail
  refine (C2.out k).mono ?_; rintro e w1 ⟨v1, rfl, hI1, hb1⟩
  obtain ⟨cc, cd, rfl, hI1⟩ := hI1
  rw [HCL.out]
  have HC := Lib.hid hI1
  have HB := Lib.hid (show Below w.heap.size w w1 from (below_dn (Below.refl w.heap.size w) k).trans hb1)
  clear hI1 hb1 C1 C2
  go_wp2_with (refine make_full (f := fT) info_tent (by decide) Try.underlying47 z0 rfl flatT (by decide) rfl _ _ rfl .i64 .i64 _ _ (2 ^ root) rfl rfl HW.out HW.out (by have := HN1.out; omega) ?_; intro w3 hown3 hb3 hz3)
  have HO := Lib.hid hown3; have HB3 := Lib.hid hb3
  obtain ⟨N, hN⟩ : ∃ N, 2 ^ root = N := ⟨_, rfl⟩
  rw [hN] at HO HZ CA ⊢
  have HN := Lib.hid hN
  obtain ⟨gt, hgt⟩ : ∃ gt, w3.heap.size = gt := ⟨_, rfl⟩
  clear hown3 hb3 hN HW
  go_wp2_with fail
  have hb3s := HB3.out.size
  obtain ⟨gs, hgs⟩ : ∃ gs, w1.heap.size = gs := ⟨_, rfl⟩
  obtain ⟨W, hW⟩ : ∃ W, w3.alloc (.cells #[.slice (some ⟨gs, 0, none⟩) N N, .int .i64 root, .slice none 0 0, .int .i64 L] 51) = W := ⟨_, rfl⟩
  have HBs := HB.out.size
  have HT := Lib.hid (show IsT2 W gs gt gs N root L (.slice none 0 0) (List.replicate N z0) [] by
    rw [← hW, ← hgt]
    refine ⟨heap_alloc_new _ _, ?_, ?_, by simp [Value.ownBlock]⟩
    · have := HO.out
      rw [hgs] at this
      exact OwnS.kept this ((Below.refl _ _).alloc (Nat.le_refl _) _)
    · exact ⟨by simp, .inl ⟨rfl, by simp⟩⟩)
  have HBW := Lib.hid (show Below gs w1 W by
    rw [← hW]
    have := HB3.out
    rw [hgs] at this
    exact this.alloc (by omega) _)
  have hg1 : w.heap.size ≤ gs := by omega
  have hg2 : gs ≤ gt := by omega
  have HLW1 := Lib.hid (show w1.heap.size = gs from hgs)
  rw [hgt, hgs, hW]
  clear hW hgt hgs HO HB3 hb3s hz3 HBs
  obtain ⟨PW, hPW⟩ : ∃ PW, wrap64 ((2 : Int) ^ root) = PW := ⟨_, rfl⟩
  rw [hPW]
  clear hPW
  go_loopw [53] (fun iv wr => ∃ (k : Nat) (ao : Option Addr) (M C : Nat) (short long : List Ent) (hs : List Nat), k ≤ l.length ∧ iv = .int .i64 k ∧ Hid (IsT2 wr gs gt gs N root L (.slice ao M C) short long) ∧ Hid (Two l L root k short long hs) ∧ Hid (Below gs w1 wr)) (fun iv _ => l.length - (intOf iv).toNat)
  case atStart => exact ⟨0, none, 0, 0, _, [], [], Nat.zero_le _, rfl, HT, HZ, HBW⟩
  case round =>
    obtain ⟨k, ao, M, C, short, long, hs, hk, rfl, ht, t2, hb⟩ := hrel
    have hbw1 : Below w1.heap.size w1 wr := hb.out.mono (Nat.le_of_eq HLW1.out)
    by_cases hlt : k < l.length
    · have hgl := (HI.out.kept HB.out).kept hbw1
      have hgc := HC.out.kept hbw1
      obtain ⟨x, rfl, hxb, cx0⟩ := hgl.at k hlt
      have cx := cx0 k hlt
      rw [HLI.out k hlt] at cx
      obtain ⟨y, rfl, hyb, cy0⟩ := hgc.at k (by rw [HCL.out]; exact hlt)
      have cy := cy0 k (by rw [HCL.out]; exact hlt)
      rw [HCA.out k hlt] at cy
      have hLk := HLB.out k hlt
      have hC := HCB.out k hlt
      have hsz : gs ≤ wr.heap.size := by have h1 := hb.out.size; have h2 := HLW1.out; omega
      by_cases hn0 : len l k = 0
      · have HS2 := Lib.hid (HSK.out k short long hs t2.out hlt hn0)
        rw [hn0] at cx
        clear cx0 cy0 hgl hgc hbw1 hLk hC hn0
        go_wp2_with fail
        go_roundw
        case rel => exact ⟨k + 1, ao, M, C, short, long, hs, by omega, by go_num, ht, HS2, hb⟩
        case measure => simp [intOf]; omega
      · have CF := Lib.hid (CA.out wr gs gt gs k ao M C short long hs ht.out hsz hg2 (Nat.le_refl _) t2.out hlt hn0)
        obtain ⟨n, hn⟩ : ∃ n, len l k = n := ⟨_, rfl⟩
        obtain ⟨Cc, hCe⟩ : ∃ Cc, code l k = Cc := ⟨_, rfl⟩
        unfold TT at CF
        rw [hn] at cx hLk hC CF hn0
        rw [hCe] at cy hC CF
        have hC15 : Cc < 32768 := Nat.lt_of_lt_of_le hC (show 2 ^ n ≤ 2 ^ 15 from Nat.pow_le_pow_right (by decide) (by omega))
        have hnp : (0 : Int) < (n : Int) := by omega
        have CT := Lib.hid (fun W => bTurned (Cc : Int) n (by omega) W)
        rw [show ((Cc : Int) % 4294967296).toNat = Cc by omega] at CT
        obtain ⟨T, hTe⟩ : ∃ T, turn Cc n = T := ⟨_, rfl⟩
        rw [hTe] at CT CF
        clear cx0 cy0 hgl hgc hbw1 hTe hC hn hCe
        go_wp2_with fail
        refine (CT.out _).mono ?_; rintro e w4 ⟨rfl, rfl⟩
        go_wp2_with fail
        refine CF.out.mono ?_; rintro e w5 ⟨rfl, ⟨ao', N', C', short', long', hs', ht5, tt5⟩, hb5⟩
        have HT5 := Lib.hid ht5
        have HT6 := Lib.hid tt5
        have HB5 := Lib.hid (hb.out.trans hb5)
        clear ht5 tt5 hb5 CF
        go_wp2_with fail
        go_roundw
        case rel => exact ⟨k + 1, ao', N', C', short', long', hs', by omega, by go_num, HT5, HT6, HB5⟩
        case measure => simp [intOf]; omega
    · obtain rfl : k = l.length := by omega
      have HTT := Lib.hid (ht.out.low hg1)
      have HBB := Lib.hid (HB.out.trans (hb.out.mono hg1))
      go_wp2_with fail
      go_ret2
      exact ⟨gt, gs, ao, M, C, short, long, hs, rfl, by rw [HN.out]; exact HTT.out, t2.out, by omega, hg1, HBB.out⟩
end Go.Proofs.Ytbdhfmoididkgaa
