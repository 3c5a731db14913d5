import Derived.Test.YtipcdkemokkdfaaGreatK39
import Derived.Test.YtipcdkemokkdfaaGreatK17
import Derived.Test.YtipcdkemokkdfaaGreatK23
import Derived.Test.YtipcdkemokkdfaaGreatK32
import Derived.Test.YtipcdkemokkdfaaGreatK25
/- Layer 11: (*Table).add, whichever way; New. -/
namespace Go.Proofs.YtipcdkemokkdfaaGreat
open Go.ChangeShapes Go.WideShapes Go.ChangeAt Go.RowKit Go.Lib
set_option linter.unusedVariables false
set_option linter.unusedSimpArgs false
set_option maxRecDepth 100000
open Two KraftMath CanonMath TurnMath Bits
theorem nodup_le : ∀ (n : Nat) (l : List Nat), l.Nodup → (∀ x ∈ l, x < n) → l.length ≤ n
  | 0, l, _, h => by
    cases l with
    | nil => simp
    | cons x l => have := h x (by simp); omega
  | n + 1, l, hn, h => by
    have h1 := nodup_le n (l.erase n) (hn.erase n) (fun x hx => by
      have h2 := h x (List.mem_of_mem_erase hx)
      have h3 : x ≠ n := fun e => by subst e; exact (List.Nodup.mem_erase_iff hn).1 hx |>.1 rfl
      omega)
    have h4 : l.length ≤ (l.erase n).length + 1 := by
      rw [List.length_erase]
      split <;> omega
    omega
theorem own_slice4 {B : Nat} {w : World} {ao : Option Addr} {N C : Nat} {l : List Ent} (h : OwnT B w (.slice ao N C) l) : N = l.length ∧ N ≤ C ∧ (l.length ≠ 0 → ∃ g, ao = some ⟨g, 0, none⟩) := by
  rcases h.2 with ⟨h0, h1⟩ | ⟨g, cap, cur, h0, -, -, h1, -⟩
  · injection h0 with e1 e2 e3
    exact ⟨by omega, by omega, fun h => by omega⟩
  · injection h0 with e1 e2 e3
    exact ⟨by omega, by omega, fun _ => ⟨g, e1⟩⟩
/-- A code is added: whichever way. -/
theorem tAddK (w : World) (B gt gs R root L k : Nat) (ao : Option Addr) (N C : Nat) (l : List Int) (short long : List Ent) (hs : List Nat) (h : IsT2 w B gt gs R root L (.slice ao N C) short long) (hR : 2 ^ root = R) (hL15 : L ≤ 15) (hr : 1 ≤ root) (hrL : root ≤ L) (hB : B ≤ w.heap.size) (hgt : B ≤ gt) (hgs : B ≤ gs)
    (t : Two l L root k short long hs) (hc : check l 16 = 0) (hall : ∀ s, s < l.length → len l s ≤ L) (hk : k < l.length) (h0 : len l k ≠ 0) :
    Calls Tryz.prog 97 #[.pointer (some ⟨gt, 0, none⟩), .int .i64 (TT l k), .agg #[.int .i32 k, .int .i16 (len l k), .bool false, .int .i32 0]] w fun e w' => e = .returned (.tuple #[]) ∧ (∃ ao' N' C' short' long' hs', IsT2 w' B gt gs R root L (.slice ao' N' C') short' long' ∧ Two l L root (k + 1) short' long' hs') ∧ Below B w w' := by
  have hkL := hall k hk
  have hTlt := turn_lt (code l k) (len l k)
  have hR15 : R ≤ 32768 := by rw [← hR]; exact Nat.le_trans (Nat.pow_le_pow_right (by decide) (show root ≤ 15 by omega)) (by decide)
  have hRp : 0 < R := by rw [← hR]; exact Nat.pow_pos (by decide)
  have hbw : ∀ {w'} {S : Nat → Prop}, (∀ j, S j → B ≤ j) → Keeps S w w' → Below B w w' := fun hS hk => hk.below (fun q hq => ⟨by omega, fun e => by have := hS q e; omega⟩)
  by_cases hn : len l k ≤ root
  · refine (tAddShort w B gt gs R root L (TT l k) (len l k) k (.slice ao N C) short long h hR15 hn (by omega) hTlt).mono ?_
    rintro e w' ⟨rfl, h1, h2⟩
    exact ⟨rfl, ⟨ao, N, C, _, long, hs, h1, two_short t hc hall hk h0 hn hrL⟩, hbw (S := fun j => j = gs) (fun j e => by have : j = gs := e; omega) h2⟩
  · have hd : len l k = root + (len l k - root) := by omega
    have hH : TT l k % R < R := Nat.mod_lt _ hRp
    have hls : short.length = R := by rw [t.ls, hR]
    have hrow : ∀ j, (Value.slice ao N C).ownBlock = some j → B ≤ j := fun j e => (World.ownsRow.lt h.rl j e).1
    by_cases hm : TT l k % R ∈ hs
    · obtain ⟨i, hi, e2⟩ := List.mem_iff_getElem.1 hm
      have hf := t.fr i hi
      have hpos : 0 < 2 ^ (L - root) := Nat.pow_pos (by decide)
      have hle : (i + 1) * 2 ^ (L - root) ≤ hs.length * 2 ^ (L - root) := Nat.mul_le_mul_right _ hi
      rw [Nat.add_mul, Nat.one_mul] at hle
      have hll := t.ll
      have hmany : hs.length ≤ 2 ^ root := nodup_le _ _ t.nd t.lt
      have hP : 2 ^ root * 2 ^ (L - root) = 2 ^ L := by rw [← Nat.pow_add]; congr 1; omega
      have hP2 : 2 ^ L ≤ 2 ^ 15 := Nat.pow_le_pow_right (by decide) hL15
      have hmm : hs.length * 2 ^ (L - root) ≤ 2 ^ root * 2 ^ (L - root) := Nat.mul_le_mul_right _ hmany
      obtain ⟨o1, o2, o3⟩ := own_slice4 h.rl
      obtain ⟨gl, rfl⟩ := o3 (by omega)
      rw [e2] at hf
      have hfar : short[TT l k % R]? = some (0, 0, true, ((i * 2 ^ (L - root) : Nat) : Int)) := by
        rw [List.getD_eq_getElem?_getD, List.getElem?_eq_getElem (by rw [hls]; exact hH)] at hf
        rw [List.getElem?_eq_getElem (by rw [hls]; exact hH)]
        exact congrArg some hf
      refine (tAddFar w B gt gs gl R root L (L - root) (2 ^ (L - root)) (TT l k) (len l k) k (TT l k % R) (i * 2 ^ (L - root)) N C (len l k - root) short long h hR rfl (by omega) hL15 hr hd (by omega) (by omega) hTlt rfl hfar (by omega) (by omega) o1 o2).mono ?_
      rintro e w' ⟨rfl, h1, h2⟩
      refine ⟨rfl, ⟨some ⟨gl, 0, none⟩, N, C, short, _, hs, h1, ?_⟩, hbw (S := fun j => j = gl) (fun j e => by
        have e : j = gl := e
        exact hrow j (by rw [e]; rfl)) h2⟩
      have := two_far t hc hall hk (by omega) hrL i hi (by rw [e2, hR])
      rw [hR] at this
      exact this
    · obtain ⟨o1, o2, o3⟩ := own_slice4 h.rl
      have hmany : hs.length ≤ 2 ^ root := nodup_le _ _ t.nd t.lt
      have hP : 2 ^ root * 2 ^ (L - root) = 2 ^ L := by rw [← Nat.pow_add]; congr 1; omega
      have hP2 : 2 ^ L ≤ 2 ^ 15 := Nat.pow_le_pow_right (by decide) hL15
      have hmm : hs.length * 2 ^ (L - root) ≤ 2 ^ root * 2 ^ (L - root) := Nat.mul_le_mul_right _ hmany
      have hll := t.ll
      have hnf := t.nf (TT l k % R) (by rw [hR]; exact hH) hm
      obtain ⟨P, hP3⟩ : ∃ P, short[TT l k % R]? = some P := ⟨_, List.getElem?_eq_getElem (by rw [hls]; exact hH)⟩
      rw [List.getD_eq_getElem?_getD, hP3] at hnf
      refine (tAddOpen w B gt gs R root L (L - root) (2 ^ (L - root)) (TT l k) (len l k) k (TT l k % R) N C (len l k - root) ao P short long h hR rfl (by omega) hL15 hr hd (by omega) (by omega) hTlt rfl hP3 hnf o1 (by omega) hB).mono ?_
      rintro e w' ⟨rfl, ⟨g2, cap, h1, -⟩, h2⟩
      have t2 := two_open t hc hall (Nat.le_of_lt hk) hrL k hk (by omega) (by rw [hR]; exact hm)
      have t3 := two_far t2 hc hall hk (by omega) hrL hs.length (by simp) (by simp)
      rw [hR, ← hll, ← o1] at t3
      refine ⟨rfl, ⟨some ⟨g2, 0, none⟩, _, cap, _, _, _, h1, t3⟩, hbw (S := fun j => j = gt ∨ j = gs ∨ (Value.slice ao N C).ownBlock = some j) (fun j e => ?_) h2⟩
      rcases e with e | e | e
      · omega
      · omega
      · exact hrow j e
end Go.Proofs.YtipcdkemokkdfaaGreat

/- Layer 11: New. -/
namespace Go.Proofs.YtipcdkemokkdfaaGreat
open Go.ChangeShapes Go.WideShapes Go.ChangeAt Go.RowKit Go.Lib
set_option linter.unusedVariables false
set_option linter.unusedSimpArgs false
set_option maxRecDepth 100000
open Two KraftMath CanonMath TurnMath Bits
theorem IsT2.low {w : World} {B B' gt gs R root L : Nat} {vl : Value} {short long : List Ent} (h : IsT2 w B gt gs R root L vl short long) (hB : B' ≤ B) : IsT2 w B' gt gs R root L vl short long := ⟨h.tb, OwnS.base h.rs hB, OwnS.base h.rl hB, h.sl⟩
set_option maxHeartbeats 6400000 in
theorem tNew (a : Option Addr) (c : Nat) (l : List Int) (root L : Nat) (hr : 1 ≤ root) (hrL : root ≤ L) (hL : L ≤ 15) (hE : check l L = 0) (w : World) (h : IsInts w a l) : Calls Tryz.prog 73 #[.slice a l.length c, .int .i64 root, .int .i64 L] w fun e w' => ∃ gt gs ao N C short long hs, e = .returned (.tuple #[.pointer (some ⟨gt, 0, none⟩), .int .i64 0]) ∧ IsT2 w' w.heap.size gt gs (2 ^ root) root L (.slice ao N C) short long ∧ Two l L root l.length short long hs ∧ w.heap.size ≤ gt ∧ w.heap.size ≤ gs ∧ Below w.heap.size w w' := by
  obtain ⟨h16, hlen, -, -⟩ := check_16 hE
  have C1 := Lib.hid (kCheck_any a c L l w h)
  rw [hE] at C1
  have C2 := Lib.hid (fun k => cCodes a c l (w.drewN k) (IsInts.drewN h k))
  rw [h16] at C2
  have HCL := Lib.hid (codes_len (l := l) h16)
  have HCA := Lib.hid (fun s hs => codes_at (l := l) h16 (s := s) hs)
  have HLI := Lib.hid (fun s hs => lenI (l := l) h16 (s := s) hs)
  have HLB := Lib.hid hlen
  have HCB := Lib.hid (fun s hs => ok_c (l := l) h16 (s := s) hs)
  have HN0 := Lib.hid (Nat.pow_pos (n := root) (show 0 < 2 by decide))
  have HN1 := Lib.hid (show 2 ^ root ≤ 2 ^ 15 from Nat.pow_le_pow_right (by decide) (by omega))
  have hll : l.length ≤ 1024 := ((check_ok l L).1 hE).2.2.1
  have HW := Lib.hid (show wrap64 ((2 : Int) ^ root) = ((2 ^ root : Nat) : Int) by
    have hN1 := HN1.out
    have e1 : (2 : Int) ^ root = ((2 ^ root : Nat) : Int) := by simp
    rw [e1]; unfold wrap64; generalize 2 ^ root = q at *; omega)
  have HZ := Lib.hid (two_zero (l := l) (L := L) (root := root) hrL)
  have HSK := Lib.hid (fun k short long hs (t : Two l L root k short long hs) (hk : k < l.length) (h0 : len l k = 0) => two_skip t h16 hk h0)
  have CA := Lib.hid (fun w B gt gs k ao N C short long hs h hB hgt hgs t hk h0 => tAddK w B gt gs (2 ^ root) root L k ao N C l short long hs h rfl hL hr hrL hB hgt hgs t h16 hlen hk h0)
  have hd1 : decide ((L : Int) < 1) = false := by simp; omega
  have hd2 : decide ((15 : Int) < (L : Int)) = false := by simp; omega
  have hd3 : decide ((root : Int) < 1) = false := by simp; omega
  have hd4 : decide ((L : Int) < (root : Int)) = false := by simp; omega
  have HI := Lib.hid h
  clear h hE h16 hlen
  go_enter Tryz.func73, Tryz.ntmps73
  go_wp2_with fail
  refine C1.out.mono ?_; rintro e w1 ⟨rfl, k, rfl⟩
  go_wp2_with fail
  refine (C2.out k).mono ?_; rintro e w1 ⟨v1, rfl, hI1, hb1⟩
  obtain ⟨cc, cd, rfl, hI1⟩ := hI1
  rw [HCL.out]
  have HC := Lib.hid hI1
  have HB := Lib.hid (show Below w.heap.size w w1 from (below_dn (Below.refl w.heap.size w) k).trans hb1)
  clear hI1 hb1 C1 C2
  go_wp2_with (refine make_full (f := fT) info_tent (by decide) Tryz.underlying160 z0 rfl flatT (by decide) rfl _ _ rfl .i64 .i64 _ _ (2 ^ root) rfl rfl HW.out HW.out (by have := HN1.out; omega) ?_; intro w3 hown3 hb3 hz3)
  have HO := Lib.hid hown3; have HB3 := Lib.hid hb3
  obtain ⟨N, hN⟩ : ∃ N, 2 ^ root = N := ⟨_, rfl⟩
  rw [hN] at HO HZ CA ⊢
  have HN := Lib.hid hN
  obtain ⟨gt, hgt⟩ : ∃ gt, w3.heap.size = gt := ⟨_, rfl⟩
  clear hown3 hb3 hN HW
  go_wp2_with fail
  have hb3s := HB3.out.size
  obtain ⟨gs, hgs⟩ : ∃ gs, w1.heap.size = gs := ⟨_, rfl⟩
  obtain ⟨W, hW⟩ : ∃ W, w3.alloc (.cells #[.slice (some ⟨gs, 0, none⟩) N N, .int .i64 root, .slice none 0 0, .int .i64 L] 164) = W := ⟨_, rfl⟩
  have HBs := HB.out.size
  have HT := Lib.hid (show IsT2 W gs gt gs N root L (.slice none 0 0) (List.replicate N z0) [] by
    rw [← hW, ← hgt]
    refine ⟨heap_alloc_new _ _, ?_, ?_, by simp [Value.ownBlock]⟩
    · have := HO.out
      rw [hgs] at this
      exact OwnS.kept this ((Below.refl _ _).alloc (Nat.le_refl _) _)
    · exact ⟨by simp, .inl ⟨rfl, by simp⟩⟩)
  have HBW := Lib.hid (show Below gs w1 W by
    rw [← hW]
    have := HB3.out
    rw [hgs] at this
    exact this.alloc (by omega) _)
  have hg1 : w.heap.size ≤ gs := by omega
  have hg2 : gs ≤ gt := by omega
  have HLW1 := Lib.hid (show w1.heap.size = gs from hgs)
  rw [hgt, hgs, hW]
  clear hW hgt hgs HO HB3 hb3s hz3 HBs
  obtain ⟨PW, hPW⟩ : ∃ PW, wrap64 ((2 : Int) ^ root) = PW := ⟨_, rfl⟩
  rw [hPW]
  clear hPW
  go_loopw [53] (fun iv wr => ∃ (k : Nat) (ao : Option Addr) (M C : Nat) (short long : List Ent) (hs : List Nat), k ≤ l.length ∧ iv = .int .i64 k ∧ Hid (IsT2 wr gs gt gs N root L (.slice ao M C) short long) ∧ Hid (Two l L root k short long hs) ∧ Hid (Below gs w1 wr)) (fun iv _ => l.length - (RowKit.intOf iv).toNat)
  case atStart => exact ⟨0, none, 0, 0, _, [], [], Nat.zero_le _, rfl, HT, HZ, HBW⟩
  case round =>
    obtain ⟨k, ao, M, C, short, long, hs, hk, rfl, ht, t2, hb⟩ := hrel
    have hbw1 : Below w1.heap.size w1 wr := hb.out.mono (Nat.le_of_eq HLW1.out)
    by_cases hlt : k < l.length
    · have hgl := (HI.out.kept HB.out).kept hbw1
      have hgc := HC.out.kept hbw1
      obtain ⟨x, rfl, hxb, cx0⟩ := hgl.at k hlt
      have cx := cx0 k hlt
      rw [HLI.out k hlt] at cx
      obtain ⟨y, rfl, hyb, cy0⟩ := hgc.at k (by rw [HCL.out]; exact hlt)
      have cy := cy0 k (by rw [HCL.out]; exact hlt)
      rw [HCA.out k hlt] at cy
      have hLk := HLB.out k hlt
      have hC := HCB.out k hlt
      have hsz : gs ≤ wr.heap.size := by have h1 := hb.out.size; have h2 := HLW1.out; omega
      by_cases hn0 : len l k = 0
      · have HS2 := Lib.hid (HSK.out k short long hs t2.out hlt hn0)
        rw [hn0] at cx
        clear cx0 cy0 hgl hgc hbw1 hLk hC hn0
        go_wp2_with fail
        go_roundw
        case rel => exact ⟨k + 1, ao, M, C, short, long, hs, by omega, by go_num, ht, HS2, hb⟩
        case measure => simp [RowKit.intOf]; omega
      · have CF := Lib.hid (CA.out wr gs gt gs k ao M C short long hs ht.out hsz hg2 (Nat.le_refl _) t2.out hlt hn0)
        obtain ⟨n, hn⟩ : ∃ n, len l k = n := ⟨_, rfl⟩
        obtain ⟨Cc, hCe⟩ : ∃ Cc, code l k = Cc := ⟨_, rfl⟩
        unfold TT at CF
        rw [hn] at cx hLk hC CF hn0
        rw [hCe] at cy hC CF
        have hC15 : Cc < 32768 := Nat.lt_of_lt_of_le hC (show 2 ^ n ≤ 2 ^ 15 from Nat.pow_le_pow_right (by decide) (by omega))
        have hnp : (0 : Int) < (n : Int) := by omega
        have CT := Lib.hid (fun W => bTurned (Cc : Int) n (by omega) W)
        rw [show ((Cc : Int) % 4294967296).toNat = Cc by omega] at CT
        obtain ⟨T, hTe⟩ : ∃ T, turn Cc n = T := ⟨_, rfl⟩
        rw [hTe] at CT CF
        clear cx0 cy0 hgl hgc hbw1 hTe hC hn hCe
        go_wp2_with fail
        refine (CT.out _).mono ?_; rintro e w4 ⟨rfl, rfl⟩
        go_wp2_with fail
        refine CF.out.mono ?_; rintro e w5 ⟨rfl, ⟨ao', N', C', short', long', hs', ht5, tt5⟩, hb5⟩
        have HT5 := Lib.hid ht5
        have HT6 := Lib.hid tt5
        have HB5 := Lib.hid (hb.out.trans hb5)
        clear ht5 tt5 hb5 CF
        go_wp2_with fail
        go_roundw
        case rel => exact ⟨k + 1, ao', N', C', short', long', hs', by omega, by go_num, HT5, HT6, HB5⟩
        case measure => simp [RowKit.intOf]; omega
    · obtain rfl : k = l.length := by omega
      have HTT := Lib.hid (ht.out.low hg1)
      have HBB := Lib.hid (HB.out.trans (hb.out.mono hg1))
      go_wp2_with fail
      go_ret2
      exact ⟨gt, gs, ao, M, C, short, long, hs, rfl, by rw [HN.out]; exact HTT.out, t2.out, by omega, hg1, HBB.out⟩
end Go.Proofs.YtipcdkemokkdfaaGreat

/- Layer 11: at, Size, Next. -/
namespace Go.Proofs.YtipcdkemokkdfaaGreat
open Go.ChangeShapes Go.WideShapes Go.ChangeAt Go.RowKit Go.Lib
set_option linter.unusedVariables false
set_option linter.unusedSimpArgs false
set_option maxRecDepth 100000
open Two KraftMath CanonMath TurnMath Bits
set_option maxHeartbeats 1600000 in
theorem tAt (w : World) (B gt gs R root L P : Nat) (vl : Value) (short long : List Ent) (h : IsT2 w B gt gs R root L vl short long) (hR : 2 ^ root = R) (hr : root ≤ 15) (hP : P < 2 ^ 56) (E1 E2 E4 : Int) (E3 : Bool) (hE : short[P % R]? = some (E1, E2, E3, E4)) :
    Calls Tryz.prog 114 #[.pointer (some ⟨gt, 0, none⟩), .int .u64 P] w fun e w' => e = .returned (.agg #[.int .i32 E1, .int .i16 E2, .bool E3, .int .i32 E4]) ∧ Below w.heap.size w w' := by
  have hRp : 0 < R := by rw [← hR]; exact Nat.pow_pos (by decide)
  have hR15 : R ≤ 32768 := by rw [← hR]; exact Nat.le_trans (Nat.pow_le_pow_right (by decide) hr) (by decide)
  obtain ⟨H, hH⟩ : ∃ H, P % R = H := ⟨_, rfl⟩
  have hHR : H < R := by rw [← hH]; exact Nat.mod_lt _ hRp
  have hW1 : IntKind.u64.wrap ((2 : Int) ^ root) = (R : Int) := by
    have e1 : (2 : Int) ^ root = ((2 ^ root : Nat) : Int) := by simp
    rw [e1, hR]; exact wrap_u64_nat R (by omega)
  have hW3 : IntKind.u64.wrap ((R : Int) - 1) = (R : Int) - 1 := by
    rw [show (R : Int) - 1 = ((R - 1 : Nat) : Int) by omega]; exact wrap_u64_nat _ (by omega)
  have hAnd : Go.bits .and .u64 (P : Int) ((R : Int) - 1) = (H : Int) := by
    rw [show (R : Int) - 1 = ((R - 1 : Nat) : Int) by omega, and_u64 P (R - 1) (by omega) (by omega), ← hH, ← hR, Nat.and_two_pow_sub_one_eq_mod]
  rw [hH] at hE
  have t0 : w.cell? ⟨gt, 0, none⟩ = some (.slice (some ⟨gs, 0, none⟩) R R) := cell_lit h.tb 0 _ rfl
  have t1 : w.cell? ⟨gt, 1, none⟩ = some (.int .i64 root) := cell_lit h.tb 1 _ rfl
  have c0 := OwnS.cell flatT h.rs H 0 _ hE (by decide)
  have c1 := OwnS.cell flatT h.rs H 1 _ hE (by decide)
  have c2 := OwnS.cell flatT h.rs H 2 _ hE (by decide)
  have c3 := OwnS.cell flatT h.rs H 3 _ hE (by decide)
  simp only [fT, List.getElem?_cons_zero, List.getElem?_cons_succ, Nat.add_zero] at c0 c1 c2 c3
  have lgt := block_lt h.tb
  have lgs := (World.ownsRow.lt h.rs gs rfl).2
  obtain ⟨gb, hgb⟩ : ∃ gb, w.heap.size = gb := ⟨_, rfl⟩
  obtain ⟨W, hW⟩ : ∃ W, w.alloc (.cells #[.int .i32 0, .int .i16 0, .bool false, .int .i32 0] 168) = W := ⟨_, rfl⟩
  have hb : Below gb w W := by rw [← hW, ← hgb]; exact (Below.refl _ _).alloc (Nat.le_refl _) _
  have hbx : W.heap[gb]? = some (.cells #[.int .i32 0, .int .i16 0, .bool false, .int .i32 0] 168 (0, 0)) := by rw [← hW, ← hgb]; exact heap_alloc_new _ _
  have t0 : W.cell? ⟨gt, 0, none⟩ = _ := (hb.cell (p := ⟨gt, 0, none⟩) (show gt < gb by omega)).trans t0
  have t1 : W.cell? ⟨gt, 1, none⟩ = _ := (hb.cell (p := ⟨gt, 1, none⟩) (show gt < gb by omega)).trans t1
  have c0 : W.cell? ⟨gs, H * 4, none⟩ = _ := (hb.cell (p := ⟨gs, H * 4, none⟩) (show gs < gb by omega)).trans c0
  have c1 : W.cell? ⟨gs, H * 4 + 1, none⟩ = _ := (hb.cell (p := ⟨gs, H * 4 + 1, none⟩) (show gs < gb by omega)).trans c1
  have c2 : W.cell? ⟨gs, H * 4 + 2, none⟩ = _ := (hb.cell (p := ⟨gs, H * 4 + 2, none⟩) (show gs < gb by omega)).trans c2
  have c3 : W.cell? ⟨gs, H * 4 + 3, none⟩ = _ := (hb.cell (p := ⟨gs, H * 4 + 3, none⟩) (show gs < gb by omega)).trans c3
  have b0 : W.cell? ⟨gb, 0, none⟩ = some (.int .i32 0) := cell_lit hbx 0 _ rfl
  have b1 : W.cell? ⟨gb, 1, none⟩ = some (.int .i16 0) := cell_lit hbx 1 _ rfl
  have b2 : W.cell? ⟨gb, 2, none⟩ = some (.bool false) := cell_lit hbx 2 _ rfl
  have b3 : W.cell? ⟨gb, 3, none⟩ = some (.int .i32 0) := cell_lit hbx 3 _ rfl
  have f0 := free_in hbx 0
  have f1 := free_in hbx 1
  have f2 := free_in hbx 2
  have f3 := free_in hbx 3
  have hHi : (H : Int) < (R : Int) := by omega
  have hH0 : (0 : Int) ≤ (H : Int) := by omega
  have HBX := Lib.hid hbx
  have HB := Lib.hid hb
  have hmr : min root 64 = root := by omega
  have HR := Lib.hid hR
  clear h hE hH hR hbx hb hP hRp hR15
  go_enter Tryz.func114, Tryz.ntmps114
  go_wp2_with fail
  try rw [hW]
  try rw [hgb]
  clear hW
  go_still_tail 14, (by kernel_rfl)
  clear hW1 hW3 hAnd hmr hHi hH0
  change wpList _ _ _ _ _ W.drew
  go_wp2_with fail
  obtain ⟨W2, hW2⟩ : ∃ W2, ((((W.setCell ⟨gb, 0, none⟩ (.int .i32 E1)).setCell ⟨gb, 1, none⟩ (.int .i16 E2)).setCell ⟨gb, 2, none⟩ (.bool E3)).setCell ⟨gb, 3, none⟩ (.int .i32 E4)).drew = W2 := ⟨_, rfl⟩
  have hx2 : W2.heap[gb]? = some (.cells #[.int .i32 E1, .int .i16 E2, .bool E3, .int .i32 E4] 168 (0, 0)) := by
    rw [← hW2]
    exact block_set (block_set (block_set (block_set HBX.out 0 _) 1 _) 2 _) 3 _
  have HB2 := Lib.hid (show Below gb w W2 by
    rw [← hW2]
    exact ((((HB.out.setCell (p := ⟨gb, 0, none⟩) (Nat.le_refl _) _).setCell (p := ⟨gb, 1, none⟩) (Nat.le_refl _) _).setCell (p := ⟨gb, 2, none⟩) (Nat.le_refl _) _).setCell (p := ⟨gb, 3, none⟩) (Nat.le_refl _) _).drew)
  rw [hW2]
  have d0 : W2.cell? ⟨gb, 0, none⟩ = some (.int .i32 E1) := cell_lit hx2 0 _ rfl
  have d1 : W2.cell? ⟨gb, 1, none⟩ = some (.int .i16 E2) := cell_lit hx2 1 _ rfl
  have d2 : W2.cell? ⟨gb, 2, none⟩ = some (.bool E3) := cell_lit hx2 2 _ rfl
  have d3 : W2.cell? ⟨gb, 3, none⟩ = some (.int .i32 E4) := cell_lit hx2 3 _ rfl
  clear hW2 hx2
  exact bodyPost_ret (v := .agg #[_, _, _, _]) (by simp [results, Tryz.results114, go_sem, d0, d1, d2, d3]) rfl ⟨rfl, by rw [hgb]; exact HB2.out⟩
end Go.Proofs.YtipcdkemokkdfaaGreat

/- Layer 11: Next. -/
namespace Go.Proofs.YtipcdkemokkdfaaGreat
open Go.ChangeShapes Go.WideShapes Go.ChangeAt Go.RowKit Go.Lib
set_option linter.unusedVariables false
set_option linter.unusedSimpArgs false
set_option maxRecDepth 100000
open Two KraftMath CanonMath TurnMath Bits
theorem two_in {l : List Int} {L root k : Nat} {short long : List Ent} {hs : List Nat} (t : Two l L root k short long hs) (hr : root ≤ L) (hL : L ≤ 15) (w : Nat) (hw : w < 2 ^ L) (hf : (short.getD (w % 2 ^ root) z0).2.2.1 = true) :
    ∃ f : Nat, short.getD (w % 2 ^ root) z0 = (0, 0, true, (f : Int)) ∧ f + w / 2 ^ root < long.length ∧ long.length ≤ 32768 := by
  have hR : 0 < 2 ^ root := Nat.pow_pos (by decide)
  have hP : 2 ^ L = 2 ^ (L - root) * 2 ^ root := by rw [← Nat.pow_add]; congr 1; omega
  have hwr : w % 2 ^ root < 2 ^ root := Nat.mod_lt _ hR
  have hwd : w / 2 ^ root < 2 ^ (L - root) := by rw [Nat.div_lt_iff_lt_mul hR, ← hP]; exact hw
  by_cases hm : w % 2 ^ root ∈ hs
  · obtain ⟨i, hi, e2⟩ := List.mem_iff_getElem.1 hm
    have h1 := t.fr i hi
    rw [e2] at h1
    refine ⟨_, h1, ?_, ?_⟩
    · rw [t.ll]
      calc _ < i * 2 ^ (L - root) + 2 ^ (L - root) := by omega
        _ = (i + 1) * 2 ^ (L - root) := by rw [Nat.add_mul, Nat.one_mul]
        _ ≤ _ := Nat.mul_le_mul_right _ hi
    · have hmany : hs.length ≤ 2 ^ root := nodup_le _ _ t.nd t.lt
      have hP2 : 2 ^ L ≤ 2 ^ 15 := Nat.pow_le_pow_right (by decide) hL
      have hmm : hs.length * 2 ^ (L - root) ≤ 2 ^ root * 2 ^ (L - root) := Nat.mul_le_mul_right _ hmany
      rw [t.ll]
      rw [Nat.mul_comm] at hP
      omega
  · rw [t.nf _ hwr hm] at hf
    cases hf
theorem ent_le2 {l : List Int} {L v : Nat} (hl : ∀ s, s < l.length → len l s ≤ L) : (entB l L v).2 ≤ L ∧ ((entB l L v).2 = 0 → (entB l L v).1 = 0) ∧ (entB l L v).1 ≤ l.length := by
  unfold entB entK
  cases hf : (List.range l.length).find? (hitAt l (bitsOf v L)) with
  | none => simp
  | some s =>
    have h1 := List.find?_some hf
    have h2 := List.mem_range.1 (List.mem_of_find?_eq_some hf)
    refine ⟨hl s h2, fun h0 => ?_, Nat.le_of_lt h2⟩
    unfold hitAt at h1
    simp only at h0
    rw [h0] at h1
    simp at h1
theorem IsT2.apart {w : World} {B gt gs R root L g t : Nat} {vl : Value} {short long : List Ent} {s : List UInt8} (h : IsT2 w B gt gs R root L vl short long) (hr : IsReader w g s t) : gt ≠ g ∧ gs ≠ g ∧ vl.ownBlock ≠ some g := by
  obtain ⟨p, L', C', hg, -⟩ := hr
  refine ⟨fun e => ?_, fun e => own_ne h.rs hg (by decide) (by rw [e]; rfl), fun e => own_ne h.rl hg (by decide) e⟩
  have h1 := h.tb
  rw [e, hg] at h1
  injection h1 with h1
  injection h1 with h1 h2
  exact absurd h2 (by decide)
theorem IsT2.keeps {w w' : World} {B gt gs R root L g t : Nat} {vl : Value} {short long : List Ent} {s : List UInt8} (h : IsT2 w B gt gs R root L vl short long) (hr : IsReader w g s t) (hk : Keeps (fun j => j = g) w w') : IsT2 w' B gt gs R root L vl short long := by
  obtain ⟨h1, h2, h3⟩ := h.apart hr
  exact ⟨hk.heap h.tb h1, hk.ownsRow h.rs (fun j hj e => h2 (by
    have e1 : gs = j := by simpa [Value.ownBlock] using hj
    rw [e1]; exact e)), hk.ownsRow h.rl (fun j hj e => h3 (by
    have e : j = g := e
    rw [hj, e])), h.sl⟩
end Go.Proofs.YtipcdkemokkdfaaGreat

/- Layer 27: a table's Next, by a reader whose bytes lie low. -/
namespace Go.Proofs.YtipcdkemokkdfaaGreat
open Go.ChangeShapes Go.WideShapes Go.ChangeAt Go.RowKit Go.Lib
set_option linter.unusedVariables false
set_option linter.unusedSimpArgs false
set_option maxRecDepth 100000
open Two KraftMath CanonMath TurnMath Bits
set_option maxHeartbeats 6400000 in
theorem tNextF (w : World) (B gt gs g R root L N C : Nat) (ao : Option Addr) (l : List Int) (short long : List Ent) (hs : List Nat) (s : List UInt8) (t : Nat) (hr1 : 1 ≤ root) (hrL : root ≤ L) (hL : L ≤ 15) (hlen : ∀ s, s < l.length → len l s ≤ L) (hll : l.length ≤ 1024) (hR : 2 ^ root = R) (ht : IsT2 w B gt gs R root L (.slice ao N C) short long) (tw : Two l L root l.length short long hs) (hrd : IsReader w g s t) (X Y E : Int) (hX : nextL l L ((spread s).drop t) = (X, Y, E)) :
    Calls Tryz.prog 100 #[.pointer (some ⟨gt, 0, none⟩), .pointer (some ⟨g, 0, none⟩)] w fun e w' => e = .returned (.tuple #[.int .i64 X, .int .i64 E]) ∧ IsReader w' g s (t + Y.toNat) ∧ Keeps (fun j => j = g) w w' ∧ ∀ B, Far w g B → Far w' g B := by
  have hRp : 0 < R := by rw [← hR]; exact Nat.pow_pos (by decide)
  have hR15 : R ≤ 32768 := by rw [← hR]; exact Nat.le_trans (Nat.pow_le_pow_right (by decide) (show root ≤ 15 by omega)) (by decide)
  obtain ⟨P, hP⟩ : ∃ P, peek ((spread s).drop t) L = P := ⟨_, rfl⟩
  have hPl := peek_lt ((spread s).drop t) L
  rw [hP] at hPl
  have hP15 : 2 ^ L ≤ 2 ^ 15 := Nat.pow_le_pow_right (by decide) hL
  have hel := ent_le2 (l := l) (L := L) (v := P) hlen
  have hlk := tw.lk P hPl
  have hin := two_in tw hrL hL P hPl
  unfold nextL at hX
  rw [hP] at hX
  have CP := Lib.hid (fun W h => rPeekU W g t s (L : Int) h P (by unfold peekS; rw [if_neg (by omega), Int.toNat_natCast, hP]))
  have hentK : entK l L l.length P = entB l L P := rfl
  rw [hentK] at hlk
  obtain ⟨⟨sy, n⟩, hent⟩ : ∃ q, entB l L P = q := ⟨_, rfl⟩
  rw [hent] at hel hX hlk
  simp only at hX hel hlk
  have hsy : sy ≤ 1024 := by have := hel.2.2; omega
  have hwl : (spread s).length - t = ((spread s).drop t).length := by rw [List.length_drop]
  rw [hR] at hin
  have hHR : P % R < R := Nat.mod_lt _ hRp
  have hls : short.length = R := by rw [tw.ls, hR]
  obtain ⟨⟨E1, E2, E3, E4⟩, hE⟩ : ∃ e, short.getD (P % R) z0 = e := ⟨_, rfl⟩
  have hE' : short[P % R]? = some (E1, E2, E3, E4) := by
    rw [List.getD_eq_getElem?_getD, List.getElem?_eq_getElem (by rw [hls]; exact hHR)] at hE
    rw [List.getElem?_eq_getElem (by rw [hls]; exact hHR)]
    exact congrArg some hE
  have CA := Lib.hid (fun W (h : IsT2 W B gt gs R root L (.slice ao N C) short long) => tAt W B gt gs R root L P (.slice ao N C) short long h hR (by omega) (by omega) E1 E2 E4 E3 hE')
  unfold Two.look at hlk
  simp only [hR] at hlk
  rw [hE] at hlk hin
  have HT := Lib.hid ht
  have t0 : w.cell? ⟨gt, 0, none⟩ = some (.slice (some ⟨gs, 0, none⟩) R R) := cell_lit ht.tb 0 _ rfl
  have t3 : w.cell? ⟨gt, 3, none⟩ = some (.int .i64 L) := cell_lit ht.tb 3 _ rfl
  have hRz : ((R : Int) == 0) = false := by rw [beq_eq_false_iff_ne]; omega
  have hRz2 : ¬ R = 0 := by omega
  have HRD := Lib.hid hrd; have HX := Lib.hid hX; have HWL := Lib.hid hwl; have HEL := Lib.hid hel; have HLK := Lib.hid hlk; have HIN := Lib.hid hin; have HR := Lib.hid hR; have HP15 := Lib.hid hP15; have HPL := Lib.hid hPl; have HTW := Lib.hid tw
  have HRP := Lib.hid hRp; have HR15 := Lib.hid hR15
  clear ht hrd hX hwl hent hel hP hlk hin hR hP15 hPl tw hE hE' hHR hls hentK hlen hRp hR15
  go_enter Tryz.func100, Tryz.ntmps100
  go_wp2_with fail
  refine (CP.out _ HRD.out).mono ?_; rintro e w1 ⟨rfl, hb1⟩
  have HT1 := Lib.hid (HT.out.kept hb1)
  have HB1 := Lib.hid hb1
  clear hb1 CP t0 t3 hRz hRz2
  go_wp2_with fail
  refine (CA.out _ HT1.out).mono ?_; rintro e w2 ⟨rfl, hb2⟩
  have HT2 := Lib.hid (HT1.out.kept hb2)
  have HB2 := Lib.hid (HB1.out.trans (hb2.mono HB1.out.size))
  have HB2r := Lib.hid (show w.heap.size ≤ w2.heap.size from HB2.out.size)
  clear hb2 CA
  iterate 12 (first | go_values | go_skip | go_guarded | go_step | go_upon | go_back | (simp only [Int.not_lt, Int.not_le] at *; go_simp) | (go_values <;> (try go_simp)))
  obtain ⟨gb, hgb⟩ : ∃ gb, w2.heap.size = gb := ⟨_, rfl⟩
  obtain ⟨W, hW⟩ : ∃ W, w2.alloc (.cells #[.int .i32 E1, .int .i16 E2, .bool E3, .int .i32 E4] 168) = W := ⟨_, rfl⟩
  have HBX := Lib.hid (show W.heap[gb]? = some (.cells #[.int .i32 E1, .int .i16 E2, .bool E3, .int .i32 E4] 168 (0, 0)) by rw [← hW, ← hgb]; exact heap_alloc_new _ _)
  have HTW2 := Lib.hid (show IsT2 W B gt gs R root L (.slice ao N C) short long by rw [← hW]; exact HT2.out.kept ((Below.refl _ _).alloc (Nat.le_refl _) _))
  have HB2 := Lib.hid (show Below w.heap.size w W by rw [← hW]; exact HB2.out.alloc HB2.out.size _)
  have HGB := Lib.hid (show w.heap.size ≤ gb by rw [← hgb]; exact HB2r.out)
  rw [hgb, hW]
  clear hgb hW HT2 HT1 HB1
  cases E3 with
  | false =>
    have hlk := HLK.out
    simp only [Bool.false_eq_true, if_false] at hlk
    injection hlk with e1 e2
    subst e1 e2
    have b2 : W.cell? ⟨gb, 2, none⟩ = some (.bool false) := cell_lit HBX.out 2 _ rfl
    have HFW := Lib.hid (fun B (h : Far w g B) => (show Far W g B from Far.kept h (HB2.out.block g (IsReader.lt HRD.out))))
    have b0 : W.cell? ⟨gb, 0, none⟩ = some (.int .i32 sy) := cell_lit HBX.out 0 _ rfl
    have b1 : W.cell? ⟨gb, 1, none⟩ = some (.int .i16 n) := cell_lit HBX.out 1 _ rfl
    have hr2 := HRD.out.kept HB2.out
    have htl := HRD.out.le
    have hn15 := HEL.out.1
    by_cases hn0 : n = 0
    · have hs0 := HEL.out.2.1 hn0
      subst hn0
      subst hs0
      have hx := HX.out
      rw [if_pos rfl] at hx
      injection hx with e1 e2
      injection e2 with e2 e3
      subst e1 e2 e3
      have HRR := Lib.hid hr2
      have HK := Lib.hid (show Keeps (fun j => j = g) w W from Keeps.of_below HB2.out)
      clear hr2
      go_wp2_with fail
      go_ret2
      exact ⟨rfl, HRR.out, HK.out, HFW.out⟩
    · have hx := HX.out
      rw [if_neg hn0] at hx
      have hnb : ((n : Int) == 0) = false := by rw [beq_eq_false_iff_ne]; omega
      have hwl := HWL.out
      by_cases hsh : ((spread s).drop t).length < n
      · rw [if_pos hsh] at hx
        injection hx with e1 e2
        injection e2 with e2 e3
        subst e1 e2 e3
        have CS := Lib.hid (rSkipUF W g t s (n : Int) hr2 t 0 3 (by unfold takeS; rw [if_neg (by omega), if_pos (by rw [Int.toNat_natCast]; omega)]))
        clear hr2 hsh hwl
        go_wp2_with fail
        refine CS.out.mono ?_; rintro e w6 ⟨rfl, hr6, hk6, hf6⟩
        have HFW6 := Lib.hid (fun B (h : Far w g B) => hf6 B (HFW.out B h))
        clear hf6
        have HRR := Lib.hid hr6
        have HK := Lib.hid ((show Keeps (fun j => j = g) w W from Keeps.of_below HB2.out).trans hk6)
        clear hr6 hk6
        go_wp2_with fail
        go_ret2
        exact ⟨rfl, HRR.out, HK.out, HFW6.out⟩
      · rw [if_neg hsh] at hx
        injection hx with e1 e2
        injection e2 with e2 e3
        subst e1 e2 e3
        have CS := Lib.hid (rSkipUF W g t s (n : Int) hr2 (t + n) (peek ((spread s).drop t) n) 0 (by unfold takeS; rw [if_neg (by omega), if_neg (by rw [Int.toNat_natCast]; omega), Int.toNat_natCast]))
        clear hr2 hsh hwl
        go_wp2_with fail
        refine CS.out.mono ?_; rintro e w6 ⟨rfl, hr6, hk6, hf6⟩
        have HFW6 := Lib.hid (fun B (h : Far w g B) => hf6 B (HFW.out B h))
        clear hf6
        have HRR := Lib.hid (show IsReader w6 g s (t + ((n : Nat) : Int).toNat) by rw [Int.toNat_natCast]; exact hr6)
        have HK := Lib.hid ((show Keeps (fun j => j = g) w W from Keeps.of_below HB2.out).trans hk6)
        have b0 := (hk6.heap HBX.out (by
          have := IsReader.lt HRD.out
          have := HGB.out
          show ¬ gb = g; omega))
        have b0 : w6.cell? ⟨gb, 0, none⟩ = some (.int .i32 sy) := cell_lit b0 0 _ rfl
        clear hr6 hk6
        go_wp2_with fail
        go_ret2
        exact ⟨rfl, HRR.out, HK.out, HFW6.out⟩
  | true =>
    obtain ⟨f, h1, h2, h3⟩ := HIN.out rfl
    injection h1 with e1 e2
    injection e2 with e2 e3
    injection e3 with e3 e4
    subst e1 e2 e4
    have hlk := HLK.out
    simp only [if_true, Int.toNat_natCast] at hlk
    obtain ⟨o1, o2, o3⟩ := own_slice4 HTW2.out.rl
    obtain ⟨Q, hQ⟩ : ∃ Q, P / R = Q := ⟨_, rfl⟩
    rw [hQ] at h2 hlk
    obtain ⟨gl, rfl⟩ := o3 (by omega)
    obtain ⟨⟨F1, F2, F3, F4⟩, hF⟩ : ∃ e, long.getD (f + Q) z0 = e := ⟨_, rfl⟩
    have hF' : long[f + Q]? = some (F1, F2, F3, F4) := by
      rw [List.getD_eq_getElem?_getD, List.getElem?_eq_getElem h2] at hF
      rw [List.getElem?_eq_getElem h2]
      exact congrArg some hF
    rw [hF] at hlk
    injection hlk with e1 e2
    subst e1 e2
    have c0 := OwnS.cell flatT HTW2.out.rl (f + Q) 0 _ hF' (by decide)
    have c1 := OwnS.cell flatT HTW2.out.rl (f + Q) 1 _ hF' (by decide)
    have c2 := OwnS.cell flatT HTW2.out.rl (f + Q) 2 _ hF' (by decide)
    have c3 := OwnS.cell flatT HTW2.out.rl (f + Q) 3 _ hF' (by decide)
    simp only [fT, List.getElem?_cons_zero, List.getElem?_cons_succ, Nat.add_zero] at c0 c1 c2 c3
    have t1 : W.cell? ⟨gt, 1, none⟩ = some (.int .i64 root) := cell_lit HTW2.out.tb 1 _ rfl
    have t2 : W.cell? ⟨gt, 2, none⟩ = some (.slice (some ⟨gl, 0, none⟩) N C) := cell_lit HTW2.out.tb 2 _ rfl
    have b0 : W.cell? ⟨gb, 0, none⟩ = some (.int .i32 0) := cell_lit HBX.out 0 _ rfl
    have b1 : W.cell? ⟨gb, 1, none⟩ = some (.int .i16 0) := cell_lit HBX.out 1 _ rfl
    have b2 : W.cell? ⟨gb, 2, none⟩ = some (.bool true) := cell_lit HBX.out 2 _ rfl
    have b3 : W.cell? ⟨gb, 3, none⟩ = some (.int .i32 f) := cell_lit HBX.out 3 _ rfl
    have f0 := free_in HBX.out 0
    have f1 := free_in HBX.out 1
    have f2 := free_in HBX.out 2
    have f3 := free_in HBX.out 3
    have hmr : min root 64 = root := by omega
    have hShr : (P : Int) / 2 ^ root = (Q : Int) := by
      have e1 : (2 : Int) ^ root = ((2 ^ root : Nat) : Int) := by simp
      rw [e1, HR.out, ← hQ]; simp
    obtain ⟨I, hI⟩ : ∃ I, f + Q = I := ⟨_, rfl⟩
    rw [hI] at c0 c1 c2 c3 h2
    have hQ15 : Q ≤ 32768 := by omega
    have hw1 : IntKind.i64.wrap (f : Int) = f := by rw [IntKind.wrap_i64]; omega
    have hw2 : IntKind.i64.wrap (Q : Int) = Q := by rw [IntKind.wrap_i64]; omega
    have hw3 : IntKind.i64.wrap ((f : Int) + (Q : Int)) = (I : Int) := by rw [IntKind.wrap_i64]; omega
    have hI0 : (0 : Int) ≤ (I : Int) := by omega
    have hI1 : (I : Int) < (N : Int) := by omega
    clear hI hQ hF hF' h3 o3 o1 o2 h2
    iterate 1 (first | go_values | go_skip | go_guarded | go_step | go_upon | go_back | (simp only [Int.not_lt, Int.not_le] at *; go_simp) | (go_values <;> (try go_simp)))
    go_wp2_with fail
    go_still_tail 18, (by kernel_rfl)
    clear hmr hShr hw1 hw2 hw3 hI0 hI1
    change wpList _ _ _ _ _ W.drew
    iterate 4 (first | go_values | go_skip | go_guarded | go_step | go_upon | go_back | (simp only [Int.not_lt, Int.not_le] at *; go_simp) | (go_values <;> (try go_simp)))
    obtain ⟨W2, hW2⟩ : ∃ W2, ((((W.setCell ⟨gb, 0, none⟩ (.int .i32 (sy : Int))).setCell ⟨gb, 1, none⟩ (.int .i16 (n : Int))).setCell ⟨gb, 2, none⟩ (.bool F3)).setCell ⟨gb, 3, none⟩ (.int .i32 F4)).drew = W2 := ⟨_, rfl⟩
    rw [hW2]
    have HBX := Lib.hid (show W2.heap[gb]? = some (.cells #[.int .i32 (sy : Int), .int .i16 (n : Int), .bool F3, .int .i32 F4] 168 (0, 0)) by
      rw [← hW2]
      exact block_set (block_set (block_set (block_set HBX.out 0 _) 1 _) 2 _) 3 _)
    have HB2 := Lib.hid (show Below w.heap.size w W2 by
      rw [← hW2]
      exact ((((HB2.out.setCell (p := ⟨gb, 0, none⟩) HGB.out _).setCell (p := ⟨gb, 1, none⟩) HGB.out _).setCell (p := ⟨gb, 2, none⟩) HGB.out _).setCell (p := ⟨gb, 3, none⟩) HGB.out _).drew)
    clear hW2 c0 c1 c2 c3 t1 t2 b0 b1 b2 b3 f0 f1 f2 f3
    have HFW := Lib.hid (fun B (h : Far w g B) => (show Far W2 g B from Far.kept h (HB2.out.block g (IsReader.lt HRD.out))))
    have b0 : W2.cell? ⟨gb, 0, none⟩ = some (.int .i32 sy) := cell_lit HBX.out 0 _ rfl
    have b1 : W2.cell? ⟨gb, 1, none⟩ = some (.int .i16 n) := cell_lit HBX.out 1 _ rfl
    have hr2 := HRD.out.kept HB2.out
    have htl := HRD.out.le
    have hn15 := HEL.out.1
    by_cases hn0 : n = 0
    · have hs0 := HEL.out.2.1 hn0
      subst hn0
      subst hs0
      have hx := HX.out
      rw [if_pos rfl] at hx
      injection hx with e1 e2
      injection e2 with e2 e3
      subst e1 e2 e3
      have HRR := Lib.hid hr2
      have HK := Lib.hid (show Keeps (fun j => j = g) w W2 from Keeps.of_below HB2.out)
      clear hr2
      go_wp2_with fail
      go_ret2
      exact ⟨rfl, HRR.out, HK.out, HFW.out⟩
    · have hx := HX.out
      rw [if_neg hn0] at hx
      have hnb : ((n : Int) == 0) = false := by rw [beq_eq_false_iff_ne]; omega
      have hwl := HWL.out
      by_cases hsh : ((spread s).drop t).length < n
      · rw [if_pos hsh] at hx
        injection hx with e1 e2
        injection e2 with e2 e3
        subst e1 e2 e3
        have CS := Lib.hid (rSkipUF W2 g t s (n : Int) hr2 t 0 3 (by unfold takeS; rw [if_neg (by omega), if_pos (by rw [Int.toNat_natCast]; omega)]))
        clear hr2 hsh hwl
        go_wp2_with fail
        refine CS.out.mono ?_; rintro e w6 ⟨rfl, hr6, hk6, hf6⟩
        have HFW6 := Lib.hid (fun B (h : Far w g B) => hf6 B (HFW.out B h))
        clear hf6
        have HRR := Lib.hid hr6
        have HK := Lib.hid ((show Keeps (fun j => j = g) w W2 from Keeps.of_below HB2.out).trans hk6)
        clear hr6 hk6
        go_wp2_with fail
        go_ret2
        exact ⟨rfl, HRR.out, HK.out, HFW6.out⟩
      · rw [if_neg hsh] at hx
        injection hx with e1 e2
        injection e2 with e2 e3
        subst e1 e2 e3
        have CS := Lib.hid (rSkipUF W2 g t s (n : Int) hr2 (t + n) (peek ((spread s).drop t) n) 0 (by unfold takeS; rw [if_neg (by omega), if_neg (by rw [Int.toNat_natCast]; omega), Int.toNat_natCast]))
        clear hr2 hsh hwl
        go_wp2_with fail
        refine CS.out.mono ?_; rintro e w6 ⟨rfl, hr6, hk6, hf6⟩
        have HFW6 := Lib.hid (fun B (h : Far w g B) => hf6 B (HFW.out B h))
        clear hf6
        have HRR := Lib.hid (show IsReader w6 g s (t + ((n : Nat) : Int).toNat) by rw [Int.toNat_natCast]; exact hr6)
        have HK := Lib.hid ((show Keeps (fun j => j = g) w W2 from Keeps.of_below HB2.out).trans hk6)
        have b0 := (hk6.heap HBX.out (by
          have := IsReader.lt HRD.out
          have := HGB.out
          show ¬ gb = g; omega))
        have b0 : w6.cell? ⟨gb, 0, none⟩ = some (.int .i32 sy) := cell_lit b0 0 _ rfl
        clear hr6 hk6
        go_wp2_with fail
        go_ret2
        exact ⟨rfl, HRR.out, HK.out, HFW6.out⟩
end Go.Proofs.YtipcdkemokkdfaaGreat
