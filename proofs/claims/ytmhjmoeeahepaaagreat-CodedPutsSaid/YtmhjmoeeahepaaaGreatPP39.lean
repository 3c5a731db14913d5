import Derived.Test.YtmhjmoeeahepaaaGreatPP38
import Derived.Test.YtmhjmoeeahepaaaGreatPP31
import Derived.Test.YtmhjmoeeahepaaaGreatPP34
import Derived.Test.YtmhjmoeeahepaaaGreatPP35
import Derived.WalkLawsBesides
/- Layer 27: a table's Next, by a reader whose bytes lie low. -/
namespace Go.Proofs.YtmhjmoeeahepaaaGreat
open Go.ChangeShapes Go.WideShapes Go.ChangeAt Go.RowKit Go.Lib
set_option linter.unusedVariables false
set_option linter.unusedSimpArgs false
set_option maxRecDepth 100000
open Two KraftMath CanonMath TurnMath Bits
set_option maxHeartbeats 6400000 in
theorem tNextF (w : World) (B gt gs g R root L N C : Nat) (ao : Option Addr) (l : List Int) (short long : List Ent) (hs : List Nat) (s : List UInt8) (t : Nat) (hr1 : 1 ≤ root) (hrL : root ≤ L) (hL : L ≤ 15) (hlen : ∀ s, s < l.length → len l s ≤ L) (hll : l.length ≤ 1024) (hR : 2 ^ root = R) (ht : IsT2 w B gt gs R root L (.slice ao N C) short long) (tw : Two l L root l.length short long hs) (hrd : IsReader w g s t) (X Y E : Int) (hX : nextL l L ((spread s).drop t) = (X, Y, E)) :
    Calls Tryz.prog 111 #[.pointer (some ⟨gt, 0, none⟩), .pointer (some ⟨g, 0, none⟩)] w fun e w' => e = .returned (.tuple #[.int .i64 X, .int .i64 E]) ∧ IsReader w' g s (t + Y.toNat) ∧ Keeps (fun j => j = g) w w' ∧ ∀ B, Far w g B → Far w' g B := by
  have hRp : 0 < R := by rw [← hR]; exact Nat.pow_pos (by decide)
  have hR15 : R ≤ 32768 := by rw [← hR]; exact Nat.le_trans (Nat.pow_le_pow_right (by decide) (show root ≤ 15 by omega)) (by decide)
  obtain ⟨P, hP⟩ : ∃ P, peek ((spread s).drop t) L = P := ⟨_, rfl⟩
  have hPl := peek_lt ((spread s).drop t) L
  rw [hP] at hPl
  have hP15 : 2 ^ L ≤ 2 ^ 15 := Nat.pow_le_pow_right (by decide) hL
  have hel := ent_le2 (l := l) (L := L) (v := P) hlen
  have hlk := tw.lk P hPl
  have hin := two_in tw hrL hL P hPl
  unfold nextL at hX
  rw [hP] at hX
  have CP := Lib.hid (fun W h => rPeekU W g t s (L : Int) h P (by unfold peekS; rw [if_neg (by omega), Int.toNat_natCast, hP]))
  have hentK : entK l L l.length P = entB l L P := rfl
  rw [hentK] at hlk
  obtain ⟨⟨sy, n⟩, hent⟩ : ∃ q, entB l L P = q := ⟨_, rfl⟩
  rw [hent] at hel hX hlk
  simp only at hX hel hlk
  have hsy : sy ≤ 1024 := by have := hel.2.2; omega
  have hwl : (spread s).length - t = ((spread s).drop t).length := by rw [List.length_drop]
  rw [hR] at hin
  have hHR : P % R < R := Nat.mod_lt _ hRp
  have hls : short.length = R := by rw [tw.ls, hR]
  obtain ⟨⟨E1, E2, E3, E4⟩, hE⟩ : ∃ e, short.getD (P % R) z0 = e := ⟨_, rfl⟩
  have hE' : short[P % R]? = some (E1, E2, E3, E4) := by
    rw [List.getD_eq_getElem?_getD, List.getElem?_eq_getElem (by rw [hls]; exact hHR)] at hE
    rw [List.getElem?_eq_getElem (by rw [hls]; exact hHR)]
    exact congrArg some hE
  have CA := Lib.hid (fun W (h : IsT2 W B gt gs R root L (.slice ao N C) short long) => tAt W B gt gs R root L P (.slice ao N C) short long h hR (by omega) (by omega) E1 E2 E4 E3 hE')
  unfold Two.look at hlk
  simp only [hR] at hlk
  rw [hE] at hlk hin
  have HT := Lib.hid ht
  have t0 : w.cell? ⟨gt, 0, none⟩ = some (.slice (some ⟨gs, 0, none⟩) R R) := cell_lit ht.tb 0 _ rfl
  have t3 : w.cell? ⟨gt, 3, none⟩ = some (.int .i64 L) := cell_lit ht.tb 3 _ rfl
  have hRz : ((R : Int) == 0) = false := by rw [beq_eq_false_iff_ne]; omega
  have hRz2 : ¬ R = 0 := by omega
  have HRD := Lib.hid hrd; have HX := Lib.hid hX; have HWL := Lib.hid hwl; have HEL := Lib.hid hel; have HLK := Lib.hid hlk; have HIN := Lib.hid hin; have HR := Lib.hid hR; have HP15 := Lib.hid hP15; have HPL := Lib.hid hPl; have HTW := Lib.hid tw
  have HRP := Lib.hid hRp; have HR15 := Lib.hid hR15
  clear ht hrd hX hwl hent hel hP hlk hin hR hP15 hPl tw hE hE' hHR hls hentK hlen hRp hR15
  go_enter Tryz.func111, Tryz.ntmps111
  go_wp2_with fail
  refine (CP.out _ HRD.out).mono ?_; rintro e w1 ⟨rfl, hb1⟩
  have HT1 := Lib.hid (HT.out.kept hb1)
  have HB1 := Lib.hid hb1
  clear hb1 CP t0 t3 hRz hRz2
  go_wp2_with fail
  refine (CA.out _ HT1.out).mono ?_; rintro e w2 ⟨rfl, hb2⟩
  have HT2 := Lib.hid (HT1.out.kept hb2)
  have HB2 := Lib.hid (HB1.out.trans (hb2.mono HB1.out.size))
  have HB2r := Lib.hid (show w.heap.size ≤ w2.heap.size from HB2.out.size)
  clear hb2 CA
  iterate 12 (first | go_values | go_skip | go_guarded | go_step | go_upon | go_back | (simp only [Int.not_lt, Int.not_le] at *; go_simp) | (go_values <;> (try go_simp)))
  obtain ⟨gb, hgb⟩ : ∃ gb, w2.heap.size = gb := ⟨_, rfl⟩
  obtain ⟨W, hW⟩ : ∃ W, w2.alloc (.cells #[.int .i32 E1, .int .i16 E2, .bool E3, .int .i32 E4] 154) = W := ⟨_, rfl⟩
  have HBX := Lib.hid (show W.heap[gb]? = some (.cells #[.int .i32 E1, .int .i16 E2, .bool E3, .int .i32 E4] 154 (0, 0)) by rw [← hW, ← hgb]; exact heap_alloc_new _ _)
  have HTW2 := Lib.hid (show IsT2 W B gt gs R root L (.slice ao N C) short long by rw [← hW]; exact HT2.out.kept ((Below.refl _ _).alloc (Nat.le_refl _) _))
  have HB2 := Lib.hid (show Below w.heap.size w W by rw [← hW]; exact HB2.out.alloc HB2.out.size _)
  have HGB := Lib.hid (show w.heap.size ≤ gb by rw [← hgb]; exact HB2r.out)
  rw [hgb, hW]
  clear hgb hW HT2 HT1 HB1
  cases E3 with
  | false =>
    have hlk := HLK.out
    simp only [Bool.false_eq_true, if_false] at hlk
    injection hlk with e1 e2
    subst e1 e2
    have b2 : W.cell? ⟨gb, 2, none⟩ = some (.bool false) := cell_lit HBX.out 2 _ rfl
    have HFW := Lib.hid (fun B (h : Far w g B) => (show Far W g B from Far.kept h (HB2.out.block g (IsReader.lt HRD.out))))
    have b0 : W.cell? ⟨gb, 0, none⟩ = some (.int .i32 sy) := cell_lit HBX.out 0 _ rfl
    have b1 : W.cell? ⟨gb, 1, none⟩ = some (.int .i16 n) := cell_lit HBX.out 1 _ rfl
    have hr2 := HRD.out.kept HB2.out
    have htl := HRD.out.le
    have hn15 := HEL.out.1
    by_cases hn0 : n = 0
    · have hs0 := HEL.out.2.1 hn0
      subst hn0
      subst hs0
      have hx := HX.out
      rw [if_pos rfl] at hx
      injection hx with e1 e2
      injection e2 with e2 e3
      subst e1 e2 e3
      have HRR := Lib.hid hr2
      have HK := Lib.hid (show Keeps (fun j => j = g) w W from Keeps.of_below HB2.out)
      clear hr2
      go_wp2_with fail
      go_ret2
      exact ⟨rfl, HRR.out, HK.out, HFW.out⟩
    · have hx := HX.out
      rw [if_neg hn0] at hx
      have hnb : ((n : Int) == 0) = false := by rw [beq_eq_false_iff_ne]; omega
      have hwl := HWL.out
      by_cases hsh : ((spread s).drop t).length < n
      · rw [if_pos hsh] at hx
        injection hx with e1 e2
        injection e2 with e2 e3
        subst e1 e2 e3
        have CS := Lib.hid (rSkipUF W g t s (n : Int) hr2 t 0 3 (by unfold takeS; rw [if_neg (by omega), if_pos (by rw [Int.toNat_natCast]; omega)]))
        clear hr2 hsh hwl
        go_wp2_with fail
        refine CS.out.mono ?_; rintro e w6 ⟨rfl, hr6, hk6, hf6⟩
        have HFW6 := Lib.hid (fun B (h : Far w g B) => hf6 B (HFW.out B h))
        clear hf6
        have HRR := Lib.hid hr6
        have HK := Lib.hid ((show Keeps (fun j => j = g) w W from Keeps.of_below HB2.out).trans hk6)
        clear hr6 hk6
        go_wp2_with fail
        go_ret2
        exact ⟨rfl, HRR.out, HK.out, HFW6.out⟩
      · rw [if_neg hsh] at hx
        injection hx with e1 e2
        injection e2 with e2 e3
        subst e1 e2 e3
        have CS := Lib.hid (rSkipUF W g t s (n : Int) hr2 (t + n) (peek ((spread s).drop t) n) 0 (by unfold takeS; rw [if_neg (by omega), if_neg (by rw [Int.toNat_natCast]; omega), Int.toNat_natCast]))
        clear hr2 hsh hwl
        go_wp2_with fail
        refine CS.out.mono ?_; rintro e w6 ⟨rfl, hr6, hk6, hf6⟩
        have HFW6 := Lib.hid (fun B (h : Far w g B) => hf6 B (HFW.out B h))
        clear hf6
        have HRR := Lib.hid (show IsReader w6 g s (t + ((n : Nat) : Int).toNat) by rw [Int.toNat_natCast]; exact hr6)
        have HK := Lib.hid ((show Keeps (fun j => j = g) w W from Keeps.of_below HB2.out).trans hk6)
        have b0 := (hk6.heap HBX.out (by
          have := IsReader.lt HRD.out
          have := HGB.out
          show ¬ gb = g; omega))
        have b0 : w6.cell? ⟨gb, 0, none⟩ = some (.int .i32 sy) := cell_lit b0 0 _ rfl
        clear hr6 hk6
        go_wp2_with fail
        go_ret2
        exact ⟨rfl, HRR.out, HK.out, HFW6.out⟩
  | true =>
    obtain ⟨f, h1, h2, h3⟩ := HIN.out rfl
    injection h1 with e1 e2
    injection e2 with e2 e3
    injection e3 with e3 e4
    subst e1 e2 e4
    have hlk := HLK.out
    simp only [if_true, Int.toNat_natCast] at hlk
    obtain ⟨o1, o2, o3⟩ := own_slice4 HTW2.out.rl
    obtain ⟨Q, hQ⟩ : ∃ Q, P / R = Q := ⟨_, rfl⟩
    rw [hQ] at h2 hlk
    obtain ⟨gl, rfl⟩ := o3 (by omega)
    obtain ⟨⟨F1, F2, F3, F4⟩, hF⟩ : ∃ e, long.getD (f + Q) z0 = e := ⟨_, rfl⟩
    have hF' : long[f + Q]? = some (F1, F2, F3, F4) := by
      rw [List.getD_eq_getElem?_getD, List.getElem?_eq_getElem h2] at hF
      rw [List.getElem?_eq_getElem h2]
      exact congrArg some hF
    rw [hF] at hlk
    injection hlk with e1 e2
    subst e1 e2
    have c0 := OwnS.cell flatT HTW2.out.rl (f + Q) 0 _ hF' (by decide)
    have c1 := OwnS.cell flatT HTW2.out.rl (f + Q) 1 _ hF' (by decide)
    have c2 := OwnS.cell flatT HTW2.out.rl (f + Q) 2 _ hF' (by decide)
    have c3 := OwnS.cell flatT HTW2.out.rl (f + Q) 3 _ hF' (by decide)
    simp only [fT, List.getElem?_cons_zero, List.getElem?_cons_succ, Nat.add_zero] at c0 c1 c2 c3
    have t1 : W.cell? ⟨gt, 1, none⟩ = some (.int .i64 root) := cell_lit HTW2.out.tb 1 _ rfl
    have t2 : W.cell? ⟨gt, 2, none⟩ = some (.slice (some ⟨gl, 0, none⟩) N C) := cell_lit HTW2.out.tb 2 _ rfl
    have b0 : W.cell? ⟨gb, 0, none⟩ = some (.int .i32 0) := cell_lit HBX.out 0 _ rfl
    have b1 : W.cell? ⟨gb, 1, none⟩ = some (.int .i16 0) := cell_lit HBX.out 1 _ rfl
    have b2 : W.cell? ⟨gb, 2, none⟩ = some (.bool true) := cell_lit HBX.out 2 _ rfl
    have b3 : W.cell? ⟨gb, 3, none⟩ = some (.int .i32 f) := cell_lit HBX.out 3 _ rfl
    have f0 := free_in HBX.out 0
    have f1 := free_in HBX.out 1
    have f2 := free_in HBX.out 2
    have f3 := free_in HBX.out 3
    have hmr : min root 64 = root := by omega
    have hShr : (P : Int) / 2 ^ root = (Q : Int) := by
      have e1 : (2 : Int) ^ root = ((2 ^ root : Nat) : Int) := by simp
      rw [e1, HR.out, ← hQ]; simp
    obtain ⟨I, hI⟩ : ∃ I, f + Q = I := ⟨_, rfl⟩
    rw [hI] at c0 c1 c2 c3 h2
    have hQ15 : Q ≤ 32768 := by omega
    have hw1 : IntKind.i64.wrap (f : Int) = f := by rw [IntKind.wrap_i64]; omega
    have hw2 : IntKind.i64.wrap (Q : Int) = Q := by rw [IntKind.wrap_i64]; omega
    have hw3 : IntKind.i64.wrap ((f : Int) + (Q : Int)) = (I : Int) := by rw [IntKind.wrap_i64]; omega
    have hI0 : (0 : Int) ≤ (I : Int) := by omega
    have hI1 : (I : Int) < (N : Int) := by omega
    clear hI hQ hF hF' h3 o3 o1 o2 h2
    iterate 1 (first | go_values | go_skip | go_guarded | go_step | go_upon | go_back | (simp only [Int.not_lt, Int.not_le] at *; go_simp) | (go_values <;> (try go_simp)))
    go_wp2_with fail
    go_still_tail 18, (by kernel_rfl)
    clear hmr hShr hw1 hw2 hw3 hI0 hI1
    change wpList _ _ _ _ _ W.drew
    iterate 4 (first | go_values | go_skip | go_guarded | go_step | go_upon | go_back | (simp only [Int.not_lt, Int.not_le] at *; go_simp) | (go_values <;> (try go_simp)))
    obtain ⟨W2, hW2⟩ : ∃ W2, ((((W.setCell ⟨gb, 0, none⟩ (.int .i32 (sy : Int))).setCell ⟨gb, 1, none⟩ (.int .i16 (n : Int))).setCell ⟨gb, 2, none⟩ (.bool F3)).setCell ⟨gb, 3, none⟩ (.int .i32 F4)).drew = W2 := ⟨_, rfl⟩
    rw [hW2]
    have HBX := Lib.hid (show W2.heap[gb]? = some (.cells #[.int .i32 (sy : Int), .int .i16 (n : Int), .bool F3, .int .i32 F4] 154 (0, 0)) by
      rw [← hW2]
      exact block_set (block_set (block_set (block_set HBX.out 0 _) 1 _) 2 _) 3 _)
    have HB2 := Lib.hid (show Below w.heap.size w W2 by
      rw [← hW2]
      exact ((((HB2.out.setCell (p := ⟨gb, 0, none⟩) HGB.out _).setCell (p := ⟨gb, 1, none⟩) HGB.out _).setCell (p := ⟨gb, 2, none⟩) HGB.out _).setCell (p := ⟨gb, 3, none⟩) HGB.out _).drew)
    clear hW2 c0 c1 c2 c3 t1 t2 b0 b1 b2 b3 f0 f1 f2 f3
    have HFW := Lib.hid (fun B (h : Far w g B) => (show Far W2 g B from Far.kept h (HB2.out.block g (IsReader.lt HRD.out))))
    have b0 : W2.cell? ⟨gb, 0, none⟩ = some (.int .i32 sy) := cell_lit HBX.out 0 _ rfl
    have b1 : W2.cell? ⟨gb, 1, none⟩ = some (.int .i16 n) := cell_lit HBX.out 1 _ rfl
    have hr2 := HRD.out.kept HB2.out
    have htl := HRD.out.le
    have hn15 := HEL.out.1
    by_cases hn0 : n = 0
    · have hs0 := HEL.out.2.1 hn0
      subst hn0
      subst hs0
      have hx := HX.out
      rw [if_pos rfl] at hx
      injection hx with e1 e2
      injection e2 with e2 e3
      subst e1 e2 e3
      have HRR := Lib.hid hr2
      have HK := Lib.hid (show Keeps (fun j => j = g) w W2 from Keeps.of_below HB2.out)
      clear hr2
      go_wp2_with fail
      go_ret2
      exact ⟨rfl, HRR.out, HK.out, HFW.out⟩
    · have hx := HX.out
      rw [if_neg hn0] at hx
      have hnb : ((n : Int) == 0) = false := by rw [beq_eq_false_iff_ne]; omega
      have hwl := HWL.out
      by_cases hsh : ((spread s).drop t).length < n
      · rw [if_pos hsh] at hx
        injection hx with e1 e2
        injection e2 with e2 e3
        subst e1 e2 e3
        have CS := Lib.hid (rSkipUF W2 g t s (n : Int) hr2 t 0 3 (by unfold takeS; rw [if_neg (by omega), if_pos (by rw [Int.toNat_natCast]; omega)]))
        clear hr2 hsh hwl
        go_wp2_with fail
        refine CS.out.mono ?_; rintro e w6 ⟨rfl, hr6, hk6, hf6⟩
        have HFW6 := Lib.hid (fun B (h : Far w g B) => hf6 B (HFW.out B h))
        clear hf6
        have HRR := Lib.hid hr6
        have HK := Lib.hid ((show Keeps (fun j => j = g) w W2 from Keeps.of_below HB2.out).trans hk6)
        clear hr6 hk6
        go_wp2_with fail
        go_ret2
        exact ⟨rfl, HRR.out, HK.out, HFW6.out⟩
      · rw [if_neg hsh] at hx
        injection hx with e1 e2
        injection e2 with e2 e3
        subst e1 e2 e3
        have CS := Lib.hid (rSkipUF W2 g t s (n : Int) hr2 (t + n) (peek ((spread s).drop t) n) 0 (by unfold takeS; rw [if_neg (by omega), if_neg (by rw [Int.toNat_natCast]; omega), Int.toNat_natCast]))
        clear hr2 hsh hwl
        go_wp2_with fail
        refine CS.out.mono ?_; rintro e w6 ⟨rfl, hr6, hk6, hf6⟩
        have HFW6 := Lib.hid (fun B (h : Far w g B) => hf6 B (HFW.out B h))
        clear hf6
        have HRR := Lib.hid (show IsReader w6 g s (t + ((n : Nat) : Int).toNat) by rw [Int.toNat_natCast]; exact hr6)
        have HK := Lib.hid ((show Keeps (fun j => j = g) w W2 from Keeps.of_below HB2.out).trans hk6)
        have b0 := (hk6.heap HBX.out (by
          have := IsReader.lt HRD.out
          have := HGB.out
          show ¬ gb = g; omega))
        have b0 : w6.cell? ⟨gb, 0, none⟩ = some (.int .i32 sy) := cell_lit b0 0 _ rfl
        clear hr6 hk6
        go_wp2_with fail
        go_ret2
        exact ⟨rfl, HRR.out, HK.out, HFW6.out⟩
end Go.Proofs.YtmhjmoeeahepaaaGreat

/- Layer 27: reading: leaves. -/
namespace Go.Proofs.YtmhjmoeeahepaaaGreat
open Go.ChangeShapes Go.WideShapes Go.ChangeAt Go.RowKit
set_option linter.unusedVariables false
set_option linter.unusedSimpArgs false
set_option maxRecDepth 100000
open Bits hiding packF pack_length
open RunsMath KraftMath CanonMath TurnMath Pm Two
/-- A fault that is told by a panic. -/
def flt27 (E : Int) : PanicEntry := { v := .iface 94 (.agg #[.int .i64 E]), recovered := false }
def musE (E : Int) : Int := if E = 3 then 3 else 4
set_option maxHeartbeats 1600000 in
theorem m27Ok (w : World) : Calls Tryz.prog 60 #[.int .i64 0] w fun e w' => e = .returned (.tuple #[]) ∧ w' = w := by
  go_enter Tryz.func60, Tryz.ntmps60
  go_wp2_with fail
  go_end0
  exact ⟨rfl, rfl⟩
set_option maxHeartbeats 1600000 in
theorem m27No (E : Int) (hE : E ≠ 0) (w : World) : Calls Tryz.prog 60 #[.int .i64 E] w fun e w' => e = .panicked [flt27 (musE E)] ∧ w' = w := by
  have hb : (E == 0) = false := by rw [beq_eq_false_iff_ne]; exact hE
  by_cases h3 : E = 3
  · subst h3
    go_enter Tryz.func60, Tryz.ntmps60
    go_wp2_with fail
    exact ⟨rfl, rfl, rfl⟩
  · have hb3 : (E == 3) = false := by rw [beq_eq_false_iff_ne]; exact h3
    have hm : musE E = 4 := if_neg h3
    rw [hm]
    clear hE h3 hm
    go_enter Tryz.func60, Tryz.ntmps60
    go_wp2_with fail
    exact ⟨rfl, rfl, rfl⟩
theorem tf27_hit (E : Int) (w : World) : (Instr.typeAssert (.iface 94 (.agg #[.int .i64 E])) 20 94 true).run Tryz.prog w = .ok (.tuple #[.agg #[.int .i64 E], .bool true]) w := by
  simp [Instr.typeAssert, run_underlying Tryz.underlying94]
set_option maxHeartbeats 1600000 in
theorem t27Told (E : Int) (w : World) : Calls Tryz.prog 31 #[.iface 94 (.agg #[.int .i64 E])] w fun e w' => e = .returned (.int .i64 E) ∧ Below w.heap.size w w' := by
  have t0 := fun W => tf27_hit E W
  go_enter Tryz.func31, Tryz.ntmps31
  go_wp2_with fail
  go_ret
  exact ⟨rfl, (Below.refl _ _).alloc (Nat.le_refl _) _⟩
set_option maxHeartbeats 1600000 in
theorem rdTakeIn (w : World) (gr g a n : Nat) (s : List UInt8) (hp : w.cell? ⟨gr, 0, none⟩ = some (.pointer (some ⟨g, 0, none⟩))) (h : IsReader w g s a) (hn : n ≤ 56) (hf : a + n ≤ 8 * s.length) : Calls Tryz.prog 57 #[.pointer (some ⟨gr, 0, none⟩), .int .i64 n] w fun e w' =>
    e = .returned (.int .i64 (peek ((spread s).drop a) n : Nat)) ∧ IsReader w' g s (a + n) ∧ Keeps (fun k => k = g) w w' ∧ ∀ B, Far w g B → Far w' g B := by
  have C := Lib.hid (rTakeInF w g a n s h hn hf)
  have hpl := peek_lt ((spread s).drop a) n
  have h56 : (2:Nat) ^ n ≤ 2 ^ 56 := Nat.pow_le_pow_right (by decide) hn
  obtain ⟨K, hK⟩ : ∃ K, peek ((spread s).drop a) n = K := ⟨_, rfl⟩
  rw [hK] at C hpl ⊢
  have hwK : IntKind.i64.wrap (K : Int) = K := by rw [IntKind.wrap_i64]; omega
  have CM := Lib.hid m27Ok
  clear hK h56 hpl h
  go_enter Tryz.func57, Tryz.ntmps57
  go_wp2_with fail
  refine C.out.mono ?_; rintro e w1 ⟨rfl, h1, k1, z1, hF⟩
  go_wp2_with fail
  refine (CM.out _).mono ?_; rintro e w2 ⟨rfl, rfl⟩
  go_wp2_with fail
  go_ret
  exact ⟨rfl, h1, k1, hF⟩
set_option maxHeartbeats 1600000 in
theorem rdTakeOut (w : World) (gr g a n : Nat) (s : List UInt8) (hp : w.cell? ⟨gr, 0, none⟩ = some (.pointer (some ⟨g, 0, none⟩))) (h : IsReader w g s a) (hn : n ≤ 56) (hf : 8 * s.length < a + n) : Calls Tryz.prog 57 #[.pointer (some ⟨gr, 0, none⟩), .int .i64 n] w fun e w' =>
    e = .panicked [flt27 3] ∧ Keeps (fun k => k = g) w w' := by
  have C := Lib.hid (rTakeOut w (some ⟨g, 0, none⟩) n 3 (Lib.hid (rMayShort w g a n s h hn hf)) (by decide))
  have CM := Lib.hid (fun W => m27No 3 (by decide) W)
  clear h hf
  go_enter Tryz.func57, Tryz.ntmps57
  go_wp2_with fail
  refine C.out.mono ?_; rintro e w1 ⟨rfl, k, rfl⟩
  go_wp2_with fail
  refine (CM.out _).mono ?_; rintro e w2 ⟨rfl, rfl⟩
  go_wp2_with fail
  exact ⟨rfl, rfl, (Keeps.refl _ _).drewN _⟩
/-- A table of codes that lies outside S. -/
def T27 (w : World) (S : Nat → Prop) (gt : Nat) (l : List Int) : Prop := ∃ B gs R root N C ao short long hs,
  (IsT2 w B gt gs R root 15 (.slice ao N C) short long ∧ Two l 15 root l.length short long hs) ∧ (1 ≤ root ∧ root ≤ 15 ∧ 2 ^ root = R) ∧ (¬ S gt ∧ ¬ S gs ∧ ∀ k, (Value.slice ao N C).ownBlock = some k → ¬ S k) ∧ (∀ s, s < l.length → len l s ≤ 15) ∧ l.length ≤ 1024
theorem T27.keeps {w w' : World} {S : Nat → Prop} {gt : Nat} {l : List Int} (h : T27 w S gt l) (hk : Keeps S w w') : T27 w' S gt l := by
  obtain ⟨B, gs, R, root, N, C, ao, short, long, hs, ⟨h1, h2⟩, h3, ⟨h4, h5, h6⟩, h7⟩ := h
  refine ⟨B, gs, R, root, N, C, ao, short, long, hs, ⟨⟨hk.heap h1.tb h4, hk.ownsRow h1.rs ?_, hk.ownsRow h1.rl h6, h1.sl⟩, h2⟩, h3, ⟨h4, h5, h6⟩, h7⟩
  intro k e
  have e' : gs = k := by simpa [Value.ownBlock] using e
  rwa [← e']
theorem T27.next (w : World) (S : Nat → Prop) (gt g : Nat) (l : List Int) (s : List UInt8) (t : Nat) (h : T27 w S gt l) (hr : IsReader w g s t) (X Y E : Int) (hX : nextL l 15 ((spread s).drop t) = (X, Y, E)) :
    Calls Tryz.prog 111 #[.pointer (some ⟨gt, 0, none⟩), .pointer (some ⟨g, 0, none⟩)] w fun e w' => e = .returned (.tuple #[.int .i64 X, .int .i64 E]) ∧ IsReader w' g s (t + Y.toNat) ∧ Keeps (fun j => j = g) w w' ∧ ∀ B, Far w g B → Far w' g B := by
  obtain ⟨B, gs, R, root, N, C, ao, short, long, hs, ⟨h1, h2⟩, ⟨h3, h4, h5⟩, -, h7, h8⟩ := h
  exact tNextF w B gt gs g R root 15 N C ao l short long hs s t h3 h4 (by decide) h7 h8 h5 h1 h2 hr X Y E hX
set_option maxHeartbeats 1600000 in
theorem nx27Ok (w : World) (S : Nat → Prop) (gr gt g : Nat) (l : List Int) (s : List UInt8) (t : Nat) (hp : w.cell? ⟨gr, 0, none⟩ = some (.pointer (some ⟨g, 0, none⟩))) (h : T27 w S gt l) (hr : IsReader w g s t) (X Y : Int) (hX : nextL l 15 ((spread s).drop t) = (X, Y, 0)) :
    Calls Tryz.prog 84 #[.pointer (some ⟨gr, 0, none⟩), .pointer (some ⟨gt, 0, none⟩)] w fun e w' => e = .returned (.int .i64 X) ∧ IsReader w' g s (t + Y.toNat) ∧ Keeps (fun j => j = g) w w' ∧ ∀ B, Far w g B → Far w' g B := by
  have C := Lib.hid (h.next w S gt g l s t hr X Y 0 hX)
  have CM := Lib.hid m27Ok
  clear h hr hX
  go_enter Tryz.func84, Tryz.ntmps84
  go_wp2_with fail
  refine C.out.mono ?_; rintro e w1 ⟨rfl, h1, k1, hF⟩
  go_wp2_with fail
  refine (CM.out _).mono ?_; rintro e w2 ⟨rfl, rfl⟩
  go_wp2_with fail
  go_ret
  exact ⟨rfl, h1, k1, hF⟩
set_option maxHeartbeats 1600000 in
theorem nx27No (w : World) (S : Nat → Prop) (gr gt g : Nat) (l : List Int) (s : List UInt8) (t : Nat) (hp : w.cell? ⟨gr, 0, none⟩ = some (.pointer (some ⟨g, 0, none⟩))) (h : T27 w S gt l) (hr : IsReader w g s t) (X Y E : Int) (hX : nextL l 15 ((spread s).drop t) = (X, Y, E)) (hE : E ≠ 0) :
    Calls Tryz.prog 84 #[.pointer (some ⟨gr, 0, none⟩), .pointer (some ⟨gt, 0, none⟩)] w fun e w' => e = .panicked [flt27 (musE E)] ∧ Keeps (fun j => j = g) w w' := by
  have C := Lib.hid (h.next w S gt g l s t hr X Y E hX)
  have CM := Lib.hid (fun W => m27No E hE W)
  clear h hr hX
  go_enter Tryz.func84, Tryz.ntmps84
  go_wp2_with fail
  refine C.out.mono ?_; rintro e w1 ⟨rfl, h1, k1, hF⟩
  go_wp2_with fail
  refine (CM.out _).mono ?_; rintro e w2 ⟨rfl, rfl⟩
  go_wp2_with fail
  exact ⟨rfl, rfl, k1⟩
/-- Slots begin where they begin. -/
theorem slotL_first : ∀ s : Fin 29, Tok.slotL (Tok.tbL s.val) = s.val ∧ 2 ≤ Tok.tbL s.val ∧ Tok.tbL s.val ≤ 258 ∧ 0 < Slo.wideL s.val := by decide +kernel
theorem tb_same : ∀ k, Slo.tbL k = Tok.tbL k
  | 0 => rfl
  | k + 1 => by show Slo.tbL k + 2 ^ Slo.exL k = Tok.tbL k + 2 ^ Tok.exL k; rw [tb_same k]; rfl
set_option maxHeartbeats 1600000 in
theorem lBits27 (k : Nat) (hk : k ≤ 28) (w : World) : Calls Tryz.prog 86 #[.int .i64 k] w fun e w' => e = .returned (.int .i64 (Tok.exL k)) ∧ Below w.heap.size w w' := by
  obtain ⟨f1, f2, f3, f4⟩ := slotL_first ⟨k, by omega⟩
  simp only at f1 f2 f3 f4
  have C1 := Lib.hid (fun W => Slo.LenOf_in k 0 hk W)
  rw [if_pos ⟨by decide, by omega⟩, if_pos ⟨by decide, by omega⟩] at C1
  have C2 := Lib.hid (fun W => Tok.Len_in (Tok.tbL k) f2 f3 W)
  rw [f1] at C2
  have e1 : ((Slo.tbL k : Nat) : Int) + 0 = ((Tok.tbL k : Nat) : Int) := by
    rw [Int.add_zero, tb_same]
  rw [e1] at C1
  obtain ⟨T, hT⟩ : ∃ T, Tok.tbL k = T := ⟨_, rfl⟩
  obtain ⟨X, hX⟩ : ∃ X, Tok.exL k = X := ⟨_, rfl⟩
  rw [hT] at C1 C2
  rw [hX] at C2 ⊢
  clear f1 f2 f3 f4 e1 hT hX
  go_enter Tryz.func86, Tryz.ntmps86
  go_wp2_with fail
  refine (C1.out _).mono ?_; rintro e w1 ⟨rfl, hb1⟩
  go_wp2_with fail
  refine (C2.out _).mono ?_; rintro e w2 ⟨rfl, hb2⟩
  have HB := Lib.hid (hb1.trans (hb2.mono hb1.size))
  clear hb1 hb2
  go_wp2_with fail
  go_ret
  exact ⟨rfl, HB.out⟩
theorem slotD_first : ∀ s : Fin 52, Slo.slotD (Slo.tbD s.val) = s.val ∧ 1 ≤ Slo.tbD s.val ∧ Slo.tbD s.val ≤ 67108864 ∧ 0 < Slo.wideD s.val := by decide +kernel
set_option maxHeartbeats 1600000 in
theorem dBits27 (k : Nat) (hk : k ≤ 51) (w : World) : Calls Tryz.prog 88 #[.int .i64 k] w fun e w' => e = .returned (.int .i64 (Slo.exD k)) ∧ Below w.heap.size w w' := by
  obtain ⟨f1, f2, f3, f4⟩ := slotD_first ⟨k, by omega⟩
  simp only at f1 f2 f3 f4
  have C1 := Lib.hid (fun W => Slo.DistOf_in k 0 hk W)
  rw [if_pos ⟨by decide, by omega⟩, if_pos ⟨by decide, by omega⟩] at C1
  have C2 := Lib.hid (fun W => Slo.Dist_in (Slo.tbD k) f2 f3 W)
  rw [f1] at C2
  have e1 : ((Slo.tbD k : Nat) : Int) + 0 = ((Slo.tbD k : Nat) : Int) := by
    rw [Int.add_zero]
  rw [e1] at C1
  obtain ⟨T, hT⟩ : ∃ T, Slo.tbD k = T := ⟨_, rfl⟩
  obtain ⟨X, hX⟩ : ∃ X, Slo.exD k = X := ⟨_, rfl⟩
  rw [hT] at C1 C2
  rw [hX] at C2 ⊢
  clear f1 f2 f3 f4 e1 hT hX
  go_enter Tryz.func88, Tryz.ntmps88
  go_wp2_with fail
  refine (C1.out _).mono ?_; rintro e w1 ⟨rfl, hb1⟩
  go_wp2_with fail
  refine (C2.out _).mono ?_; rintro e w2 ⟨rfl, hb2⟩
  have HB := Lib.hid (hb1.trans (hb2.mono hb1.size))
  clear hb1 hb2
  go_wp2_with fail
  go_ret
  exact ⟨rfl, HB.out⟩
/-- What extra bits and a slot tell. -/
inductive NR where
  | bad (E : Int)
  | good (n t : Nat)
def numR (ex tb wide : Nat → Nat) (L : List Bool) (t k : Nat) : NR :=
  if L.length < t + ex k then .bad 3 else if peek (L.drop t) (ex k) < wide k then .good (tb k + peek (L.drop t) (ex k)) (t + ex k) else .bad 4
def numL := numR Tok.exL Slo.tbL Slo.wideL
def numD := numR Slo.exD Slo.tbD Slo.wideD
/-- How a number's reading ends. -/
def EndN (R : NR) (w0 : World) (g : Nat) (s : List UInt8) (e : Ending) (w' : World) : Prop :=
  match R with
  | .bad E => e = .panicked [flt27 E] ∧ Keeps (fun k => k = g) w0 w'
  | .good n t => e = .returned (.int .i64 n) ∧ IsReader w' g s t ∧ Keeps (fun k => k = g) w0 w' ∧ ∀ B, Far w0 g B → Far w' g B
set_option maxHeartbeats 3200000 in
theorem num27L (w : World) (gr g t k : Nat) (s : List UInt8) (hp : w.cell? ⟨gr, 0, none⟩ = some (.pointer (some ⟨g, 0, none⟩))) (hg : gr ≠ g) (h : IsReader w g s t) (hk : k ≤ 28) : Calls Tryz.prog 85 #[.pointer (some ⟨gr, 0, none⟩), .int .i64 k, .func (Fn.func 86) #[] #[], .func (Fn.func 87) #[] #[]] w (EndN (numL (spread s) t k) w g s) := by
  unfold numL
  unfold numR
  have C1 := Lib.hid (fun W => lBits27 k hk W)
  have hx30 : Tok.exL k ≤ 56 := (show ∀ s : Fin 29, Tok.exL s.val ≤ 56 by decide +kernel) ⟨k, by omega⟩
  by_cases hf : 8 * s.length < t + Tok.exL k
  · rw [if_pos (by rw [spread_length]; exact hf)]
    have CT := Lib.hid (fun W (h1 : W.cell? ⟨gr, 0, none⟩ = some (.pointer (some ⟨g, 0, none⟩))) (h2 : IsReader W g s t) => rdTakeOut W gr g t (Tok.exL k) s h1 h2 hx30 hf)
    obtain ⟨X, hX⟩ : ∃ X, Tok.exL k = X := ⟨_, rfl⟩
    rw [hX] at C1 CT
    have HR := Lib.hid h
    have hgr := cell_block hp
    clear hX hf h hx30 hg
    go_enter Tryz.func85, Tryz.ntmps85
    go_wp2_with fail
    refine (C1.out _).mono ?_; rintro e w1 ⟨rfl, hb1⟩
    have hp1 := (hb1.cell (p := ⟨gr, 0, none⟩) hgr).trans hp
    have HB := Lib.hid hb1
    have C2 := Lib.hid (CT.out w1 hp1 (HR.out.kept hb1))
    clear hb1 hp1
    go_wp2_with fail
    refine C2.out.mono ?_; rintro e w2 ⟨rfl, hk2⟩
    have HK := Lib.hid ((show Keeps (fun j => j = g) w w1 from Keeps.of_below HB.out).trans hk2)
    clear hk2 HB
    go_wp2_with fail
    exact ⟨rfl, rfl, HK.out⟩
  · rw [if_neg (by rw [spread_length]; exact hf)]
    have CT := Lib.hid (fun W (h1 : W.cell? ⟨gr, 0, none⟩ = some (.pointer (some ⟨g, 0, none⟩))) (h2 : IsReader W g s t) => rdTakeIn W gr g t (Tok.exL k) s h1 h2 hx30 (by omega))
    obtain ⟨V, hV⟩ : ∃ V, peek ((spread s).drop t) (Tok.exL k) = V := ⟨_, rfl⟩
    rw [hV] at CT ⊢
    have CO := Lib.hid (fun W => Slo.LenOf_in k V hk W)
    obtain ⟨X, hX⟩ : ∃ X, Tok.exL k = X := ⟨_, rfl⟩
    rw [hX] at C1 CT ⊢
    have HR := Lib.hid h
    have hgr := cell_block hp
    have hgl : g < w.heap.size := h.lt
    have HFW := Lib.hid (fun B W (hb : Below w.heap.size w W) (hF : Far w g B) => Far.kept hF (hb.block g hgl))
    clear hX hf h hx30 hV
    by_cases hv : V < Slo.wideL k
    · rw [if_pos hv]
      rw [if_pos (by omega), if_pos (by omega)] at CO
      obtain ⟨T, hT⟩ : ∃ T, Slo.tbL k = T := ⟨_, rfl⟩
      rw [hT] at CO ⊢
      have CM := Lib.hid m27Ok
      clear hv hT hg
      go_enter Tryz.func85, Tryz.ntmps85
      go_wp2_with fail
      refine (C1.out _).mono ?_; rintro e w1 ⟨rfl, hb1⟩
      have hp1 := (hb1.cell (p := ⟨gr, 0, none⟩) hgr).trans hp
      have HB := Lib.hid hb1
      have C2 := Lib.hid (CT.out w1 hp1 (HR.out.kept hb1))
      clear hb1 hp1
      go_wp2_with fail
      refine C2.out.mono ?_; rintro e w2 ⟨rfl, hr2, hk2, hF2⟩
      have HK := Lib.hid ((show Keeps (fun j => j = g) w w1 from Keeps.of_below HB.out).trans hk2)
      have HF := Lib.hid (fun B (hF : Far w g B) => hF2 B (HFW.out B _ HB.out hF))
      have HR2 := Lib.hid hr2
      clear hr2 hk2 hF2 HB C2 C1 HR CT HFW
      go_wp2_with fail
      refine (CO.out _).mono ?_; rintro e w3 ⟨rfl, hb3⟩
      have HK3 := Lib.hid (HK.out.trans (show Keeps (fun j => j = g) w2 w3 from Keeps.of_below hb3))
      have HR3 := Lib.hid (HR2.out.kept hb3)
      have HF3 := Lib.hid (fun B (hF : Far w g B) => Far.kept (HF.out B hF) (hb3.block g HR2.out.lt))
      clear hb3 HK HF HR2
      go_wp2_with fail
      refine (CM.out _).mono ?_; rintro e w4 ⟨rfl, h4⟩; rw [h4]; clear h4 w4
      go_wp2_with fail
      go_ret
      exact ⟨ret_i (Int.natCast_add T V).symm, HR3.out, HK3.out, HF3.out⟩
    · rw [if_neg hv]
      rw [if_neg (by omega), if_neg (by omega)] at CO
      have CM := Lib.hid (fun W => m27No 2 (by decide) W)
      clear hv hg HFW
      go_enter Tryz.func85, Tryz.ntmps85
      go_wp2_with fail
      refine (C1.out _).mono ?_; rintro e w1 ⟨rfl, hb1⟩
      have hp1 := (hb1.cell (p := ⟨gr, 0, none⟩) hgr).trans hp
      have HB := Lib.hid hb1
      have C2 := Lib.hid (CT.out w1 hp1 (HR.out.kept hb1))
      clear hb1 hp1
      go_wp2_with fail
      refine C2.out.mono ?_; rintro e w2 ⟨rfl, hr2, hk2, hF2⟩
      have HK := Lib.hid ((show Keeps (fun j => j = g) w w1 from Keeps.of_below HB.out).trans hk2)
      clear hr2 hk2 hF2 HB C2 C1 HR CT
      go_wp2_with fail
      refine (CO.out _).mono ?_; rintro e w3 ⟨rfl, hb3⟩
      have HK3 := Lib.hid (HK.out.trans (show Keeps (fun j => j = g) w2 w3 from Keeps.of_below hb3))
      clear hb3 HK
      go_wp2_with fail
      refine (CM.out _).mono ?_; rintro e w4 ⟨rfl, h4⟩; rw [h4]; clear h4 w4
      go_wp2_with fail
      exact ⟨rfl, rfl, HK3.out⟩
set_option maxHeartbeats 3200000 in
theorem num27D (w : World) (gr g t k : Nat) (s : List UInt8) (hp : w.cell? ⟨gr, 0, none⟩ = some (.pointer (some ⟨g, 0, none⟩))) (hg : gr ≠ g) (h : IsReader w g s t) (hk : k ≤ 51) : Calls Tryz.prog 85 #[.pointer (some ⟨gr, 0, none⟩), .int .i64 k, .func (Fn.func 88) #[] #[], .func (Fn.func 89) #[] #[]] w (EndN (numD (spread s) t k) w g s) := by
  unfold numD
  unfold numR
  have C1 := Lib.hid (fun W => dBits27 k hk W)
  have hx30 : Slo.exD k ≤ 56 := (show ∀ s : Fin 52, Slo.exD s.val ≤ 56 by decide +kernel) ⟨k, by omega⟩
  by_cases hf : 8 * s.length < t + Slo.exD k
  · rw [if_pos (by rw [spread_length]; exact hf)]
    have CT := Lib.hid (fun W (h1 : W.cell? ⟨gr, 0, none⟩ = some (.pointer (some ⟨g, 0, none⟩))) (h2 : IsReader W g s t) => rdTakeOut W gr g t (Slo.exD k) s h1 h2 hx30 hf)
    obtain ⟨X, hX⟩ : ∃ X, Slo.exD k = X := ⟨_, rfl⟩
    rw [hX] at C1 CT
    have HR := Lib.hid h
    have hgr := cell_block hp
    clear hX hf h hx30 hg
    go_enter Tryz.func85, Tryz.ntmps85
    go_wp2_with fail
    refine (C1.out _).mono ?_; rintro e w1 ⟨rfl, hb1⟩
    have hp1 := (hb1.cell (p := ⟨gr, 0, none⟩) hgr).trans hp
    have HB := Lib.hid hb1
    have C2 := Lib.hid (CT.out w1 hp1 (HR.out.kept hb1))
    clear hb1 hp1
    go_wp2_with fail
    refine C2.out.mono ?_; rintro e w2 ⟨rfl, hk2⟩
    have HK := Lib.hid ((show Keeps (fun j => j = g) w w1 from Keeps.of_below HB.out).trans hk2)
    clear hk2 HB
    go_wp2_with fail
    exact ⟨rfl, rfl, HK.out⟩
  · rw [if_neg (by rw [spread_length]; exact hf)]
    have CT := Lib.hid (fun W (h1 : W.cell? ⟨gr, 0, none⟩ = some (.pointer (some ⟨g, 0, none⟩))) (h2 : IsReader W g s t) => rdTakeIn W gr g t (Slo.exD k) s h1 h2 hx30 (by omega))
    obtain ⟨V, hV⟩ : ∃ V, peek ((spread s).drop t) (Slo.exD k) = V := ⟨_, rfl⟩
    rw [hV] at CT ⊢
    have CO := Lib.hid (fun W => Slo.DistOf_in k V hk W)
    obtain ⟨X, hX⟩ : ∃ X, Slo.exD k = X := ⟨_, rfl⟩
    rw [hX] at C1 CT ⊢
    have HR := Lib.hid h
    have hgr := cell_block hp
    have hgl : g < w.heap.size := h.lt
    have HFW := Lib.hid (fun B W (hb : Below w.heap.size w W) (hF : Far w g B) => Far.kept hF (hb.block g hgl))
    clear hX hf h hx30 hV
    by_cases hv : V < Slo.wideD k
    · rw [if_pos hv]
      rw [if_pos (by omega), if_pos (by omega)] at CO
      obtain ⟨T, hT⟩ : ∃ T, Slo.tbD k = T := ⟨_, rfl⟩
      rw [hT] at CO ⊢
      have CM := Lib.hid m27Ok
      clear hv hT hg
      go_enter Tryz.func85, Tryz.ntmps85
      go_wp2_with fail
      refine (C1.out _).mono ?_; rintro e w1 ⟨rfl, hb1⟩
      have hp1 := (hb1.cell (p := ⟨gr, 0, none⟩) hgr).trans hp
      have HB := Lib.hid hb1
      have C2 := Lib.hid (CT.out w1 hp1 (HR.out.kept hb1))
      clear hb1 hp1
      go_wp2_with fail
      refine C2.out.mono ?_; rintro e w2 ⟨rfl, hr2, hk2, hF2⟩
      have HK := Lib.hid ((show Keeps (fun j => j = g) w w1 from Keeps.of_below HB.out).trans hk2)
      have HF := Lib.hid (fun B (hF : Far w g B) => hF2 B (HFW.out B _ HB.out hF))
      have HR2 := Lib.hid hr2
      clear hr2 hk2 hF2 HB C2 C1 HR CT HFW
      go_wp2_with fail
      refine (CO.out _).mono ?_; rintro e w3 ⟨rfl, hb3⟩
      have HK3 := Lib.hid (HK.out.trans (show Keeps (fun j => j = g) w2 w3 from Keeps.of_below hb3))
      have HR3 := Lib.hid (HR2.out.kept hb3)
      have HF3 := Lib.hid (fun B (hF : Far w g B) => Far.kept (HF.out B hF) (hb3.block g HR2.out.lt))
      clear hb3 HK HF HR2
      go_wp2_with fail
      refine (CM.out _).mono ?_; rintro e w4 ⟨rfl, h4⟩; rw [h4]; clear h4 w4
      go_wp2_with fail
      go_ret
      exact ⟨ret_i (Int.natCast_add T V).symm, HR3.out, HK3.out, HF3.out⟩
    · rw [if_neg hv]
      rw [if_neg (by omega), if_neg (by omega)] at CO
      have CM := Lib.hid (fun W => m27No 2 (by decide) W)
      clear hv hg HFW
      go_enter Tryz.func85, Tryz.ntmps85
      go_wp2_with fail
      refine (C1.out _).mono ?_; rintro e w1 ⟨rfl, hb1⟩
      have hp1 := (hb1.cell (p := ⟨gr, 0, none⟩) hgr).trans hp
      have HB := Lib.hid hb1
      have C2 := Lib.hid (CT.out w1 hp1 (HR.out.kept hb1))
      clear hb1 hp1
      go_wp2_with fail
      refine C2.out.mono ?_; rintro e w2 ⟨rfl, hr2, hk2, hF2⟩
      have HK := Lib.hid ((show Keeps (fun j => j = g) w w1 from Keeps.of_below HB.out).trans hk2)
      clear hr2 hk2 hF2 HB C2 C1 HR CT
      go_wp2_with fail
      refine (CO.out _).mono ?_; rintro e w3 ⟨rfl, hb3⟩
      have HK3 := Lib.hid (HK.out.trans (show Keeps (fun j => j = g) w2 w3 from Keeps.of_below hb3))
      clear hb3 HK
      go_wp2_with fail
      refine (CM.out _).mono ?_; rintro e w4 ⟨rfl, h4⟩; rw [h4]; clear h4 w4
      go_wp2_with fail
      exact ⟨rfl, rfl, HK3.out⟩
end Go.Proofs.YtmhjmoeeahepaaaGreat

/- Layer 27: reading: a token. -/
namespace Go.Proofs.YtmhjmoeeahepaaaGreat
open Go.ChangeShapes Go.WideShapes Go.ChangeAt Go.RowKit
set_option linter.unusedVariables false
set_option linter.unusedSimpArgs false
set_option maxRecDepth 100000
open Bits hiding packF pack_length
open RunsMath KraftMath CanonMath TurnMath Pm Two
inductive TR where
  | bad (E : Int)
  | good (t : Tk) (p : Nat)
/-- The rest of a copy, as bits tell it. -/
def farR (d : List Int) (L : List Bool) (n t : Nat) : TR :=
  if (nextL d 15 (L.drop t)).2.2 ≠ 0 then .bad (musE (nextL d 15 (L.drop t)).2.2)
  else match numD L (t + (nextL d 15 (L.drop t)).2.1.toNat) (nextL d 15 (L.drop t)).1.toNat with
    | .bad E => .bad E
    | .good m p => .good ⟨1, 0, (n : Int), (m : Int), 0⟩ p
def tokR (M : List Int) (D : Option (List Int)) (L : List Bool) (t : Nat) : TR :=
  if (nextL M 15 (L.drop t)).2.2 ≠ 0 then .bad (musE (nextL M 15 (L.drop t)).2.2)
  else if (nextL M 15 (L.drop t)).1 < 256 then .good ⟨0, (nextL M 15 (L.drop t)).1, 0, 0, 0⟩ (t + (nextL M 15 (L.drop t)).2.1.toNat)
  else match numL L (t + (nextL M 15 (L.drop t)).2.1.toNat) (Tok.ofS (nextL M 15 (L.drop t)).1).toNat with
    | .bad E => .bad E
    | .good n p => if (nextL M 15 (L.drop t)).1 < 285 then (match D with
        | none => .bad 4
        | some d => farR d L n p)
      else .good ⟨2, 0, (n : Int), 0, ((nextL M 15 (L.drop t)).1 - 285) / 29⟩ p
theorem ent_lt {l : List Int} {L v s n : Nat} (h : entB l L v = (s, n)) (hn : n ≠ 0) : s < l.length := by
  unfold entB entK at h
  cases hf : (List.range l.length).find? (hitAt l (bitsOf v L)) with
  | none => rw [hf] at h; simp at h; omega
  | some t =>
    rw [hf] at h
    simp at h
    have := List.mem_range.1 (List.mem_of_find?_eq_some hf)
    omega
theorem next_lt {l : List Int} {L : Nat} {rest : List Bool} {X Y : Int} (h : nextL l L rest = (X, Y, 0)) : 0 ≤ X ∧ X < l.length ∧ ∃ y : Nat, Y = y ∧ y ≠ 0 ∧ y ≤ rest.length := by
  obtain ⟨⟨s, n⟩, he⟩ : ∃ q, entB l L (peek rest L) = q := ⟨_, rfl⟩
  unfold nextL at h
  rw [he] at h
  simp only at h
  by_cases h0 : n = 0
  · rw [if_pos h0] at h; simp at h
  · rw [if_neg h0] at h
    by_cases h1 : rest.length < n
    · rw [if_pos h1] at h; simp at h
    · rw [if_neg h1] at h
      have := ent_lt he h0
      injection h with e1 e2
      injection e2 with e2 e3
      exact ⟨by omega, by omega, n, e2.symm, h0, by omega⟩
theorem of_lit {X : Int} (h0 : 0 ≤ X) (h : X < 256) : Tok.ofK X = 0 ∧ Tok.ofB X = X ∧ Tok.ofR X = 0 ∧ Tok.ofS X = 0 ∧ Tok.ofE X = 0 := by
  unfold Tok.ofK Tok.ofB Tok.ofR Tok.ofS Tok.ofE
  have h1 : ¬ (X < 0 ∨ 400 < X) := by omega
  simp only [if_neg h1, if_pos h, if_pos (show X < 285 by omega)]
  exact ⟨trivial, trivial, trivial, trivial, trivial⟩
theorem of_copy {X : Int} (h0 : 256 ≤ X) (h : X < 285) : Tok.ofK X = 1 ∧ Tok.ofB X = 0 ∧ Tok.ofR X = 0 ∧ (∃ k : Nat, Tok.ofS X = (k : Int) ∧ k ≤ 28) ∧ Tok.ofE X = 0 := by
  unfold Tok.ofK Tok.ofB Tok.ofR Tok.ofS Tok.ofE
  have h1 : ¬ (X < 0 ∨ 400 < X) := by omega
  have h2 : ¬ X < 256 := by omega
  simp only [if_neg h1, if_neg h2, if_pos h]
  exact ⟨trivial, trivial, trivial, ⟨(X - 256).toNat, by omega, by omega⟩, trivial⟩
theorem of_rep {X : Int} (h0 : 285 ≤ X) (h : X ≤ 400) : Tok.ofK X = 2 ∧ Tok.ofB X = 0 ∧ (Tok.ofR X = (X - 285) / 29) ∧ (∃ k : Nat, Tok.ofS X = (k : Int) ∧ k ≤ 28) ∧ Tok.ofE X = 0 := by
  unfold Tok.ofK Tok.ofB Tok.ofR Tok.ofS Tok.ofE
  have h1 : ¬ (X < 0 ∨ 400 < X) := by omega
  have h2 : ¬ X < 256 := by omega
  have h3 : ¬ X < 285 := by omega
  simp only [if_neg h1, if_neg h2, if_neg h3]
  exact ⟨trivial, trivial, trivial, ⟨((X - 285) % 29).toNat, by omega, by omega⟩, trivial⟩
/-- A table of distances, if there is one. -/
def D27 (w : World) (S : Nat → Prop) (dv : Value) : Option (List Int) → Prop
  | none => dv = .pointer none
  | some d => ∃ gd, dv = .pointer (some ⟨gd, 0, none⟩) ∧ T27 w S gd d ∧ d.length = 52
theorem D27.keeps {w w' : World} {S : Nat → Prop} {dv : Value} {D : Option (List Int)} (h : D27 w S dv D) (hk : Keeps S w w') : D27 w' S dv D := by
  cases D with
  | none => exact h
  | some d => obtain ⟨gd, e, ht, hl⟩ := h; exact ⟨gd, e, ht.keeps hk, hl⟩
def feet27 (g gr : Nat) (k : Nat) : Prop := k = g ∨ k = gr
structure Rd27 (w : World) (gr g gm : Nat) (dv : Value) (M : List Int) (D : Option (List Int)) : Prop where
  bk : w.heap[gr]? = some (.cells #[.pointer (some ⟨g, 0, none⟩), .pointer (some ⟨gm, 0, none⟩), dv] 99 (0, 0))
  ne : gr ≠ g
  tm : T27 w (feet27 g gr) gm M
  td : D27 w (feet27 g gr) dv D
  lm : M.length = 401
theorem Rd27.keeps {w w' : World} {gr g gm : Nat} {dv : Value} {M : List Int} {D : Option (List Int)} (h : Rd27 w gr g gm dv M D) (hk : Keeps (fun k => k = g) w w') : Rd27 w' gr g gm dv M D :=
  ⟨hk.heap h.bk h.ne, h.ne, h.tm.keeps (hk.mono (fun k _ e => .inl e)), h.td.keeps (hk.mono (fun k _ e => .inl e)), h.lm⟩
theorem Rd27.below {w w' : World} {gr g gm : Nat} {dv : Value} {M : List Int} {D : Option (List Int)} (h : Rd27 w gr g gm dv M D) (hb : Below w.heap.size w w') : Rd27 w' gr g gm dv M D := h.keeps (Keeps.of_below hb)
theorem Rd27.c0 {w : World} {gr g gm : Nat} {dv : Value} {M : List Int} {D : Option (List Int)} (h : Rd27 w gr g gm dv M D) : w.cell? ⟨gr, 0, none⟩ = some (.pointer (some ⟨g, 0, none⟩)) := cell_lit h.bk 0 _ rfl
theorem Rd27.c1 {w : World} {gr g gm : Nat} {dv : Value} {M : List Int} {D : Option (List Int)} (h : Rd27 w gr g gm dv M D) : w.cell? ⟨gr, 1, none⟩ = some (.pointer (some ⟨gm, 0, none⟩)) := cell_lit h.bk 1 _ rfl
theorem Rd27.c2 {w : World} {gr g gm : Nat} {dv : Value} {M : List Int} {D : Option (List Int)} (h : Rd27 w gr g gm dv M D) : w.cell? ⟨gr, 2, none⟩ = some dv := cell_lit h.bk 2 _ rfl
def EndT (R : TR) (w0 : World) (g : Nat) (s : List UInt8) (e : Ending) (w' : World) : Prop :=
  match R with
  | .bad E => e = .panicked [flt27 E] ∧ Keeps (fun k => k = g) w0 w'
  | .good t p => e = .returned (tkV t) ∧ IsReader w' g s p ∧ Keeps (fun k => k = g) w0 w' ∧ ∀ B, Far w0 g B → Far w' g B
def box5 (k b l d r : Int) : Array Value := #[.int .i64 k, .int .i64 b, .int .i64 l, .int .i64 d, .int .i64 r]
/-- How things stand within a token's reading. -/
structure Mid (w0 w : World) (gr g gm : Nat) (dv : Value) (M : List Int) (D : Option (List Int)) (s : List UInt8) (t : Nat) : Prop where
  rd0 : Rd27 w0 gr g gm dv M D
  at' : IsReader w g s t
  kp : Keeps (fun k => k = g) w0 w
  fr : ∀ B, Far w0 g B → Far w g B
theorem Mid.rd {w0 w : World} {gr g gm : Nat} {dv : Value} {M : List Int} {D : Option (List Int)} {s : List UInt8} {t : Nat} (h : Mid w0 w gr g gm dv M D s t) : Rd27 w gr g gm dv M D := h.rd0.keeps h.kp
theorem Mid.go {w0 w w' : World} {gr g gm : Nat} {dv : Value} {M : List Int} {D : Option (List Int)} {s : List UInt8} {t t' : Nat} (h : Mid w0 w gr g gm dv M D s t) (hr : IsReader w' g s t') (hk : Keeps (fun k => k = g) w w') (hF : ∀ B, Far w g B → Far w' g B) : Mid w0 w' gr g gm dv M D s t' :=
  ⟨h.rd0, hr, h.kp.trans hk, fun B hB => hF B (h.fr B hB)⟩
theorem Mid.low {w0 w w' : World} {gr g gm : Nat} {dv : Value} {M : List Int} {D : Option (List Int)} {s : List UInt8} {t : Nat} (h : Mid w0 w gr g gm dv M D s t) (hb : Below w.heap.size w w') : Mid w0 w' gr g gm dv M D s t :=
  h.go (h.at'.kept hb) (Keeps.of_below hb) (fun B hB => Far.kept hB (hb.block g h.at'.lt))
theorem Mid.put {w0 w w' : World} {gr g gm gy : Nat} {dv : Value} {M : List Int} {D : Option (List Int)} {s : List UInt8} {t : Nat} {k b l d r : Int} {tt : TypeId} (h : Mid w0 w gr g gm dv M D s t) (hy : w.heap[gy]? = some (.cells (box5 k b l d r) tt (0, 0))) (hg : w0.heap.size ≤ gy) (hk : Keeps (fun j => j = gy) w w') : Mid w0 w' gr g gm dv M D s t := by
  have hne : gy ≠ g := by
    have := h.rd0.c0
    intro e
    obtain ⟨p, L, C, hgg, -⟩ := h.at'
    rw [e, hgg] at hy
    injection hy with hy
    injection hy with hy _ _
    have := congrArg Array.size hy
    simp [box5] at this
  refine ⟨h.rd0, reader_away h.at' (k := gy) (fun j x e => ?_) hne hk, h.kp.trans' hk (fun j hj e => by have : j = gy := e; omega), fun B hB => Far.kept (h.fr B hB) (hk.block g h.at'.lt (fun e => hne e.symm))⟩
  rw [cell_in hy j] at e
  unfold box5 at e
  rcases j with _ | _ | _ | _ | _ | j <;> simp at e
theorem box_new (w : World) (k b l d r : Int) : (w.alloc (.cells #[.int .i64 k, .int .i64 b, .int .i64 l, .int .i64 d, .int .i64 r] 35)).heap[w.heap.size]? = some (.cells (box5 k b l d r) 35 (0, 0)) := heap_alloc_new w _
theorem box_cell {w : World} {gx : Nat} {k b l d r : Int} {t : TypeId} (h : w.heap[gx]? = some (.cells (box5 k b l d r) t (0, 0))) :
    (w.cell? ⟨gx, 0, none⟩ = some (.int .i64 k) ∧ w.cell? ⟨gx, 1, none⟩ = some (.int .i64 b) ∧ w.cell? ⟨gx, 2, none⟩ = some (.int .i64 l) ∧ w.cell? ⟨gx, 3, none⟩ = some (.int .i64 d) ∧ w.cell? ⟨gx, 4, none⟩ = some (.int .i64 r)) ∧
    (w.frozen? ⟨gx, 0, none⟩ = false ∧ w.frozen? ⟨gx, 1, none⟩ = false ∧ w.frozen? ⟨gx, 2, none⟩ = false ∧ w.frozen? ⟨gx, 3, none⟩ = false ∧ w.frozen? ⟨gx, 4, none⟩ = false) ∧ gx < w.heap.size :=
  ⟨⟨cell_in h 0, cell_in h 1, cell_in h 2, cell_in h 3, cell_in h 4⟩, ⟨free_in h 0, free_in h 1, free_in h 2, free_in h 3, free_in h 4⟩, block_lt h⟩
/-- A box that is written whole. -/
def putBox (w : World) (gx : Nat) (k b l d r : Int) : World := ((((w.setCell ⟨gx, 0, none⟩ (.int .i64 k)).setCell ⟨gx, 1, none⟩ (.int .i64 b)).setCell ⟨gx, 2, none⟩ (.int .i64 l)).setCell ⟨gx, 3, none⟩ (.int .i64 d)).setCell ⟨gx, 4, none⟩ (.int .i64 r)
theorem putBox_keeps (w : World) (gx : Nat) (k b l d r : Int) : Keeps (fun j => j = gx) w (putBox w gx k b l d r) :=
  (((((Keeps.refl (fun j => j = gx) w).setCell (p := ⟨gx, 0, none⟩) (.inr rfl) _).setCell (p := ⟨gx, 1, none⟩) (.inr rfl) _).setCell (p := ⟨gx, 2, none⟩) (.inr rfl) _).setCell (p := ⟨gx, 3, none⟩) (.inr rfl) _).setCell (p := ⟨gx, 4, none⟩) (.inr rfl) _
theorem putBox_at {w : World} {gx : Nat} {k b l d r k' b' l' d' r' : Int} {t : TypeId} (h : w.heap[gx]? = some (.cells (box5 k b l d r) t (0, 0))) : (putBox w gx k' b' l' d' r').heap[gx]? = some (.cells (box5 k' b' l' d' r') t (0, 0)) :=
  block_set (block_set (block_set (block_set (block_set h 0 _) 1 _) 2 _) 3 _) 4 _
theorem Mid.done {w0 w : World} {gr g gm : Nat} {dv : Value} {M : List Int} {D : Option (List Int)} {s : List UInt8} {t : Nat} (h : Mid w0 w gr g gm dv M D s t) (k : Tk) : EndT (.good k t) w0 g s (.returned (tkV k)) w := ⟨rfl, h.at', h.kp, h.fr⟩
theorem res27 {W : World} {c : Act} {gx : Nat} {k b l d r : Int} {t : TypeId} {Q : Ending → World → Prop} (hd : c.defers = []) (hc : c.tmps.getD 2 undef = .pointer (some ⟨gx, 0, none⟩)) (h : W.heap[gx]? = some (.cells (box5 k b l d r) t (0, 0))) (hQ : Q (.returned (tkV ⟨k, b, l, d, r⟩)) W) : bodyPost Tryz.prog Tryz.f58 Q .ret c W := by
  obtain ⟨⟨q0, q1, q2, q3, q4⟩, -⟩ := box_cell h
  refine bodyPost_ret (v := tkV ⟨k, b, l, d, r⟩) ?_ hd hQ
  have hc2 : c.tmps[2]?.getD undef = .pointer (some ⟨gx, 0, none⟩) := by simpa using hc
  simp [results, Tryz.results58, go_sem, hc2, q0, q1, q2, q3, q4, tkV]
set_option maxHeartbeats 3200000 in
theorem tok27Lit (w0 : World) (gr g gm : Nat) (dv : Value) (M : List Int) (D : Option (List Int)) (s : List UInt8) (t : Nat) (h : Rd27 w0 gr g gm dv M D) (hr : IsReader w0 g s t) (X Y : Int) (hX : nextL M 15 ((spread s).drop t) = (X, Y, 0)) (hx : X < 256) (t2 : Nat) (ht2 : t + Y.toNat = t2) :
    Calls Tryz.prog 58 #[.pointer (some ⟨gr, 0, none⟩)] w0 (EndT (.good ⟨0, X, 0, 0, 0⟩ t2) w0 g s) := by
  obtain ⟨hx0, -, -⟩ := next_lt hX
  obtain ⟨k1, k2, k3, k4, k5⟩ := of_lit hx0 hx
  have CO := Lib.hid (fun W => Tok.Of_any X W)
  rw [k1, k2, k3, k4, k5] at CO
  clear k1 k2 k3 k4 k5 hx hx0
  have c1 := h.c1
  have hgrl := block_lt h.bk
  have HM := Lib.hid (show Mid w0 w0 gr g gm dv M D s t from ⟨h, hr, Keeps.refl _ _, fun _ h => h⟩)
  have CN := Lib.hid (fun W (h : Mid w0 W gr g gm dv M D s t) => nx27Ok W (feet27 g gr) gr gm g M s t h.rd.c0 h.rd.tm h.at' X Y hX)
  have CM := Lib.hid m27Ok
  rw [ht2] at CN
  clear ht2 hX h hr
  go_enter Tryz.func58, Tryz.ntmps58
  go_wp2_with fail
  have HX1 := Lib.hid (box_new w0 0 0 0 0 0)
  have HM1 := Lib.hid (HM.out.low ((Below.refl _ w0).alloc (Nat.le_refl _) (.cells #[.int .i64 0, .int .i64 0, .int .i64 0, .int .i64 0, .int .i64 0] 35)))
  have hgg : g < w0.heap.size := HM.out.at'.lt
  obtain ⟨w1, hw1⟩ : ∃ w1, w0.alloc (.cells #[.int .i64 0, .int .i64 0, .int .i64 0, .int .i64 0, .int .i64 0] 35) = w1 := ⟨_, rfl⟩
  obtain ⟨gx, hgx⟩ : ∃ gx, w0.heap.size = gx := ⟨_, rfl⟩
  have hgx0 : w0.heap.size ≤ gx := by omega
  rw [hw1] at HM1 HX1 ⊢
  rw [hgx] at hgg HX1 ⊢
  clear hw1 hgx c1 hgrl HM
  refine (CN.out w1 HM1.out).mono ?_; rintro e w2 ⟨rfl, hr2, hk2, hF2⟩
  have HM2 := Lib.hid (HM1.out.go hr2 hk2 hF2)
  have HX2 := Lib.hid (hk2.heap HX1.out (by omega))
  clear hr2 hk2 hF2 HM1 HX1 CN
  go_wp2_with fail
  refine (CO.out _).mono ?_; rintro e w3 ⟨rfl, rfl⟩
  go_wp2_with fail
  refine (CM.out _).mono ?_; rintro e w4 ⟨rfl, h4⟩; rw [h4]; clear h4 w4 CO
  obtain ⟨⟨x0, x1, x2, x3, x4⟩, ⟨f0, f1, f2, f3, f4⟩, hlt⟩ := box_cell HX2.out
  go_wp2_with fail
  refine res27 rfl rfl (gx := gx) (k := 0) (b := X) (l := 0) (d := 0) (r := 0) (t := 35) ((((Below.refl _ _).alloc (Nat.le_refl _) _).block gx (block_lt (putBox_at HX2.out))).trans (putBox_at HX2.out)) ?_
  exact ((HM2.out.put HX2.out hgx0 (putBox_keeps w2 gx 0 X 0 0 0)).low ((Below.refl _ _).alloc (Nat.le_refl _) _)).done _
end Go.Proofs.YtmhjmoeeahepaaaGreat

/- Layer 27: reading: a token that copies. -/
namespace Go.Proofs.YtmhjmoeeahepaaaGreat
open Go.ChangeShapes Go.WideShapes Go.ChangeAt Go.RowKit
set_option linter.unusedVariables false
set_option linter.unusedSimpArgs false
set_option maxRecDepth 100000
open Bits hiding packF pack_length
open RunsMath KraftMath CanonMath TurnMath Pm Two
set_option maxHeartbeats 3200000 in
theorem tok27NumNo (w0 : World) (gr g gm : Nat) (dv : Value) (M : List Int) (D : Option (List Int)) (s : List UInt8) (t : Nat) (h : Rd27 w0 gr g gm dv M D) (hr : IsReader w0 g s t) (X Y : Int) (hX : nextL M 15 ((spread s).drop t) = (X, Y, 0)) (t2 : Nat) (ht2 : t + Y.toNat = t2) (K R : Int) (k : Nat) (hk : k ≤ 28) (hK : (K == 0) = false) (CO : Hid (∀ W, Calls Tryz.prog 83 #[.int .i64 X] W fun e w' => e = .returned (.tuple #[.int .i64 K, .int .i64 0, .int .i64 R, .int .i64 k, .int .i64 0]) ∧ W = w')) (E : Int) (hN : numL (spread s) t2 k = .bad E) :
    Calls Tryz.prog 58 #[.pointer (some ⟨gr, 0, none⟩)] w0 (EndT (.bad E) w0 g s) := by
  have CL := Lib.hid (fun W (h : Mid w0 W gr g gm dv M D s t2) => num27L W gr g t2 k s h.rd.c0 h.rd.ne h.at' hk)
  rw [hN] at CL
  have HGL := Lib.hid hr.lt
  clear hN
  have c1 := h.c1
  have hgrl := block_lt h.bk
  have HM := Lib.hid (show Mid w0 w0 gr g gm dv M D s t from ⟨h, hr, Keeps.refl _ _, fun _ h => h⟩)
  have CN := Lib.hid (fun W (h : Mid w0 W gr g gm dv M D s t) => nx27Ok W (feet27 g gr) gr gm g M s t h.rd.c0 h.rd.tm h.at' X Y hX)
  have CM := Lib.hid m27Ok
  rw [ht2] at CN
  clear ht2 hX h hr
  go_enter Tryz.func58, Tryz.ntmps58
  go_wp2_with fail
  have HX1 := Lib.hid (box_new w0 0 0 0 0 0)
  have HM1 := Lib.hid (HM.out.low ((Below.refl _ w0).alloc (Nat.le_refl _) (.cells #[.int .i64 0, .int .i64 0, .int .i64 0, .int .i64 0, .int .i64 0] 35)))
  have hgg : g < w0.heap.size := HM.out.at'.lt
  obtain ⟨w1, hw1⟩ : ∃ w1, w0.alloc (.cells #[.int .i64 0, .int .i64 0, .int .i64 0, .int .i64 0, .int .i64 0] 35) = w1 := ⟨_, rfl⟩
  obtain ⟨gx, hgx⟩ : ∃ gx, w0.heap.size = gx := ⟨_, rfl⟩
  have hgx0 : w0.heap.size ≤ gx := by omega
  rw [hw1] at HM1 HX1 ⊢
  rw [hgx] at hgg HX1 ⊢
  clear hw1 hgx c1 hgrl HM
  refine (CN.out w1 HM1.out).mono ?_; rintro e w2 ⟨rfl, hr2, hk2, hF2⟩
  have HM2 := Lib.hid (HM1.out.go hr2 hk2 hF2)
  have HX2 := Lib.hid (hk2.heap HX1.out (by omega))
  clear hr2 hk2 hF2 HM1 HX1 CN
  go_wp2_with fail
  refine (CO.out _).mono ?_; rintro e w3 ⟨rfl, rfl⟩
  go_wp2_with fail
  refine (CM.out _).mono ?_; rintro e w4 ⟨rfl, h4⟩; rw [h4]; clear h4 w4 CO
  obtain ⟨gy, hgy⟩ : ∃ gy, w2.heap.size = gy := ⟨_, rfl⟩
  go_wp2_with fail
  have HY5 := Lib.hid (box_new w2 K 0 0 0 R)
  have HB5 := (Below.refl w2.heap.size w2).alloc (Nat.le_refl _) (.cells #[.int .i64 K, .int .i64 0, .int .i64 0, .int .i64 0, .int .i64 R] 35)
  have HM5 := Lib.hid (HM2.out.low HB5)
  have HX5 := Lib.hid ((HB5.block gx (block_lt HX2.out)).trans HX2.out)
  have hgy0 : w0.heap.size ≤ gy := by rw [← hgy]; exact HM2.out.kp.size
  obtain ⟨w5, hw5⟩ : ∃ w5, w2.alloc (.cells #[.int .i64 K, .int .i64 0, .int .i64 0, .int .i64 0, .int .i64 R] 35) = w5 := ⟨_, rfl⟩
  rw [hw5] at HM5 HX5 HY5 ⊢
  try rw [hgy]
  rw [hgy] at HY5
  have hxy : gx ≠ gy := by have := block_lt HX2.out; omega
  have hgg0 : g < w0.heap.size := HM2.out.rd0.c0 |> fun _ => HGL.out
  clear HB5 hw5 hgy HM2 HX2
  refine (CL.out w5 HM5.out).mono ?_; rintro e w6 ⟨rfl, hk6⟩
  have HK6 := Lib.hid (HM5.out.kp.trans hk6)
  clear hk6 CL HM5 HX5 HY5
  go_wp2_with fail
  exact ⟨rfl, rfl, HK6.out⟩
set_option maxHeartbeats 3200000 in
theorem tok27Rep (w0 : World) (gr g gm : Nat) (dv : Value) (M : List Int) (D : Option (List Int)) (s : List UInt8) (t : Nat) (h : Rd27 w0 gr g gm dv M D) (hr : IsReader w0 g s t) (X Y : Int) (hX : nextL M 15 ((spread s).drop t) = (X, Y, 0)) (t2 : Nat) (ht2 : t + Y.toNat = t2) (R : Int) (k : Nat) (hk : k ≤ 28) (CO : Hid (∀ W, Calls Tryz.prog 83 #[.int .i64 X] W fun e w' => e = .returned (.tuple #[.int .i64 2, .int .i64 0, .int .i64 R, .int .i64 k, .int .i64 0]) ∧ W = w')) (n p : Nat) (hN : numL (spread s) t2 k = .good n p) :
    Calls Tryz.prog 58 #[.pointer (some ⟨gr, 0, none⟩)] w0 (EndT (.good ⟨2, 0, n, 0, R⟩ p) w0 g s) := by
  have CL := Lib.hid (fun W (h : Mid w0 W gr g gm dv M D s t2) => num27L W gr g t2 k s h.rd.c0 h.rd.ne h.at' hk)
  rw [hN] at CL
  have HGL := Lib.hid hr.lt
  clear hN
  have c1 := h.c1
  have hgrl := block_lt h.bk
  have HM := Lib.hid (show Mid w0 w0 gr g gm dv M D s t from ⟨h, hr, Keeps.refl _ _, fun _ h => h⟩)
  have CN := Lib.hid (fun W (h : Mid w0 W gr g gm dv M D s t) => nx27Ok W (feet27 g gr) gr gm g M s t h.rd.c0 h.rd.tm h.at' X Y hX)
  have CM := Lib.hid m27Ok
  rw [ht2] at CN
  clear ht2 hX h hr
  go_enter Tryz.func58, Tryz.ntmps58
  go_wp2_with fail
  have HX1 := Lib.hid (box_new w0 0 0 0 0 0)
  have HM1 := Lib.hid (HM.out.low ((Below.refl _ w0).alloc (Nat.le_refl _) (.cells #[.int .i64 0, .int .i64 0, .int .i64 0, .int .i64 0, .int .i64 0] 35)))
  have hgg : g < w0.heap.size := HM.out.at'.lt
  obtain ⟨w1, hw1⟩ : ∃ w1, w0.alloc (.cells #[.int .i64 0, .int .i64 0, .int .i64 0, .int .i64 0, .int .i64 0] 35) = w1 := ⟨_, rfl⟩
  obtain ⟨gx, hgx⟩ : ∃ gx, w0.heap.size = gx := ⟨_, rfl⟩
  have hgx0 : w0.heap.size ≤ gx := by omega
  rw [hw1] at HM1 HX1 ⊢
  rw [hgx] at hgg HX1 ⊢
  clear hw1 hgx c1 hgrl HM
  refine (CN.out w1 HM1.out).mono ?_; rintro e w2 ⟨rfl, hr2, hk2, hF2⟩
  have HM2 := Lib.hid (HM1.out.go hr2 hk2 hF2)
  have HX2 := Lib.hid (hk2.heap HX1.out (by omega))
  clear hr2 hk2 hF2 HM1 HX1 CN
  go_wp2_with fail
  refine (CO.out _).mono ?_; rintro e w3 ⟨rfl, rfl⟩
  go_wp2_with fail
  refine (CM.out _).mono ?_; rintro e w4 ⟨rfl, h4⟩; rw [h4]; clear h4 w4 CO
  obtain ⟨gy, hgy⟩ : ∃ gy, w2.heap.size = gy := ⟨_, rfl⟩
  go_wp2_with fail
  have HY5 := Lib.hid (box_new w2 2 0 0 0 R)
  have HB5 := (Below.refl w2.heap.size w2).alloc (Nat.le_refl _) (.cells #[.int .i64 2, .int .i64 0, .int .i64 0, .int .i64 0, .int .i64 R] 35)
  have HM5 := Lib.hid (HM2.out.low HB5)
  have HX5 := Lib.hid ((HB5.block gx (block_lt HX2.out)).trans HX2.out)
  have hgy0 : w0.heap.size ≤ gy := by rw [← hgy]; exact HM2.out.kp.size
  obtain ⟨w5, hw5⟩ : ∃ w5, w2.alloc (.cells #[.int .i64 2, .int .i64 0, .int .i64 0, .int .i64 0, .int .i64 R] 35) = w5 := ⟨_, rfl⟩
  rw [hw5] at HM5 HX5 HY5 ⊢
  try rw [hgy]
  rw [hgy] at HY5
  have hxy : gx ≠ gy := by have := block_lt HX2.out; omega
  have hgg0 : g < w0.heap.size := HM2.out.rd0.c0 |> fun _ => HGL.out
  clear HB5 hw5 hgy HM2 HX2
  refine (CL.out w5 HM5.out).mono ?_; rintro e w6 ⟨rfl, hr6, hk6, hF6⟩
  have HM6 := Lib.hid (HM5.out.go hr6 hk6 hF6)
  have HX6 := Lib.hid (hk6.heap HX5.out (by omega))
  have HY6 := Lib.hid (hk6.heap HY5.out (by omega))
  have hgrl := block_lt HM6.out.rd0.bk
  have z2 := HM6.out.rd.c2
  have z0 := HM6.out.rd.c0
  obtain ⟨⟨y0, y1, y2, y3, y4⟩, ⟨e0, e1, e2, e3, e4⟩, hylt⟩ := box_cell HY6.out
  have HM7 := Lib.hid (HM6.out.put HY6.out hgy0 ((Keeps.refl (fun j => j = gy) w6).setCell (p := ⟨gy, 2, none⟩) (.inr rfl) (.int .i64 n)))
  have HY7 := Lib.hid (show (w6.setCell ⟨gy, 2, none⟩ (.int .i64 n)).heap[gy]? = some (.cells (box5 2 0 n 0 R) 35 (0, 0)) from block_set HY6.out 2 _)
  have HX7 := Lib.hid ((heap_setCell_other w6 ⟨gy, 2, none⟩ gx (.int .i64 n) hxy).trans HX6.out)
  have hgry : ¬ gr = gy := by omega
  clear hr6 hk6 hF6 CL HM5 HX5 HY5
  clear z2 z0
  obtain ⟨⟨x0, x1, x2, x3, x4⟩, ⟨f0, f1, f2, f3, f4⟩, hxlt⟩ := box_cell HX6.out
  have hyx : ¬ gy = gx := fun e => hxy e.symm
  go_wp2_with fail
  refine res27 rfl rfl (gx := gx) (k := 2) (b := 0) (l := n) (d := 0) (r := R) (t := 35) (putBox_at HX7.out) ?_
  exact (HM7.out.put HX7.out hgx0 (putBox_keeps _ gx 2 0 n 0 R)).done _
set_option maxHeartbeats 3200000 in
theorem tok27None (w0 : World) (gr g gm : Nat) (M : List Int) (s : List UInt8) (t : Nat) (h : Rd27 w0 gr g gm (.pointer none) M none) (hr : IsReader w0 g s t) (X Y : Int) (hX : nextL M 15 ((spread s).drop t) = (X, Y, 0)) (t2 : Nat) (ht2 : t + Y.toNat = t2) (k : Nat) (hk : k ≤ 28) (CO : Hid (∀ W, Calls Tryz.prog 83 #[.int .i64 X] W fun e w' => e = .returned (.tuple #[.int .i64 1, .int .i64 0, .int .i64 0, .int .i64 k, .int .i64 0]) ∧ W = w')) (n p : Nat) (hN : numL (spread s) t2 k = .good n p) :
    Calls Tryz.prog 58 #[.pointer (some ⟨gr, 0, none⟩)] w0 (EndT (.bad 4) w0 g s) := by
  have CL := Lib.hid (fun W (h : Mid w0 W gr g gm (.pointer none) M none s t2) => num27L W gr g t2 k s h.rd.c0 h.rd.ne h.at' hk)
  rw [hN] at CL
  have HGL := Lib.hid hr.lt
  obtain ⟨dv, hdv⟩ : ∃ dv, Value.pointer none = dv := ⟨_, rfl⟩
  obtain ⟨D, hD⟩ : ∃ D : Option (List Int), none = D := ⟨_, rfl⟩
  rw [hdv, hD] at h CL
  have HDV := Lib.hid hdv
  have CM4 := Lib.hid (fun W => m27No 4 (by decide) W)
  clear hN hdv hD
  have c1 := h.c1
  have hgrl := block_lt h.bk
  have HM := Lib.hid (show Mid w0 w0 gr g gm dv M D s t from ⟨h, hr, Keeps.refl _ _, fun _ h => h⟩)
  have CN := Lib.hid (fun W (h : Mid w0 W gr g gm dv M D s t) => nx27Ok W (feet27 g gr) gr gm g M s t h.rd.c0 h.rd.tm h.at' X Y hX)
  have CM := Lib.hid m27Ok
  rw [ht2] at CN
  clear ht2 hX h hr
  go_enter Tryz.func58, Tryz.ntmps58
  go_wp2_with fail
  have HX1 := Lib.hid (box_new w0 0 0 0 0 0)
  have HM1 := Lib.hid (HM.out.low ((Below.refl _ w0).alloc (Nat.le_refl _) (.cells #[.int .i64 0, .int .i64 0, .int .i64 0, .int .i64 0, .int .i64 0] 35)))
  have hgg : g < w0.heap.size := HM.out.at'.lt
  obtain ⟨w1, hw1⟩ : ∃ w1, w0.alloc (.cells #[.int .i64 0, .int .i64 0, .int .i64 0, .int .i64 0, .int .i64 0] 35) = w1 := ⟨_, rfl⟩
  obtain ⟨gx, hgx⟩ : ∃ gx, w0.heap.size = gx := ⟨_, rfl⟩
  have hgx0 : w0.heap.size ≤ gx := by omega
  rw [hw1] at HM1 HX1 ⊢
  rw [hgx] at hgg HX1 ⊢
  clear hw1 hgx c1 hgrl HM
  refine (CN.out w1 HM1.out).mono ?_; rintro e w2 ⟨rfl, hr2, hk2, hF2⟩
  have HM2 := Lib.hid (HM1.out.go hr2 hk2 hF2)
  have HX2 := Lib.hid (hk2.heap HX1.out (by omega))
  clear hr2 hk2 hF2 HM1 HX1 CN
  go_wp2_with fail
  refine (CO.out _).mono ?_; rintro e w3 ⟨rfl, rfl⟩
  go_wp2_with fail
  refine (CM.out _).mono ?_; rintro e w4 ⟨rfl, h4⟩; rw [h4]; clear h4 w4 CO
  obtain ⟨gy, hgy⟩ : ∃ gy, w2.heap.size = gy := ⟨_, rfl⟩
  go_wp2_with fail
  have HY5 := Lib.hid (box_new w2 1 0 0 0 0)
  have HB5 := (Below.refl w2.heap.size w2).alloc (Nat.le_refl _) (.cells #[.int .i64 1, .int .i64 0, .int .i64 0, .int .i64 0, .int .i64 0] 35)
  have HM5 := Lib.hid (HM2.out.low HB5)
  have HX5 := Lib.hid ((HB5.block gx (block_lt HX2.out)).trans HX2.out)
  have hgy0 : w0.heap.size ≤ gy := by rw [← hgy]; exact HM2.out.kp.size
  obtain ⟨w5, hw5⟩ : ∃ w5, w2.alloc (.cells #[.int .i64 1, .int .i64 0, .int .i64 0, .int .i64 0, .int .i64 0] 35) = w5 := ⟨_, rfl⟩
  rw [hw5] at HM5 HX5 HY5 ⊢
  try rw [hgy]
  rw [hgy] at HY5
  have hxy : gx ≠ gy := by have := block_lt HX2.out; omega
  have hgg0 : g < w0.heap.size := HM2.out.rd0.c0 |> fun _ => HGL.out
  clear HB5 hw5 hgy HM2 HX2
  refine (CL.out w5 HM5.out).mono ?_; rintro e w6 ⟨rfl, hr6, hk6, hF6⟩
  have HM6 := Lib.hid (HM5.out.go hr6 hk6 hF6)
  have HX6 := Lib.hid (hk6.heap HX5.out (by omega))
  have HY6 := Lib.hid (hk6.heap HY5.out (by omega))
  have hgrl := block_lt HM6.out.rd0.bk
  have z2 := HM6.out.rd.c2
  have z0 := HM6.out.rd.c0
  obtain ⟨⟨y0, y1, y2, y3, y4⟩, ⟨e0, e1, e2, e3, e4⟩, hylt⟩ := box_cell HY6.out
  have HM7 := Lib.hid (HM6.out.put HY6.out hgy0 ((Keeps.refl (fun j => j = gy) w6).setCell (p := ⟨gy, 2, none⟩) (.inr rfl) (.int .i64 n)))
  have HY7 := Lib.hid (show (w6.setCell ⟨gy, 2, none⟩ (.int .i64 n)).heap[gy]? = some (.cells (box5 1 0 n 0 0) 35 (0, 0)) from block_set HY6.out 2 _)
  have HX7 := Lib.hid ((heap_setCell_other w6 ⟨gy, 2, none⟩ gx (.int .i64 n) hxy).trans HX6.out)
  have hgry : ¬ gr = gy := by omega
  clear hr6 hk6 hF6 CL HM5 HX5 HY5
  rw [← HDV.out] at z2
  have HKE := Lib.hid HM7.out.kp
  clear HDV HM7 HM6 HX6 HX7 HY6 HY7
  go_wp2_with fail
  refine (CM4.out _).mono ?_; rintro e w7 ⟨rfl, h7⟩; rw [h7]; clear h7 w7
  go_wp2_with fail
  exact ⟨rfl, rfl, HKE.out⟩
set_option maxHeartbeats 3200000 in
theorem tok27FarNo (w0 : World) (gr g gm gd : Nat) (M d : List Int) (s : List UInt8) (t : Nat) (h : Rd27 w0 gr g gm (.pointer (some ⟨gd, 0, none⟩)) M (some d)) (hr : IsReader w0 g s t) (X Y : Int) (hX : nextL M 15 ((spread s).drop t) = (X, Y, 0)) (t2 : Nat) (ht2 : t + Y.toNat = t2) (k : Nat) (hk : k ≤ 28) (CO : Hid (∀ W, Calls Tryz.prog 83 #[.int .i64 X] W fun e w' => e = .returned (.tuple #[.int .i64 1, .int .i64 0, .int .i64 0, .int .i64 k, .int .i64 0]) ∧ W = w')) (n p : Nat) (hN : numL (spread s) t2 k = .good n p) (X2 Y2 E : Int) (hX2 : nextL d 15 ((spread s).drop p) = (X2, Y2, E)) (hE : E ≠ 0) :
    Calls Tryz.prog 58 #[.pointer (some ⟨gr, 0, none⟩)] w0 (EndT (.bad (musE E)) w0 g s) := by
  obtain ⟨dv, hdv⟩ : ∃ dv, Value.pointer (some ⟨gd, 0, none⟩) = dv := ⟨_, rfl⟩
  obtain ⟨D, hD⟩ : ∃ D, some d = D := ⟨_, rfl⟩
  rw [hdv, hD] at h
  have CL := Lib.hid (fun W (h : Mid w0 W gr g gm dv M D s t2) => num27L W gr g t2 k s h.rd.c0 h.rd.ne h.at' hk)
  rw [hN] at CL
  have CN2 := Lib.hid (fun W (h : Mid w0 W gr g gm dv M D s p) => nx27No W (feet27 g gr) gr gd g d s p h.rd.c0 (by
    have h2 := h.rd.td
    rw [← hdv, ← hD] at h2
    obtain ⟨gd', e, h3, -⟩ := h2
    obtain rfl : gd = gd' := by simpa using e
    exact h3) h.at' X2 Y2 E hX2 hE)
  have HGL := Lib.hid hr.lt
  have HDV := Lib.hid hdv.symm
  clear hN hdv hD hX2
  have c1 := h.c1
  have hgrl := block_lt h.bk
  have HM := Lib.hid (show Mid w0 w0 gr g gm dv M D s t from ⟨h, hr, Keeps.refl _ _, fun _ h => h⟩)
  have CN := Lib.hid (fun W (h : Mid w0 W gr g gm dv M D s t) => nx27Ok W (feet27 g gr) gr gm g M s t h.rd.c0 h.rd.tm h.at' X Y hX)
  have CM := Lib.hid m27Ok
  rw [ht2] at CN
  clear ht2 hX h hr
  go_enter Tryz.func58, Tryz.ntmps58
  go_wp2_with fail
  have HX1 := Lib.hid (box_new w0 0 0 0 0 0)
  have HM1 := Lib.hid (HM.out.low ((Below.refl _ w0).alloc (Nat.le_refl _) (.cells #[.int .i64 0, .int .i64 0, .int .i64 0, .int .i64 0, .int .i64 0] 35)))
  have hgg : g < w0.heap.size := HM.out.at'.lt
  obtain ⟨w1, hw1⟩ : ∃ w1, w0.alloc (.cells #[.int .i64 0, .int .i64 0, .int .i64 0, .int .i64 0, .int .i64 0] 35) = w1 := ⟨_, rfl⟩
  obtain ⟨gx, hgx⟩ : ∃ gx, w0.heap.size = gx := ⟨_, rfl⟩
  have hgx0 : w0.heap.size ≤ gx := by omega
  rw [hw1] at HM1 HX1 ⊢
  rw [hgx] at hgg HX1 ⊢
  clear hw1 hgx c1 hgrl HM
  refine (CN.out w1 HM1.out).mono ?_; rintro e w2 ⟨rfl, hr2, hk2, hF2⟩
  have HM2 := Lib.hid (HM1.out.go hr2 hk2 hF2)
  have HX2 := Lib.hid (hk2.heap HX1.out (by omega))
  clear hr2 hk2 hF2 HM1 HX1 CN
  go_wp2_with fail
  refine (CO.out _).mono ?_; rintro e w3 ⟨rfl, rfl⟩
  go_wp2_with fail
  refine (CM.out _).mono ?_; rintro e w4 ⟨rfl, h4⟩; rw [h4]; clear h4 w4 CO
  obtain ⟨gy, hgy⟩ : ∃ gy, w2.heap.size = gy := ⟨_, rfl⟩
  go_wp2_with fail
  have HY5 := Lib.hid (box_new w2 1 0 0 0 0)
  have HB5 := (Below.refl w2.heap.size w2).alloc (Nat.le_refl _) (.cells #[.int .i64 1, .int .i64 0, .int .i64 0, .int .i64 0, .int .i64 0] 35)
  have HM5 := Lib.hid (HM2.out.low HB5)
  have HX5 := Lib.hid ((HB5.block gx (block_lt HX2.out)).trans HX2.out)
  have hgy0 : w0.heap.size ≤ gy := by rw [← hgy]; exact HM2.out.kp.size
  obtain ⟨w5, hw5⟩ : ∃ w5, w2.alloc (.cells #[.int .i64 1, .int .i64 0, .int .i64 0, .int .i64 0, .int .i64 0] 35) = w5 := ⟨_, rfl⟩
  rw [hw5] at HM5 HX5 HY5 ⊢
  try rw [hgy]
  rw [hgy] at HY5
  have hxy : gx ≠ gy := by have := block_lt HX2.out; omega
  have hgg0 : g < w0.heap.size := HM2.out.rd0.c0 |> fun _ => HGL.out
  clear HB5 hw5 hgy HM2 HX2
  refine (CL.out w5 HM5.out).mono ?_; rintro e w6 ⟨rfl, hr6, hk6, hF6⟩
  have HM6 := Lib.hid (HM5.out.go hr6 hk6 hF6)
  have HX6 := Lib.hid (hk6.heap HX5.out (by omega))
  have HY6 := Lib.hid (hk6.heap HY5.out (by omega))
  have hgrl := block_lt HM6.out.rd0.bk
  have z2 := HM6.out.rd.c2
  have z0 := HM6.out.rd.c0
  obtain ⟨⟨y0, y1, y2, y3, y4⟩, ⟨e0, e1, e2, e3, e4⟩, hylt⟩ := box_cell HY6.out
  have HM7 := Lib.hid (HM6.out.put HY6.out hgy0 ((Keeps.refl (fun j => j = gy) w6).setCell (p := ⟨gy, 2, none⟩) (.inr rfl) (.int .i64 n)))
  have HY7 := Lib.hid (show (w6.setCell ⟨gy, 2, none⟩ (.int .i64 n)).heap[gy]? = some (.cells (box5 1 0 n 0 0) 35 (0, 0)) from block_set HY6.out 2 _)
  have HX7 := Lib.hid ((heap_setCell_other w6 ⟨gy, 2, none⟩ gx (.int .i64 n) hxy).trans HX6.out)
  have hgry : ¬ gr = gy := by omega
  clear hr6 hk6 hF6 CL HM5 HX5 HY5
  rw [HDV.out] at z2
  have hp7 : (w6.setCell ⟨gy, 2, none⟩ (.int .i64 n)).cell? ⟨gr, 0, none⟩ = some (.pointer (some ⟨g, 0, none⟩)) := HM7.out.rd.c0
  have hp72 : (w6.setCell ⟨gy, 2, none⟩ (.int .i64 n)).cell? ⟨gr, 2, none⟩ = some dv := HM7.out.rd.c2
  rw [HDV.out] at hp72
  clear z2 z0
  have hgy7 : w6.heap.size = (w6.setCell ⟨gy, 2, none⟩ (.int .i64 n)).heap.size := by simp
  go_wp2_with fail
  obtain ⟨w7, hw7⟩ : ∃ w7, w6.setCell ⟨gy, 2, none⟩ (.int .i64 n) = w7 := ⟨_, rfl⟩
  rw [hw7] at HM7 HX7 HY7 ⊢
  clear hw7 hp7 hp72 hgy7 HM6 HX6 HY6 y0 y1 y2 y3 y4 e0 e1 e2 e3 e4 hylt
  refine (CN2.out w7 HM7.out).mono ?_; rintro e w8 ⟨rfl, hk8⟩
  have HKE := Lib.hid (HM7.out.kp.trans hk8)
  clear hk8 CN2 HM7 HX7 HY7
  go_wp2_with fail
  exact ⟨rfl, rfl, HKE.out⟩
end Go.Proofs.YtmhjmoeeahepaaaGreat
