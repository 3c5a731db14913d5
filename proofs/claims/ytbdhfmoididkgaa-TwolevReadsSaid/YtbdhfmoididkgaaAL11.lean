/- Layer 11: Next. -/
import Derived.Test.YtbdhfmoididkgaaAL10
import Derived.Test.YtbdhfmoididkgaaJ2
namespace Go.Proofs.Ytbdhfmoididkgaa
open Go.ChangeShapes Go.WideShapes Go.ChangeAt Go.RowKit Go.Lib
set_option linter.unusedVariables false
set_option linter.unusedSimpArgs false
set_option maxRecDepth 100000
open Two KraftMath CanonMath TurnMath Bits
theorem tNextNil (p : Option Addr) (w : World) : Calls Try.prog 13 #[.pointer none, .pointer p] w fun e w' => e = .returned (.tuple #[.int .i64 0, .int .i64 1]) ∧ w' = w := by
  go_enter Try.func13, Try.ntmps13
  go_wp2_with fail
  go_ret2
  exact ⟨rfl, rfl⟩
theorem tNextNone (g : Nat) (w : World) : Calls Try.prog 13 #[.pointer (some ⟨g, 0, none⟩), .pointer none] w fun e w' => e = .returned (.tuple #[.int .i64 0, .int .i64 1]) ∧ w' = w := by
  go_enter Try.func13, Try.ntmps13
  go_wp2_with fail
  go_ret2
  exact ⟨rfl, rfl⟩
theorem two_in {l : List Int} {L root k : Nat} {short long : List Ent} {hs : List Nat} (t : Two l L root k short long hs) (hr : root ≤ L) (hL : L ≤ 15) (w : Nat) (hw : w < 2 ^ L) (hf : (short.getD (w % 2 ^ root) z0).2.2.1 = true) :
    ∃ f : Nat, short.getD (w % 2 ^ root) z0 = (0, 0, true, (f : Int)) ∧ f + w / 2 ^ root < long.length ∧ long.length ≤ 32768 := by
  have hR : 0 < 2 ^ root := Nat.pow_pos (by decide)
  have hP : 2 ^ L = 2 ^ (L - root) * 2 ^ root := by rw [← Nat.pow_add]; congr 1; omega
  have hwr : w % 2 ^ root < 2 ^ root := Nat.mod_lt _ hR
  have hwd : w / 2 ^ root < 2 ^ (L - root) := by rw [Nat.div_lt_iff_lt_mul hR, ← hP]; exact hw
  by_cases hm : w % 2 ^ root ∈ hs
  · obtain ⟨i, hi, e2⟩ := List.mem_iff_getElem.1 hm
    have h1 := t.fr i hi
    rw [e2] at h1
    refine ⟨_, h1, ?_, ?_⟩
    · rw [t.ll]
      calc _ < i * 2 ^ (L - root) + 2 ^ (L - root) := by omega
        _ = (i + 1) * 2 ^ (L - root) := by rw [Nat.add_mul, Nat.one_mul]
        _ ≤ _ := Nat.mul_le_mul_right _ hi
    · have hmany : hs.length ≤ 2 ^ root := nodup_le _ _ t.nd t.lt
      have hP2 : 2 ^ L ≤ 2 ^ 15 := Nat.pow_le_pow_right (by decide) hL
      have hmm : hs.length * 2 ^ (L - root) ≤ 2 ^ root * 2 ^ (L - root) := Nat.mul_le_mul_right _ hmany
      rw [t.ll]
      rw [Nat.mul_comm] at hP
      omega
  · rw [t.nf _ hwr hm] at hf
    cases hf
theorem ent_le2 {l : List Int} {L v : Nat} (hl : ∀ s, s < l.length → len l s ≤ L) : (entB l L v).2 ≤ L ∧ ((entB l L v).2 = 0 → (entB l L v).1 = 0) ∧ (entB l L v).1 ≤ l.length := by
  unfold entB entK
  cases hf : (List.range l.length).find? (hitAt l (bitsOf v L)) with
  | none => simp
  | some s =>
    have h1 := List.find?_some hf
    have h2 := List.mem_range.1 (List.mem_of_find?_eq_some hf)
    refine ⟨hl s h2, fun h0 => ?_, Nat.le_of_lt h2⟩
    unfold hitAt at h1
    simp only at h0
    rw [h0] at h1
    simp at h1
theorem IsT2.apart {w : World} {B gt gs R root L g t : Nat} {vl : Value} {short long : List Ent} {s : List UInt8} (h : IsT2 w B gt gs R root L vl short long) (hr : IsReader w g s t) : gt ≠ g ∧ gs ≠ g ∧ vl.ownBlock ≠ some g := by
  obtain ⟨p, L', C', hg, -⟩ := hr
  refine ⟨fun e => ?_, fun e => own_ne h.rs hg (by decide) (by rw [e]; rfl), fun e => own_ne h.rl hg (by decide) e⟩
  have h1 := h.tb
  rw [e, hg] at h1
  injection h1 with h1
  injection h1 with h1 h2
  exact absurd h2 (by decide)
theorem IsT2.keeps {w w' : World} {B gt gs R root L g t : Nat} {vl : Value} {short long : List Ent} {s : List UInt8} (h : IsT2 w B gt gs R root L vl short long) (hr : IsReader w g s t) (hk : Keeps (fun j => j = g) w w') : IsT2 w' B gt gs R root L vl short long := by
  obtain ⟨h1, h2, h3⟩ := h.apart hr
  exact ⟨hk.heap h.tb h1, hk.ownsRow h.rs (fun j hj e => h2 (by
    have e1 : gs = j := by simpa [Value.ownBlock] using hj
    rw [e1]; exact e)), hk.ownsRow h.rl (fun j hj e => h3 (by
    have e : j = g := e
    rw [hj, e])), h.sl⟩
set_option maxHeartbeats 6400000 in
theorem tNext (w : World) (B gt gs g R root L N C : Nat) (ao : Option Addr) (l : List Int) (short long : List Ent) (hs : List Nat) (s : List UInt8) (t : Nat) (hr1 : 1 ≤ root) (hrL : root ≤ L) (hL : L ≤ 15) (hlen : ∀ s, s < l.length → len l s ≤ L) (hll : l.length ≤ 1024) (hR : 2 ^ root = R) (ht : IsT2 w B gt gs R root L (.slice ao N C) short long) (tw : Two l L root l.length short long hs) (hrd : IsReader w g s t) (X Y E : Int) (hX : nextL l L ((spread s).drop t) = (X, Y, E)) :
    Calls Try.prog 13 #[.pointer (some ⟨gt, 0, none⟩), .pointer (some ⟨g, 0, none⟩)] w fun e w' => e = .returned (.tuple #[.int .i64 X, .int .i64 E]) ∧ IsReader w' g s (t + Y.toNat) ∧ Keeps (fun j => j = g) w w' := by
  have hRp : 0 < R := by rw [← hR]; exact Nat.pow_pos (by decide)
  have hR15 : R ≤ 32768 := by rw [← hR]; exact Nat.le_trans (Nat.pow_le_pow_right (by decide) (show root ≤ 15 by omega)) (by decide)
  obtain ⟨P, hP⟩ : ∃ P, peek ((spread s).drop t) L = P := ⟨_, rfl⟩
  have hPl := peek_lt ((spread s).drop t) L
  rw [hP] at hPl
  have hP15 : 2 ^ L ≤ 2 ^ 15 := Nat.pow_le_pow_right (by decide) hL
  have hel := ent_le2 (l := l) (L := L) (v := P) hlen
  have hlk := tw.lk P hPl
  have hin := two_in tw hrL hL P hPl
  unfold nextL at hX
  rw [hP] at hX
  have CP := Lib.hid (fun W h => rPeekU W g t s (L : Int) h P (by unfold peekS; rw [if_neg (by omega), Int.toNat_natCast, hP]))
  have hentK : entK l L l.length P = entB l L P := rfl
  rw [hentK] at hlk
  obtain ⟨⟨sy, n⟩, hent⟩ : ∃ q, entB l L P = q := ⟨_, rfl⟩
  rw [hent] at hel hX hlk
  simp only at hX hel hlk
  have hsy : sy ≤ 1024 := by have := hel.2.2; omega
  have hwl : (spread s).length - t = ((spread s).drop t).length := by rw [List.length_drop]
  rw [hR] at hin
  have hHR : P % R < R := Nat.mod_lt _ hRp
  have hls : short.length = R := by rw [tw.ls, hR]
  obtain ⟨⟨E1, E2, E3, E4⟩, hE⟩ : ∃ e, short.getD (P % R) z0 = e := ⟨_, rfl⟩
  have hE' : short[P % R]? = some (E1, E2, E3, E4) := by
    rw [List.getD_eq_getElem?_getD, List.getElem?_eq_getElem (by rw [hls]; exact hHR)] at hE
    rw [List.getElem?_eq_getElem (by rw [hls]; exact hHR)]
    exact congrArg some hE
  have CA := Lib.hid (fun W (h : IsT2 W B gt gs R root L (.slice ao N C) short long) => tAt W B gt gs R root L P (.slice ao N C) short long h hR (by omega) (by omega) E1 E2 E4 E3 hE')
  unfold Two.look at hlk
  simp only [hR] at hlk
  rw [hE] at hlk hin
  have HT := Lib.hid ht
  have t0 : w.cell? ⟨gt, 0, none⟩ = some (.slice (some ⟨gs, 0, none⟩) R R) := cell_lit ht.tb 0 _ rfl
  have t3 : w.cell? ⟨gt, 3, none⟩ = some (.int .i64 L) := cell_lit ht.tb 3 _ rfl
  have hRz : ((R : Int) == 0) = false := by rw [beq_eq_false_iff_ne]; omega
  have hRz2 : ¬ R = 0 := by omega
  have HRD := Lib.hid hrd; have HX := Lib.hid hX; have HWL := Lib.hid hwl; have HEL := Lib.hid hel; have HLK := Lib.hid hlk; have HIN := Lib.hid hin; have HR := Lib.hid hR; have HP15 := Lib.hid hP15; have HPL := Lib.hid hPl; have HTW := Lib.hid tw
  have HRP := Lib.hid hRp; have HR15 := Lib.hid hR15
  clear ht hrd hX hwl hent hel hP hlk hin hR hP15 hPl tw hE hE' hHR hls hentK hlen hRp hR15
  go_enter Try.func13, Try.ntmps13
  go_wp2_with fail
  refine (CP.out _ HRD.out).mono ?_; rintro e w1 ⟨rfl, hb1⟩
  have HT1 := Lib.hid (HT.out.kept hb1)
  have HB1 := Lib.hid hb1
  clear hb1 CP t0 t3 hRz hRz2
  go_wp2_with fail
  refine (CA.out _ HT1.out).mono ?_; rintro e w2 ⟨rfl, hb2⟩
  have HT2 := Lib.hid (HT1.out.kept hb2)
  have HB2 := Lib.hid (HB1.out.trans (hb2.mono HB1.out.size))
  have HB2r := Lib.hid (show w.heap.size ≤ w2.heap.size from HB2.out.size)
  clear hb2 CA
  iterate 12 (first | go_values | go_skip | go_guarded | go_step | go_upon | go_back | (simp only [Int.not_lt, Int.not_le] at *; go_simp) | (go_values <;> (try go_simp)))
  obtain ⟨gb, hgb⟩ : ∃ gb, w2.heap.size = gb := ⟨_, rfl⟩
  obtain ⟨W, hW⟩ : ∃ W, w2.alloc (.cells #[.int .i32 E1, .int .i16 E2, .bool E3, .int .i32 E4] 56) = W := ⟨_, rfl⟩
  have HBX := Lib.hid (show W.heap[gb]? = some (.cells #[.int .i32 E1, .int .i16 E2, .bool E3, .int .i32 E4] 56 (0, 0)) by rw [← hW, ← hgb]; exact heap_alloc_new _ _)
  have HTW2 := Lib.hid (show IsT2 W B gt gs R root L (.slice ao N C) short long by rw [← hW]; exact HT2.out.kept ((Below.refl _ _).alloc (Nat.le_refl _) _))
  have HB2 := Lib.hid (show Below w.heap.size w W by rw [← hW]; exact HB2.out.alloc HB2.out.size _)
  have HGB := Lib.hid (show w.heap.size ≤ gb by rw [← hgb]; exact HB2r.out)
  rw [hgb, hW]
  clear hgb hW HT2 HT1 HB1
  cases E3 with
  | false =>
    have hlk := HLK.out
    simp only [Bool.false_eq_true, if_false] at hlk
    injection hlk with e1 e2
    subst e1 e2
    have b2 : W.cell? ⟨gb, 2, none⟩ = some (.bool false) := cell_lit HBX.out 2 _ rfl
    have b0 : W.cell? ⟨gb, 0, none⟩ = some (.int .i32 sy) := cell_lit HBX.out 0 _ rfl
    have b1 : W.cell? ⟨gb, 1, none⟩ = some (.int .i16 n) := cell_lit HBX.out 1 _ rfl
    have hr2 := HRD.out.kept HB2.out
    have htl := HRD.out.le
    have hn15 := HEL.out.1
    by_cases hn0 : n = 0
    · have hs0 := HEL.out.2.1 hn0
      subst hn0
      subst hs0
      have hx := HX.out
      rw [if_pos rfl] at hx
      injection hx with e1 e2
      injection e2 with e2 e3
      subst e1 e2 e3
      have HRR := Lib.hid hr2
      have HK := Lib.hid (show Keeps (fun j => j = g) w W from Keeps.of_below HB2.out)
      clear hr2
      go_wp2_with fail
      go_ret2
      exact ⟨rfl, HRR.out, HK.out⟩
    · have hx := HX.out
      rw [if_neg hn0] at hx
      have hnb : ((n : Int) == 0) = false := by rw [beq_eq_false_iff_ne]; omega
      have hwl := HWL.out
      by_cases hsh : ((spread s).drop t).length < n
      · rw [if_pos hsh] at hx
        injection hx with e1 e2
        injection e2 with e2 e3
        subst e1 e2 e3
        have CS := Lib.hid (rSkipU W g t s (n : Int) hr2 t 0 3 (by unfold takeS; rw [if_neg (by omega), if_pos (by rw [Int.toNat_natCast]; omega)]))
        clear hr2 hsh hwl
        go_wp2_with fail
        refine CS.out.mono ?_; rintro e w6 ⟨rfl, hr6, hk6⟩
        have HRR := Lib.hid hr6
        have HK := Lib.hid ((show Keeps (fun j => j = g) w W from Keeps.of_below HB2.out).trans hk6)
        clear hr6 hk6
        go_wp2_with fail
        go_ret2
        exact ⟨rfl, HRR.out, HK.out⟩
      · rw [if_neg hsh] at hx
        injection hx with e1 e2
        injection e2 with e2 e3
        subst e1 e2 e3
        have CS := Lib.hid (rSkipU W g t s (n : Int) hr2 (t + n) (peek ((spread s).drop t) n) 0 (by unfold takeS; rw [if_neg (by omega), if_neg (by rw [Int.toNat_natCast]; omega), Int.toNat_natCast]))
        clear hr2 hsh hwl
        go_wp2_with fail
        refine CS.out.mono ?_; rintro e w6 ⟨rfl, hr6, hk6⟩
        have HRR := Lib.hid (show IsReader w6 g s (t + ((n : Nat) : Int).toNat) by rw [Int.toNat_natCast]; exact hr6)
        have HK := Lib.hid ((show Keeps (fun j => j = g) w W from Keeps.of_below HB2.out).trans hk6)
        have b0 := (hk6.heap HBX.out (by
          have := IsReader.lt HRD.out
          have := HGB.out
          show ¬ gb = g; omega))
        have b0 : w6.cell? ⟨gb, 0, none⟩ = some (.int .i32 sy) := cell_lit b0 0 _ rfl
        clear hr6 hk6
        go_wp2_with fail
        go_ret2
        exact ⟨rfl, HRR.out, HK.out⟩
  | true =>
    obtain ⟨f, h1, h2, h3⟩ := HIN.out rfl
    injection h1 with e1 e2
    injection e2 with e2 e3
    injection e3 with e3 e4
    subst e1 e2 e4
    have hlk := HLK.out
    simp only [if_true, Int.toNat_natCast] at hlk
    obtain ⟨o1, o2, o3⟩ := own_slice4 HTW2.out.rl
    obtain ⟨Q, hQ⟩ : ∃ Q, P / R = Q := ⟨_, rfl⟩
    rw [hQ] at h2 hlk
    obtain ⟨gl, rfl⟩ := o3 (by omega)
    obtain ⟨⟨F1, F2, F3, F4⟩, hF⟩ : ∃ e, long.getD (f + Q) z0 = e := ⟨_, rfl⟩
    have hF' : long[f + Q]? = some (F1, F2, F3, F4) := by
      rw [List.getD_eq_getElem?_getD, List.getElem?_eq_getElem h2] at hF
      rw [List.getElem?_eq_getElem h2]
      exact congrArg some hF
    rw [hF] at hlk
    injection hlk with e1 e2
    subst e1 e2
    have c0 := OwnS.cell flatT HTW2.out.rl (f + Q) 0 _ hF' (by decide)
    have c1 := OwnS.cell flatT HTW2.out.rl (f + Q) 1 _ hF' (by decide)
    have c2 := OwnS.cell flatT HTW2.out.rl (f + Q) 2 _ hF' (by decide)
    have c3 := OwnS.cell flatT HTW2.out.rl (f + Q) 3 _ hF' (by decide)
    simp only [fT, List.getElem?_cons_zero, List.getElem?_cons_succ, Nat.add_zero] at c0 c1 c2 c3
    have t1 : W.cell? ⟨gt, 1, none⟩ = some (.int .i64 root) := cell_lit HTW2.out.tb 1 _ rfl
    have t2 : W.cell? ⟨gt, 2, none⟩ = some (.slice (some ⟨gl, 0, none⟩) N C) := cell_lit HTW2.out.tb 2 _ rfl
    have b0 : W.cell? ⟨gb, 0, none⟩ = some (.int .i32 0) := cell_lit HBX.out 0 _ rfl
    have b1 : W.cell? ⟨gb, 1, none⟩ = some (.int .i16 0) := cell_lit HBX.out 1 _ rfl
    have b2 : W.cell? ⟨gb, 2, none⟩ = some (.bool true) := cell_lit HBX.out 2 _ rfl
    have b3 : W.cell? ⟨gb, 3, none⟩ = some (.int .i32 f) := cell_lit HBX.out 3 _ rfl
    have f0 := free_in HBX.out 0
    have f1 := free_in HBX.out 1
    have f2 := free_in HBX.out 2
    have f3 := free_in HBX.out 3
    have hmr : min root 64 = root := by omega
    have hShr : (P : Int) / 2 ^ root = (Q : Int) := by
      have e1 : (2 : Int) ^ root = ((2 ^ root : Nat) : Int) := by simp
      rw [e1, HR.out, ← hQ]; simp
    obtain ⟨I, hI⟩ : ∃ I, f + Q = I := ⟨_, rfl⟩
    rw [hI] at c0 c1 c2 c3 h2
    have hQ15 : Q ≤ 32768 := by omega
    have hw1 : IntKind.i64.wrap (f : Int) = f := by rw [IntKind.wrap_i64]; omega
    have hw2 : IntKind.i64.wrap (Q : Int) = Q := by rw [IntKind.wrap_i64]; omega
    have hw3 : IntKind.i64.wrap ((f : Int) + (Q : Int)) = (I : Int) := by rw [IntKind.wrap_i64]; omega
    have hI0 : (0 : Int) ≤ (I : Int) := by omega
    have hI1 : (I : Int) < (N : Int) := by omega
    clear hI hQ hF hF' h3 o3 o1 o2 h2
    iterate 1 (first | go_values | go_skip | go_guarded | go_step | go_upon | go_back | (simp only [Int.not_lt, Int.not_le] at *; go_simp) | (go_values <;> (try go_simp)))
    go_wp2_with fail
    go_still_tail 18, (by kernel_rfl)
    clear hmr hShr hw1 hw2 hw3 hI0 hI1
    change wpList _ _ _ _ _ W.drew
    iterate 4 (first | go_values | go_skip | go_guarded | go_step | go_upon | go_back | (simp only [Int.not_lt, Int.not_le] at *; go_simp) | (go_values <;> (try go_simp)))
    obtain ⟨W2, hW2⟩ : ∃ W2, ((((W.setCell ⟨gb, 0, none⟩ (.int .i32 (sy : Int))).setCell ⟨gb, 1, none⟩ (.int .i16 (n : Int))).setCell ⟨gb, 2, none⟩ (.bool F3)).setCell ⟨gb, 3, none⟩ (.int .i32 F4)).drew = W2 := ⟨_, rfl⟩
    rw [hW2]
    have HBX := Lib.hid (show W2.heap[gb]? = some (.cells #[.int .i32 (sy : Int), .int .i16 (n : Int), .bool F3, .int .i32 F4] 56 (0, 0)) by
      rw [← hW2]
      exact block_set (block_set (block_set (block_set HBX.out 0 _) 1 _) 2 _) 3 _)
    have HB2 := Lib.hid (show Below w.heap.size w W2 by
      rw [← hW2]
      exact ((((HB2.out.setCell (p := ⟨gb, 0, none⟩) HGB.out _).setCell (p := ⟨gb, 1, none⟩) HGB.out _).setCell (p := ⟨gb, 2, none⟩) HGB.out _).setCell (p := ⟨gb, 3, none⟩) HGB.out _).drew)
    clear hW2 c0 c1 c2 c3 t1 t2 b0 b1 b2 b3 f0 f1 f2 f3
    have b0 : W2.cell? ⟨gb, 0, none⟩ = some (.int .i32 sy) := cell_lit HBX.out 0 _ rfl
    have b1 : W2.cell? ⟨gb, 1, none⟩ = some (.int .i16 n) := cell_lit HBX.out 1 _ rfl
    have hr2 := HRD.out.kept HB2.out
    have htl := HRD.out.le
    have hn15 := HEL.out.1
    by_cases hn0 : n = 0
    · have hs0 := HEL.out.2.1 hn0
      subst hn0
      subst hs0
      have hx := HX.out
      rw [if_pos rfl] at hx
      injection hx with e1 e2
      injection e2 with e2 e3
      subst e1 e2 e3
      have HRR := Lib.hid hr2
      have HK := Lib.hid (show Keeps (fun j => j = g) w W2 from Keeps.of_below HB2.out)
      clear hr2
      go_wp2_with fail
      go_ret2
      exact ⟨rfl, HRR.out, HK.out⟩
    · have hx := HX.out
      rw [if_neg hn0] at hx
      have hnb : ((n : Int) == 0) = false := by rw [beq_eq_false_iff_ne]; omega
      have hwl := HWL.out
      by_cases hsh : ((spread s).drop t).length < n
      · rw [if_pos hsh] at hx
        injection hx with e1 e2
        injection e2 with e2 e3
        subst e1 e2 e3
        have CS := Lib.hid (rSkipU W2 g t s (n : Int) hr2 t 0 3 (by unfold takeS; rw [if_neg (by omega), if_pos (by rw [Int.toNat_natCast]; omega)]))
        clear hr2 hsh hwl
        go_wp2_with fail
        refine CS.out.mono ?_; rintro e w6 ⟨rfl, hr6, hk6⟩
        have HRR := Lib.hid hr6
        have HK := Lib.hid ((show Keeps (fun j => j = g) w W2 from Keeps.of_below HB2.out).trans hk6)
        clear hr6 hk6
        go_wp2_with fail
        go_ret2
        exact ⟨rfl, HRR.out, HK.out⟩
      · rw [if_neg hsh] at hx
        injection hx with e1 e2
        injection e2 with e2 e3
        subst e1 e2 e3
        have CS := Lib.hid (rSkipU W2 g t s (n : Int) hr2 (t + n) (peek ((spread s).drop t) n) 0 (by unfold takeS; rw [if_neg (by omega), if_neg (by rw [Int.toNat_natCast]; omega), Int.toNat_natCast]))
        clear hr2 hsh hwl
        go_wp2_with fail
        refine CS.out.mono ?_; rintro e w6 ⟨rfl, hr6, hk6⟩
        have HRR := Lib.hid (show IsReader w6 g s (t + ((n : Nat) : Int).toNat) by rw [Int.toNat_natCast]; exact hr6)
        have HK := Lib.hid ((show Keeps (fun j => j = g) w W2 from Keeps.of_below HB2.out).trans hk6)
        have b0 := (hk6.heap HBX.out (by
          have := IsReader.lt HRD.out
          have := HGB.out
          show ¬ gb = g; omega))
        have b0 : w6.cell? ⟨gb, 0, none⟩ = some (.int .i32 sy) := cell_lit b0 0 _ rfl
        clear hr6 hk6
        go_wp2_with fail
        go_ret2
        exact ⟨rfl, HRR.out, HK.out⟩
end Go.Proofs.Ytbdhfmoididkgaa
