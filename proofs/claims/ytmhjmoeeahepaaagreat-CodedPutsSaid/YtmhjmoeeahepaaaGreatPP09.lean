import Derived.Test.YtmhjmoeeahepaaaGreatPP08
import Derived.Test.YtmhjmoeeahepaaaGreatPP07
/- Layer 7: the rows of coins. -/
namespace Go.Proofs.YtmhjmoeeahepaaaGreat
open Go.ChangeShapes Go.WideShapes Go.ChangeAt Go.RowKit
set_option linter.unusedVariables false
set_option linter.unusedSimpArgs false
set_option maxRecDepth 100000
open Pm
def fS (p : Nat × Nat × Nat) : List Value := [.slice (some ⟨p.1, 0, none⟩) p.2.1 p.2.2]
theorem flatS : Flat fS 1 := fun x => ⟨rfl, by intro u hu; simp [fS] at hu; subst hu; rfl⟩
theorem info_crow : (Tryz.prog.info? 115).map (fun i => (i.zero, i.size, i.bytes)) = some (some (.slice none 0 0), 1, 24) := by kernel_rfl
abbrev OwnCo (B : Nat) (w : World) (v : Value) (l : List (Nat × Nat × Nat)) : Prop := OwnS fS 115 1 B w v l
theorem app_crow {X : World} {ops : Array Oper} {rest : List Oper} {o : Oper} {a : Act} {Q : Exit → Act → World → Prop} (hgd : o.guard = none) (s xo : Operand)
    (ho : o.op = .call { callee := .builtin .append, args := #[s, xo], argTypes := #[113, 113] })
    (B T : Nat) (v : Value) (l : List (Nat × Nat × Nat)) (x y z : Nat) (hs : a.eval s = v) (hown : OwnCo B X v l) (g c1 : Nat) (hg : X.heap.size = g) (hx : a.eval xo = .slice (some ⟨g, 0, none⟩) 1 c1) (hl : l.length ≤ 1099511627776) (hB : B ≤ X.heap.size)
    (h : ∀ v' w', OwnCo B w' v' (l ++ [(x, y, z)]) → Below B X w' → X.grownBy w' v.ownBlock → wpList Tryz.prog ops Q rest (a.put o.dst v') w') : wpList Tryz.prog ops Q (o :: rest) a (X.alloc (.cells #[.slice (some ⟨x, 0, none⟩) y z] T)) :=
  app_one (f := fS) info_crow rfl (by decide) (by decide) Tryz.underlying113 flatS hgd s xo ho B T v l (x, y, z) hs hown g c1 hg hx hl hB h
/-- Rows of coins that a call owns. -/
def IsRows (B : Nat) (w : World) (v : Value) (ps : List (Nat × Nat × Nat)) (S : List Coin) : Prop := OwnCo B w v ps ∧ ∀ i p, ps[i]? = some p → p.2.1 = (rowF S i).length ∧ p.2.1 ≤ p.2.2 ∧ OwnC B w (.slice (some ⟨p.1, 0, none⟩) p.2.1 p.2.2) (rowF S i)
theorem IsRows.kept {B : Nat} {w w' : World} {v : Value} {ps : List (Nat × Nat × Nat)} {S : List Coin} (h : IsRows B w v ps S) (hb : Below w.heap.size w w') : IsRows B w' v ps S :=
  ⟨OwnS.kept h.1 hb, fun i p hp => ⟨(h.2 i p hp).1, (h.2 i p hp).2.1, OwnS.kept (h.2 i p hp).2.2 hb⟩⟩
theorem own_heap {B g n cap : Nat} {w : World} {l : List Coin} (h : OwnC B w (.slice (some ⟨g, 0, none⟩) n cap) l) : ∃ C, w.heap[g]? = some (.cells C 117 (0, 0)) := by
  rcases h.2 with ⟨h0, -⟩ | ⟨g', cap', cur, h0, _, hg, _⟩
  · simp at h0
  · simp only [Value.slice.injEq, Option.some.injEq, Addr.mk.injEq, and_true, true_and] at h0
    obtain ⟨rfl, -, -⟩ := h0
    exact ⟨cur, hg⟩
theorem IsRows.more {B : Nat} {w w' : World} {v v' : Value} {ps : List (Nat × Nat × Nat)} {S : List Coin} (h : IsRows B w v ps S) (hg : w.grownBy w' v.ownBlock) (x y z : Nat) (ho : OwnCo B w' v' (ps ++ [(x, y, z)])) (hy : y = (rowF S ps.length).length) (hyz : y ≤ z) (hx : OwnC B w (.slice (some ⟨x, 0, none⟩) y z) (rowF S ps.length)) : IsRows B w' v' (ps ++ [(x, y, z)]) S := by
  have keep : ∀ g n cap (l : List Coin), OwnC B w (.slice (some ⟨g, 0, none⟩) n cap) l → OwnC B w' (.slice (some ⟨g, 0, none⟩) n cap) l := fun g n cap l hl => by
    obtain ⟨C, hC⟩ := own_heap hl
    refine hl.grown hg (.inr ?_)
    have := own_ne h.1 hC (by decide)
    intro e
    exact this (by rw [← e]; rfl)
  refine ⟨ho, fun i p hp => ?_⟩
  by_cases hi : i < ps.length
  · rw [List.getElem?_append_left hi] at hp
    obtain ⟨a, b, c⟩ := h.2 i p hp
    exact ⟨a, b, keep _ _ _ _ c⟩
  · have hi2 : i = ps.length := by
      have := (List.getElem?_eq_some_iff.1 hp).1
      simp at this; omega
    subst hi2
    rw [List.getElem?_append_right (Nat.le_refl _), Nat.sub_self] at hp
    have : (x, y, z) = p := by simpa using hp
    subst this
    exact ⟨hy, hyz, keep _ _ _ _ hx⟩
theorem pairs_bd (M : Int) : ∀ l : List Coin, (∀ c ∈ l, 0 ≤ c.1 ∧ c.1 ≤ M) → ∀ c ∈ pairsF l, 0 ≤ c.1 ∧ c.1 ≤ 2 * M
  | [], _, c, hc => by simp [pairsF] at hc
  | [x], _, c, hc => by simp [pairsF] at hc
  | x :: y :: r, h, c, hc => by
    simp only [pairsF, List.mem_cons] at hc
    rcases hc with rfl | hc
    · have h1 := h x (by simp)
      have h2 := h y (by simp)
      simp only; omega
    · exact pairs_bd M r (fun z hz => h z (by simp [hz])) c hc
theorem row_bd (S : List Coin) (h : ∀ c ∈ S, 0 ≤ c.1 ∧ c.1 ≤ 4294967295) : ∀ i, ∀ c ∈ rowF S i, 0 ≤ c.1 ∧ c.1 ≤ 4294967295 * ((2 ^ i : Nat) : Int)
  | 0, c, hc => by have := h c hc; simp; omega
  | i + 1, c, hc => by
    have e : ((2 ^ (i + 1) : Nat) : Int) = 2 * ((2 ^ i : Nat) : Int) := by rw [Nat.pow_succ]; omega
    have hp : 1 ≤ ((2 ^ i : Nat) : Int) := by have := Nat.pow_pos (n := i) (show 0 < 2 by decide); omega
    rcases (mrg_mem _ _ _ _).1 hc with hc | hc
    · have := h c hc
      rw [e]; omega
    · have := pairs_bd _ _ (row_bd S h i) c hc
      rw [e]; omega
theorem row_bd16 (S : List Coin) (h : ∀ c ∈ S, 0 ≤ c.1 ∧ c.1 ≤ 4294967295) (i : Nat) (hi : i ≤ 16) : ∀ c ∈ rowF S i, 0 ≤ c.1 ∧ c.1 ≤ 1152921504606846976 := by
  intro c hc
  have h1 := row_bd S h i c hc
  have h2 : 2 ^ i ≤ 2 ^ 16 := Nat.pow_le_pow_right (by decide) hi
  have h3 : ((2 ^ i : Nat) : Int) ≤ 65536 := by
    have : (2 : Nat) ^ 16 = 65536 := by decide
    omega
  omega
theorem symC_set (F : Int → Int) (ss : List Int) (i : Nat) (hi : i < ss.length) : (symC (ss.map F))[i]'(by rw [symC_len, List.length_map]; exact hi) = (F ss[i], true) := by simp [symC]
theorem own_lie {B g n cap : Nat} {w : World} {l : List Coin} (h : OwnC B w (.slice (some ⟨g, 0, none⟩) n cap) l) : Lie w g 0 l := fun i c hi => by
  have h1 := h.cell flatC i 0 c hi (by decide)
  have h2 := h.cell flatC i 1 c hi (by decide)
  rw [Nat.zero_add]
  exact ⟨by simpa [fC] using h1, by simpa [fC] using h2⟩
theorem own_cap {B g n cap : Nat} {w : World} {l : List Coin} (h : OwnC B w (.slice (some ⟨g, 0, none⟩) n cap) l) : n = l.length ∧ n ≤ cap := by
  rcases h.2 with ⟨h0, -⟩ | ⟨g', cap', cur, h0, _, _, hnc, _⟩
  · simp at h0
  · simp only [Value.slice.injEq, Option.some.injEq, Addr.mk.injEq, and_true, true_and] at h0
    obtain ⟨rfl, rfl, rfl⟩ := h0
    exact ⟨rfl, hnc⟩
theorem own_rows1 {w : World} {g x y z B : Nat} (h : w.heap[g]? = some (.cells #[.slice (some ⟨x, 0, none⟩) y z] 115 (0, 0))) (hB : B ≤ g) : OwnCo B w (.slice (some ⟨g, 0, none⟩) 1 1) [(x, y, z)] := by
  refine ⟨by simp [fS], .inr ⟨g, 1, _, rfl, hB, h, by simp, by unfold maxLen; omega, by simp, ?_⟩⟩
  simp [fS]
set_option maxHeartbeats 3200000 in
theorem pRows (a : Option Addr) (c n : Nat) (l : List Int) (b : Option Addr) (d m : Nat) (ss : List Int) (L : Nat) (w : World) (hl : l.length = n) (hi : IsInts w a l) (hm : ss.length = m) (hs : IsInts w b ss) (hn : n ≤ 2000) (hm2 : 2 ≤ m) (hmn : m ≤ 2000) (hL1 : 1 ≤ L) (hL : L ≤ 16)
    (hd : ∀ u ∈ ss, ∃ k : Nat, u = k ∧ k < n) (hv : ∀ u ∈ ss, 0 ≤ frL l u ∧ frL l u ≤ 4294967295) :
    Calls Tryz.prog 71 #[.slice a n c, .slice b m d, .int .i64 L] w fun e w' => ∃ u ps, e = .returned u ∧ ps.length = L ∧ IsRows w.heap.size w' u ps (symC (ss.map (frL l))) ∧ Below w.heap.size w w' := by
  have HI := Lib.hid hi; have HS := Lib.hid hs; have HL := Lib.hid hl; have HM := Lib.hid hm; have HD := Lib.hid hd; have HV := Lib.hid hv
  obtain ⟨C, hC⟩ : ∃ C, symC (ss.map (frL l)) = C := ⟨_, rfl⟩
  have hCl : C.length = m := by rw [← hC, symC_len, List.length_map, hm]
  have HCL := Lib.hid hCl
  have HCV := Lib.hid (show ∀ c ∈ C, 0 ≤ c.1 ∧ c.1 ≤ 4294967295 from fun c hc => by
    rw [← hC] at hc
    unfold symC at hc
    rw [List.map_map] at hc
    obtain ⟨x, hx, rfl⟩ := List.mem_map.1 hc
    exact hv x hx)
  have HCG := Lib.hid (show ∀ i (h : i < ss.length), C[i]? = some (frL l ss[i], true) from fun i h => by
    rw [← hC, List.getElem?_eq_getElem (by rw [symC_len, List.length_map]; exact h), symC_set (frL l) ss i h])
  rw [hC]
  clear hi hs hl hm hd hv hC hCl
  go_enter Tryz.func71, Tryz.ntmps71
  go_wp2_with (refine make_full (f := fC) info_coin (by decide) Tryz.underlying115 (0, false) rfl flatC (by decide) rfl _ _ rfl .i64 .i64 (m : Int) (m : Int) m rfl rfl rfl rfl (by omega) ?_; intro w2 ho2 hb2 hs2)
  have HO := Lib.hid (show OwnC w.heap.size w2 (.slice (some ⟨w.heap.size, 0, none⟩) m m) (C.take 0 ++ List.replicate (m - 0) (0, false)) from ho2)
  have HB := Lib.hid hb2
  obtain ⟨gu, hgu⟩ : ∃ gu, w.heap.size = gu := ⟨_, rfl⟩
  rw [hgu] at HO HB ⊢
  have HGU := Lib.hid hgu
  clear ho2 hb2 hs2 hgu
  go_loopw [16] (fun iv wr => ∃ i : Nat, i ≤ m ∧ iv = .int .i64 i ∧ Hid (OwnC gu wr (.slice (some ⟨gu, 0, none⟩) m m) (C.take i ++ List.replicate (m - i) (0, false))) ∧ Hid (Below gu w wr)) (fun iv _ => m - (intOf iv).toNat)
  case atStart => exact ⟨0, Nat.zero_le _, rfl, HO, HB⟩
  case round =>
    clear HO HB
    obtain ⟨i, hi, rfl, HO, HB⟩ := hrel
    have hbw : Below w.heap.size w wr := by rw [HGU.out]; exact HB.out
    by_cases hlt : i < m
    · have hii : (i : Int) < m := by omega
      obtain ⟨y, rfl, hyb, hc⟩ := (HS.out.kept hbw).at i (by rw [HM.out]; exact hlt)
      have cy := hc i (by rw [HM.out]; exact hlt)
      have hui : ss.getD i 0 = ss[i]'(by rw [HM.out]; exact hlt) := by rw [List.getD_eq_getElem?_getD, List.getElem?_eq_getElem (by rw [HM.out]; exact hlt)]; rfl
      obtain ⟨k, hk1, hk2⟩ := HD.out (ss.getD i 0) (by rw [hui]; exact List.getElem_mem _)
      rw [hk1] at cy
      obtain ⟨x, rfl, hxb, hcx⟩ := (HI.out.kept hbw).at k (by rw [HL.out]; exact hk2)
      have cx := hcx k (by rw [HL.out]; exact hk2)
      have hP : C[i]'(by rw [HCL.out]; exact hlt) = (l.getD k 0, true) := by
        have := HCG.out i (by rw [HM.out]; exact hlt)
        rw [List.getElem?_eq_getElem (by rw [HCL.out]; exact hlt), ← hui, hk1] at this
        exact Option.some.inj this
      obtain ⟨X, hX⟩ : ∃ X, l.getD k 0 = X := ⟨_, rfl⟩
      rw [hX] at cx hP
      have hset := take_set C (0, false) i m HCL.out hlt
      rw [hP] at hset
      have hz0 : (C.take i ++ List.replicate (m - i) ((0, false) : Coin))[i]? = some (0, false) := by
        rw [List.getElem?_append_right (by rw [List.length_take]; omega), List.length_take_of_le (by rw [HCL.out]; omega), Nat.sub_self, List.getElem?_replicate, if_pos (by omega)]
      have c3 : wr.cell? ⟨gu, i * 2, none⟩ = some (.int .i64 0) := by have := HO.out.cell flatC i 0 _ hz0 (by decide); simpa [fC] using this
      have c4 : wr.cell? ⟨gu, i * 2 + 1, none⟩ = some (.bool false) := by have := HO.out.cell flatC i 1 _ hz0 (by decide); simpa [fC] using this
      have f1 := HO.out.free (i * 2)
      have f2 := HO.out.free (i * 2 + 1)
      have lg := (HO.out.lt _ rfl).2
      have hO2 := OwnS.set2 flatC HO.out i (X, true) (.int .i64 X) (.bool true) rfl (by rw [List.length_append, List.length_take_of_le (by rw [HCL.out]; omega), List.length_replicate]; omega)
      rw [hset] at hO2
      have HO2 := Lib.hid hO2
      have HB2 := Lib.hid ((HB.out.setCell (p := ⟨gu, i * 2, none⟩) (Nat.le_refl _) (.int .i64 X)).setCell (p := ⟨gu, i * 2 + 1, none⟩) (Nat.le_refl _) (.bool true))
      have hkn : (k : Int) < n := by omega
      clear hui hk1 hP hX hset hz0 hO2 hc hcx HO HB hbw
      go_wp2_with fail
      go_roundw
      case rel => exact ⟨i + 1, by omega, by go_num, HO2, HB2⟩
      case measure => simp [intOf] <;> omega
    · obtain rfl : m = i := by omega
      have hO2 := HO.out
      rw [Nat.sub_self, List.replicate_zero, List.append_nil, List.take_of_length_le (by rw [HCL.out]; exact Nat.le_refl _)] at hO2
      have HO2 := Lib.hid hO2
      clear hO2 HO
      go_wp2_with fail
      have hRB := Lib.hid (fun k hk => row_bd16 C HCV.out k hk)
      have hRM := Lib.hid (fun k => row_most C (by rw [HCL.out]; exact hm2) k)
      have hlu : gu < wr.heap.size := (HO2.out.lt _ rfl).2
      have hgr := heap_alloc_new wr (.cells #[.slice (some ⟨gu, 0, none⟩) m m] 115)
      have HBr := Lib.hid (HB.out.alloc (by omega) (.cells #[.slice (some ⟨gu, 0, none⟩) m m] 115))
      have HOr := Lib.hid (HO2.out.alloc (.cells #[.slice (some ⟨gu, 0, none⟩) m m] 115))
      have HRW := Lib.hid (show IsRows gu (wr.alloc (.cells #[.slice (some ⟨gu, 0, none⟩) m m] 115)) (.slice (some ⟨wr.heap.size, 0, none⟩) 1 1) [(gu, m, m)] C from ⟨own_rows1 hgr (by omega), fun i p hp => by
        have hi0 : i = 0 := by have := (List.getElem?_eq_some_iff.1 hp).1; simp at this; omega
        subst hi0
        have : (gu, m, m) = p := by simpa using hp
        subst this
        exact ⟨HCL.out.symm, Nat.le_refl _, HOr.out⟩⟩)
      obtain ⟨W1, hW1⟩ : ∃ W1, wr.alloc (.cells #[.slice (some ⟨gu, 0, none⟩) m m] 115) = W1 := ⟨_, rfl⟩
      rw [hW1] at HBr HOr HRW ⊢
      obtain ⟨v1, hv1⟩ : ∃ v1, Value.slice (some ⟨wr.heap.size, 0, none⟩) 1 1 = v1 := ⟨_, rfl⟩
      rw [hv1] at HRW ⊢
      have HV1 := Lib.hid (show slLen v1 = 1 by rw [← hv1]; rfl)
      clear hgr hlu hW1 hv1 HO2 HB
      go_loopw [10] (fun rv wr => ∃ (k : Nat) (ps : List (Nat × Nat × Nat)), 1 ≤ k ∧ k ≤ L ∧ slLen rv = k ∧ Hid (ps.length = k) ∧ Hid (IsRows gu wr rv ps C) ∧ Hid (OwnC gu wr (.slice (some ⟨gu, 0, none⟩) m m) C) ∧ Hid (Below gu w wr)) (fun rv _ => L - slLen rv)
      case atStart => exact ⟨1, [(gu, m, m)], Nat.le_refl _, hL1, HV1.out, Lib.hid rfl, HRW, HOr, HBr⟩
      case round =>
        clear HRW HOr HBr
        obtain ⟨k, ps, hk1, hk, hrv, HPL, HRW, HOr, HBr⟩ := hrel
        obtain ⟨gr, cr, rfl, hgr, hgrl⟩ := HRW.out.1.form (by rw [HPL.out]; omega) (by decide)
        rw [HPL.out] at HRW hrv ⊢
        clear hrv
        by_cases hlt : k < L
        · have hli : (k : Int) < L := by omega
          have hk2 : k - 1 < ps.length := by rw [HPL.out]; omega
          obtain ⟨p, hp⟩ : ∃ p, ps[k - 1] = p := ⟨_, rfl⟩
          have hp' : ps[k - 1]? = some p := by rw [List.getElem?_eq_getElem hk2, hp]
          obtain ⟨q1, q2, q3⟩ := HRW.out.2 (k - 1) p hp'
          have cp := HRW.out.1.cell flatS (k - 1) 0 p hp' (by decide)
          obtain ⟨pg, pn, pc⟩ := p
          simp only at q1 q2 q3
          rw [Nat.mul_one, Nat.add_zero] at cp
          have cp : wr.cell? ⟨gr, k - 1, none⟩ = some (.slice (some ⟨pg, 0, none⟩) pn pc) := by simpa [fS] using cp
          obtain ⟨K1, hK1⟩ : ∃ K1, k - 1 = K1 := ⟨_, rfl⟩
          have eK : (k : Int) - 1 = K1 := by omega
          have hKk : k = K1 + 1 := by omega
          rw [hK1] at cp q1 q3
          have hpn : pn ≤ 5000 := by have := hRM.out K1; rw [HCL.out] at this; omega
          have HQ3 := Lib.hid (own_lie q3)
          have lpg := (q3.lt _ rfl).2
          have HROW := Lib.hid (show mrg (m + pn / 2) C (pairsF (rowF C K1)) = rowF C k from by
            rw [hKk]
            show _ = mrg (C.length + (pairsF (rowF C K1)).length) C (pairsF (rowF C K1))
            rw [pairsF_len, HCL.out, q1])
          have HRL := Lib.hid (show (rowF C k).length = m + pn / 2 from by rw [hKk, row_len, HCL.out, q1])
          have HQ1 := Lib.hid q1
          have CP := Lib.hid (pPairs pg 0 pc pn (rowF C K1) wr q1.symm HQ3.out lpg (by omega) (hRB.out K1 (by omega)))
          have hPn : pn / 2 ≤ 10000 := by omega
          have HOu := Lib.hid (own_lie HOr.out)
          have hgul := (HOr.out.lt _ rfl).2
          have hszB : gu ≤ wr.heap.size := by omega
          have hsz10 : ps.length ≤ 1099511627776 := by rw [HPL.out]; omega
          have HSZ := Lib.hid hsz10
          have hK1n : (K1 : Int) < k := by omega
          have HPP := Lib.hid (pairsF_len (rowF C K1))
          have HKk := Lib.hid hKk
          clear hp hp' q1 q2 q3 hk2 hKk hsz10 hK1
          go_wp2_with (first | (go_at_call 97; refine CP.out.mono ?_; rintro e w3 ⟨g3, rfl, ho3, hb3⟩; have HL3 := Lib.hid (own_lie ho3); have HB3 := Lib.hid hb3; have hg3 := (ho3.lt _ rfl).2; have hgul3 : gu < w3.heap.size := Nat.lt_of_lt_of_le hgul hb3.size; have HT := Lib.hid (pTog gu 0 m m g3 0 (pn / 2) (pn / 2) C (pairsF (rowF C K1)) w3 HCL.out (by rw [HPP.out, HQ1.out]) (HOu.out.kept hgul hb3) HL3.out hgul3 hg3 (by omega) hPn (Nat.le_refl _) (Nat.le_refl _) (by omega)); clear ho3 hb3) | (go_at_call 96; refine HT.out.mono ?_; rintro e w4 ⟨g4, c4, rfl, ho4, hb4⟩; have HB4 := Lib.hid (HB3.out.trans (hb4.mono HB3.out.size)); have HR4 := Lib.hid (HRW.out.kept HB4.out); have HO4 := Lib.hid (ho4.base (show gu ≤ w3.heap.size by omega)); have hs4 : gu ≤ w4.heap.size := Nat.le_trans hszB HB4.out.size; clear ho4 hb4) | (at_builtin; refine app_crow rfl (.tmp 36) (.tmp 46) rfl gu 115 _ ps g4 (m + pn / 2) c4 rfl HR4.out.1 w4.heap.size 1 rfl rfl HSZ.out hs4 ?_; intro v5 w5 ho5 hb5 hg5))
          obtain ⟨g5, c5, rfl, -, -⟩ := ho5.form (by simp) (by decide)
          have hpl : (ps ++ [(g4, m + pn / 2, c4)]).length = k + 1 := by rw [List.length_append, HPL.out]; rfl
          have hR5 := HR4.out.more hg5 g4 (m + pn / 2) c4 ho5 (by rw [HPL.out, HRL.out]) (own_cap HO4.out).2 (by rw [HPL.out, ← HROW.out]; exact HO4.out)
          have hO5 : OwnC gu w5 (.slice (some ⟨gu, 0, none⟩) m m) C := by
            have h4 := OwnS.kept HOr.out HB4.out
            obtain ⟨C', hC'⟩ := own_heap h4
            refine h4.grown hg5 (.inr ?_)
            have := own_ne HR4.out.1 hC' (by decide)
            exact fun e => this e.symm
          rw [hpl] at hR5 ⊢
          refine ⟨⟨k + 1, _, by omega, by omega, rfl, Lib.hid hpl, Lib.hid hR5, Lib.hid hO5, Lib.hid (HBr.out.trans ((HB4.out.mono hszB).trans hb5))⟩, ?_⟩
          simp [slLen]; omega
        · obtain rfl : L = k := by omega
          have hli : ¬ (L : Int) < L := by omega
          go_wp2_with fail
          go_ret
          exact ⟨_, rfl, ps, HPL.out, by rw [HGU.out]; exact HRW.out, by rw [HGU.out]; exact HBr.out⟩
end Go.Proofs.YtmhjmoeeahepaaaGreat

/- Layer 6: Whole and Check. -/
namespace Go.Proofs.YtmhjmoeeahepaaaGreat
open Go.ChangeShapes Go.WideShapes Go.ChangeAt Go.RowKit
set_option linter.unusedVariables false
set_option maxRecDepth 100000
open KraftMath

theorem ksum_lt {w : World} {a : Option Addr} (m : Nat) (zs : List Int) (h : IsInts w a zs) (hm : m ≤ 16) : ksum m zs ≤ 2305843009213693952 := by
  have := ksum_le m zs hm
  have := h.1
  omega
theorem wrap_pow (m : Nat) (h : m ≤ 16) : wrap64 (2 ^ m) = ((2 ^ m : Nat) : Int) := by
  have hp : 2 ^ m ≤ 2 ^ 16 := Nat.pow_le_pow_right (by decide) h
  have e : (2 : Int) ^ m = ((2 ^ m : Nat) : Int) := by simp
  rw [e]
  generalize 2 ^ m = P at *
  unfold wrap64; omega
theorem pow_test (S m : Nat) (h : m ≤ 16) : ((S : Int) == wrap64 (2 ^ m)) = decide (S = 2 ^ m) := by
  rw [wrap_pow m h, Bool.eq_iff_iff, beq_iff_eq, decide_eq_true_iff]
  constructor
  · intro h; exact_mod_cast h
  · intro h; exact_mod_cast h
set_option maxHeartbeats 800000 in
theorem kWhole (a : Option Addr) (cap m : Nat) (zs : List Int) (w : World) (h : IsInts w a zs) (h1 : 1 ≤ m) (h16 : m ≤ 16) (B : Bool) (hB : B = decide (ksum m zs = 2 ^ m)) : Calls Tryz.prog 101 #[.slice a zs.length cap, .int .i64 m] w fun e w' => e = .returned (.bool B) ∧ ∃ k, w' = w.drewN k := by
  have HS := Lib.hid (fun k => kSum a cap m zs (w.drewN k) h h1 h16)
  obtain ⟨S, hS⟩ : ∃ S, ksum m zs = S := ⟨_, rfl⟩
  rw [hS] at HS hB
  clear hS h
  go_enter Tryz.func101, Tryz.ntmps101
  go_wp2
  go_quiet ((first | (go_at_call 100; exact Calls.quiet_of_same (may_yes m (by omega) (by omega) _)) | (go_at_call 117; exact Calls.quiet_of_same (HS.out _))))
  go_wp2
  go_ret
  exact ⟨ret_b (by rw [hB, pow_test S m h16]), _, rfl⟩
theorem check_bad (zs : List Int) (m k : Nat) (h1 : 1 ≤ m) (h16 : m ≤ 16) (hl : zs.length ≤ 1024) (hk : k < zs.length) (hb : bad m (zs.getD k 0) = true) : check zs m = 2 := by
  have ha : zs.any (bad m) = true := by
    rw [List.any_eq_true]
    refine ⟨zs.getD k 0, ?_, hb⟩
    rw [List.getD_eq_getElem?_getD, List.getElem?_eq_getElem hk]; exact List.getElem_mem hk
  unfold check
  rw [if_neg (by omega), if_neg (by omega), Int.toNat_natCast, if_pos ha]
theorem check_good (zs : List Int) (m : Nat) (h1 : 1 ≤ m) (h16 : m ≤ 16) (hl : zs.length ≤ 1024) (hg : zs.any (bad m) = false) :
    check zs m = if used zs = 0 then 7 else if used zs = 1 then (if sole 0 zs = 1 then 0 else 6) else if ksum m zs = 2 ^ m then 0 else 6 := by
  unfold check
  rw [if_neg (by omega), if_neg (by omega), Int.toNat_natCast, if_neg (by rw [hg]; decide)]
  by_cases h0 : used zs = 0
  · rw [if_pos h0, if_pos h0]
  · rw [if_neg h0, if_neg h0]
    by_cases hu : used zs = 1
    · rw [if_pos hu, if_pos hu]
      obtain ⟨g1, g2, g3⟩ := ksum_one m 0 zs hu ((any_bad m zs).1 hg)
      rw [g3]
      have := pow_half m (sole 0 zs).toNat (by omega) (by omega)
      by_cases hs : sole 0 zs = 1
      · rw [if_pos hs, if_pos (this.2 (by omega))]
      · rw [if_neg hs, if_neg (fun h => hs (by have := this.1 h; omega))]
    · rw [if_neg hu, if_neg hu]
theorem any_succ (zs : List Int) (m k : Nat) (h : k < zs.length) (ha : (zs.take k).any (bad m) = false) (hb : bad m (zs.getD k 0) = false) : (zs.take (k + 1)).any (bad m) = false := by
  rw [take_succ_getD zs k h, List.any_append, ha, Bool.false_or]; simp only [List.any_cons, List.any_nil, Bool.or_false]; exact hb
theorem sole_append (s : Int) (l : List Int) (x : Int) : sole s (l ++ [x]) = if x = 0 then sole s l else x := by
  induction l generalizing s with
  | nil => rfl
  | cons n l ih => exact ih _
theorem sole_succ (zs : List Int) (k : Nat) (h : k < zs.length) : sole 0 (zs.take (k + 1)) = if zs.getD k 0 = 0 then sole 0 (zs.take k) else zs.getD k 0 := by
  rw [take_succ_getD zs k h, sole_append]
def Soles (zs : List Int) (m k : Nat) (s : Int) : Prop := (zs.take k).any (bad m) = false ∧ s = sole 0 (zs.take k)
set_option maxHeartbeats 3200000 in
theorem kCheck (a : Option Addr) (cap m : Nat) (zs : List Int) (w : World) (h : IsInts w a zs) (h1 : 1 ≤ m) (h16 : m ≤ 16) (hl : zs.length ≤ 1024) : Calls Tryz.prog 73 #[.slice a zs.length cap, .int .i64 m] w fun e w' => e = .returned (.int .i64 (check zs m)) ∧ ∃ k, w' = w.drewN k := by
  have HUsed := Lib.hid (kUsed a cap zs w h)
  have HWh := Lib.hid (kWhole a cap m zs w h h1 h16)
  have hx := h.2
  clear h
  have HB := Lib.hid (fun k hk hb => check_bad zs m k h1 h16 hl hk hb)
  have HGd := Lib.hid (fun hg => check_good zs m h1 h16 hl hg)
  have HA := Lib.hid (any_succ zs m); have HSo := Lib.hid (sole_succ zs)
  obtain ⟨R, hR⟩ : ∃ R, check zs m = R := ⟨_, rfl⟩
  rw [hR] at HB HGd ⊢
  clear hR
  have HX := Lib.hid hx
  clear hx
  go_enter Tryz.func73, Tryz.ntmps73
  go_wp2
  go_step3
  go_wp2_with fail
  refine (may_yes m (by omega) (by omega) _).mono ?_; rintro e w1 ⟨rfl, rfl⟩
  go_wp2_with fail
  go_step3
  go_wp2_with fail
  go_loop [5, 6, 17] (fun b s i => ∃ (k : Nat) (S : Int), k ≤ zs.length ∧ i = .int .i64 k ∧ b = .bool false ∧ s = .int .i64 S ∧ Soles zs m k S) (fun _ _ i => zs.length - (intOf i).toNat)
  case atStart => exact ⟨0, 0, Nat.zero_le _, rfl, rfl, rfl, rfl, rfl⟩
  case round =>
    obtain ⟨k, S, hk, rfl, rfl, rfl, hS⟩ := hrel
    have HS := Lib.hid hS
    clear hS
    by_cases hlt : k < zs.length
    · rcases HX.out with hx | ⟨x, rfl, hc⟩
      · rw [hx] at hlt; simp at hlt
      have hcell := hc k hlt
      clear hc
      obtain ⟨z, hz⟩ : ∃ z, zs.getD k 0 = z := ⟨_, rfl⟩
      rw [hz] at hcell
      have HZ := Lib.hid hz
      clear hz
      by_cases hneg : z < 0
      · have HE := Lib.hid (HB.out k hlt (by rw [HZ.out]; simp [bad, hneg]))
        go_wp2
        go_ret
        exact ⟨ret_i HE.out.symm, 0, rfl⟩
      · by_cases hbig : (m : Int) < z
        · have HE := Lib.hid (HB.out k hlt (by rw [HZ.out]; simp [bad, hbig]))
          go_wp2
          go_ret
          exact ⟨ret_i HE.out.symm, 0, rfl⟩
        · have hok : bad m (zs.getD k 0) = false := by rw [HZ.out]; unfold bad; rw [Bool.or_eq_false_iff, decide_eq_false_iff_not, decide_eq_false_iff_not]; exact ⟨hneg, hbig⟩
          have HQ := Lib.hid (HA.out k hlt HS.out.1 hok)
          have HP := Lib.hid (HSo.out k hlt)
          clear hok
          by_cases hz0 : z = 0
          · subst hz0
            go_wp2
            go_round
            case rel => exact ⟨k + 1, S, by omega, by go_num, rfl, rfl, HQ.out, by rw [HP.out, HZ.out, if_pos rfl]; exact HS.out.2⟩
            case measure => simp [intOf]; omega
          · have hz1 : (z == 0) = false := by rw [beq_eq_false_iff_ne]; exact hz0
            go_wp2
            go_round
            case rel => exact ⟨k + 1, z, by omega, by go_num, rfl, rfl, HQ.out, by rw [HP.out, HZ.out, if_neg hz0]⟩
            case measure => simp [intOf]; omega
    · obtain rfl : k = zs.length := by omega
      have hS := HS.out
      unfold Soles at hS
      rw [List.take_length] at hS
      have hE := HGd.out hS.1
      have hs := hS.2
      obtain ⟨U, hU⟩ : ∃ U, used zs = U := ⟨_, rfl⟩
      obtain ⟨Q, hQ⟩ : ∃ Q, ksum m zs = Q := ⟨_, rfl⟩
      rw [hU, hQ, ← hs] at hE
      rw [hU] at HUsed
      rw [hQ] at HWh
      have HE := Lib.hid hE
      clear hS hE hs hU hQ
      by_cases h0 : U = 0
      · subst h0
        go_wp2_with fail
        refine HUsed.out.mono ?_; rintro e w2 ⟨rfl, rfl⟩
        go_wp2_with fail
        try rw [Exit.noGoto_ret]
        go_ret
        exact ⟨ret_i (by rw [HE.out]; simp), 0, rfl⟩
      · have e0 : ((U : Int) == 0) = false := by rw [beq_eq_false_iff_ne]; omega
        by_cases hu1 : U = 1
        · subst hu1
          by_cases hs1 : S = 1
          · subst hs1
            go_wp2_with fail
            refine HUsed.out.mono ?_; rintro e w2 ⟨rfl, rfl⟩
            go_wp2_with fail
            try rw [Exit.noGoto_ret]
            go_ret
            exact ⟨ret_i (by rw [HE.out]; rfl), 0, rfl⟩
          · have es : (S == 1) = false := by rw [beq_eq_false_iff_ne]; exact hs1
            have es2 : (S != 1) = true := by rw [bne, es]; rfl
            go_wp2_with fail
            refine HUsed.out.mono ?_; rintro e w2 ⟨rfl, rfl⟩
            go_wp2_with fail
            try rw [Exit.noGoto_ret]
            go_ret
            exact ⟨ret_i (by rw [HE.out]; simp [hs1]), 0, rfl⟩
        · have e1 : ((U : Int) == 1) = false := by rw [beq_eq_false_iff_ne]; omega
          by_cases hq : Q = 2 ^ m
          · have HW := Lib.hid (HWh.out true (by simp [hq]))
            have HQ := Lib.hid hq
            clear hq
            go_wp2_with fail
            refine HUsed.out.mono ?_; rintro e w2 ⟨rfl, rfl⟩
            go_wp2_with fail
            refine HW.out.mono ?_; rintro e w3 ⟨rfl, k3, rfl⟩
            go_wp2_with fail
            try rw [Exit.noGoto_ret]
            go_ret
            exact ⟨ret_i (by rw [HE.out, if_neg h0, if_neg hu1, if_pos HQ.out]), _, rfl⟩
          · have HW := Lib.hid (HWh.out false (by simp [hq]))
            have HQ := Lib.hid hq
            clear hq
            go_wp2_with fail
            refine HUsed.out.mono ?_; rintro e w2 ⟨rfl, rfl⟩
            go_wp2_with fail
            refine HW.out.mono ?_; rintro e w3 ⟨rfl, k3, rfl⟩
            go_wp2_with fail
            try rw [Exit.noGoto_ret]
            go_ret
            exact ⟨ret_i (by rw [HE.out, if_neg h0, if_neg hu1, if_neg HQ.out]), _, rfl⟩
theorem check_lim (zs : List Int) (m : Int) (h : m < 1 ∨ 16 < m) : check zs m = 1 := by unfold check; rw [if_pos h]
theorem check_long (zs : List Int) (m : Nat) (h1 : 1 ≤ m) (h16 : m ≤ 16) (hl : 1024 < zs.length) : check zs m = 5 := by unfold check; rw [if_neg (by omega), if_pos hl]
theorem kCheck_lim (a : Option Addr) (n cap : Nat) (m : Int) (h : m < 1 ∨ 16 < m) (w : World) : Calls Tryz.prog 73 #[.slice a n cap, .int .i64 m] w fun e w' => e = .returned (.int .i64 1) ∧ ∃ k, w' = w.drewN k := by
  go_enter Tryz.func73, Tryz.ntmps73
  go_wp2
  go_step3
  go_wp2_with fail
  refine (may_no m h _).mono ?_; rintro e w1 ⟨rfl, rfl⟩
  go_wp2_with fail
  try rw [Exit.noGoto_ret]
  go_ret
  exact ⟨rfl, 0, rfl⟩
theorem kCheck_long (a : Option Addr) (n cap m : Nat) (h1 : 1 ≤ m) (h16 : m ≤ 16) (hl : 1024 < n) (hn : n ≤ 70368744177664) (w : World) : Calls Tryz.prog 73 #[.slice a n cap, .int .i64 m] w fun e w' => e = .returned (.int .i64 5) ∧ ∃ k, w' = w.drewN k := by
  go_enter Tryz.func73, Tryz.ntmps73
  go_wp2
  go_step3
  go_wp2_with fail
  refine (may_yes m (by omega) (by omega) _).mono ?_; rintro e w1 ⟨rfl, rfl⟩
  go_wp2_with fail
  try rw [Exit.noGoto_ret]
  go_ret
  exact ⟨rfl, 0, rfl⟩
theorem kCheck_any (a : Option Addr) (cap : Nat) (m : Int) (zs : List Int) (w : World) (h : IsInts w a zs) : Calls Tryz.prog 73 #[.slice a zs.length cap, .int .i64 m] w fun e w' => e = .returned (.int .i64 (check zs m)) ∧ ∃ k, w' = w.drewN k := by
  by_cases hm : m < 1 ∨ 16 < m
  · rw [check_lim zs m hm]; exact kCheck_lim a _ cap m hm w
  · obtain ⟨M, rfl⟩ : ∃ M : Nat, m = M := ⟨m.toNat, by omega⟩
    by_cases hl : 1024 < zs.length
    · rw [check_long zs M (by omega) (by omega) hl]; exact kCheck_long a _ cap M (by omega) (by omega) hl h.1 w
    · exact kCheck a cap M zs w h (by omega) (by omega) (by omega)
def wholeB (zs : List Int) (m : Int) : Bool := decide (1 ≤ m ∧ m ≤ 16 ∧ ksum m.toNat zs = 2 ^ m.toNat)
theorem kWhole_out (a : Option Addr) (n cap : Nat) (m : Int) (h : m < 1 ∨ 16 < m) (w : World) : Calls Tryz.prog 101 #[.slice a n cap, .int .i64 m] w fun e w' => e = .returned (.bool false) ∧ ∃ k, w' = w.drewN k := by
  go_enter Tryz.func101, Tryz.ntmps101
  go_wp2
  go_quiet ((go_at_call 100; exact Calls.quiet_of_same (may_no m h _)))
  go_wp2
  go_ret
  exact ⟨rfl, _, rfl⟩
theorem kWhole_any (a : Option Addr) (cap : Nat) (m : Int) (zs : List Int) (w : World) (h : IsInts w a zs) : Calls Tryz.prog 101 #[.slice a zs.length cap, .int .i64 m] w fun e w' => e = .returned (.bool (wholeB zs m)) ∧ ∃ k, w' = w.drewN k := by
  by_cases hm : m < 1 ∨ 16 < m
  · rw [show wholeB zs m = false from by unfold wholeB; rw [decide_eq_false_iff_not]; omega]; exact kWhole_out a _ cap m hm w
  · obtain ⟨M, rfl⟩ : ∃ M : Nat, m = M := ⟨m.toNat, by omega⟩
    refine kWhole a cap M zs w h (by omega) (by omega) _ ?_
    unfold wholeB
    rw [Int.toNat_natCast, decide_eq_decide]
    constructor
    · exact fun h => h.2.2
    · exact fun h => ⟨by omega, by omega, h⟩
theorem kSum_any (a : Option Addr) (cap : Nat) (m : Int) (zs : List Int) (w : World) (h : IsInts w a zs) : ∃ S : Int, (∀ k, Calls Tryz.prog 117 #[.slice a zs.length cap, .int .i64 m] (w.drewN k) fun e w' => e = .returned (.int .i64 S) ∧ w' = w.drewN k) ∧ (∀ k, Calls Tryz.prog 104 #[.slice a zs.length cap, .int .i64 m] (w.drewN k) fun e w' => e = .returned (.int .i64 S) ∧ w' = w.drewN k) := by
  by_cases hm : m < 1 ∨ 16 < m
  · exact ⟨0, fun k => kSum_out a _ cap m hm _, fun k => rSum_out a _ cap m hm _⟩
  · obtain ⟨M, rfl⟩ : ∃ M : Nat, m = M := ⟨m.toNat, by omega⟩
    exact ⟨_, fun k => kSum a cap M zs _ h (by omega) (by omega), fun k => rSum a cap M zs _ h (by omega) (by omega)⟩
end Go.Proofs.YtmhjmoeeahepaaaGreat

/- Layer 6: the document's Check and Whole. -/
namespace Go.Proofs.YtmhjmoeeahepaaaGreat
open Go.ChangeShapes Go.WideShapes Go.ChangeAt Go.RowKit
set_option linter.unusedVariables false
set_option maxRecDepth 100000
open KraftMath

theorem check_good' (zs : List Int) (m : Nat) (h1 : 1 ≤ m) (h16 : m ≤ 16) (hl : zs.length ≤ 1024) (hg : zs.any (bad m) = false) :
    check zs m = if used zs = 0 then 7 else if used zs = 1 then (if ksum m zs = 2 ^ m / 2 then 0 else 6) else if ksum m zs = 2 ^ m then 0 else 6 := by
  unfold check
  rw [if_neg (by omega), if_neg (by omega), Int.toNat_natCast, if_neg (by rw [hg]; decide)]
theorem half_test (S m : Nat) (h : m ≤ 16) : ((S : Int) == wrap64 ((wrap64 (2 ^ m)).tdiv 2)) = decide (S = 2 ^ m / 2) := by
  have hb : 2 ^ m ≤ 2 ^ 16 := Nat.pow_le_pow_right (by decide) h
  rw [wrap_pow m h, Bool.eq_iff_iff, beq_iff_eq, decide_eq_true_iff]
  have e : ((2 : Int) ^ m) = ((2 ^ m : Nat) : Int) := by simp
  rw [e] at *
  generalize 2 ^ m = P at *
  have hPP : P / 2 ≤ P := Nat.div_le_self _ _
  have : ((P : Nat) : Int).tdiv 2 = ((P / 2 : Nat) : Int) := by rw [Int.tdiv_eq_ediv_of_nonneg (by omega)]; omega
  rw [this]
  generalize P / 2 = H at *
  unfold wrap64; omega
set_option maxHeartbeats 3200000 in
theorem rCheck (a : Option Addr) (cap m : Nat) (zs : List Int) (w : World) (h : IsInts w a zs) (h1 : 1 ≤ m) (h16 : m ≤ 16) (hl : zs.length ≤ 1024) : Calls Tryz.prog 78 #[.slice a zs.length cap, .int .i64 m] w fun e w' => e = .returned (.int .i64 (check zs m)) ∧ w' = w := by
  have HUsed := Lib.hid (rUsed a cap zs w h)
  have HSum := Lib.hid (rSum a cap m zs w h h1 h16)
  have hx := h.2
  clear h
  have HB := Lib.hid (fun k hk hb => check_bad zs m k h1 h16 hl hk hb)
  have HGd := Lib.hid (fun hg => check_good' zs m h1 h16 hl hg)
  have HA := Lib.hid (any_succ zs m)
  obtain ⟨R, hR⟩ : ∃ R, check zs m = R := ⟨_, rfl⟩
  rw [hR] at HB HGd ⊢
  clear hR
  have HX := Lib.hid hx
  clear hx
  go_enter Tryz.func78, Tryz.ntmps78
  go_wp2_with fail
  go_loop [5] (fun i => ∃ k : Nat, k ≤ zs.length ∧ i = .int .i64 k ∧ Hid ((zs.take k).any (bad m) = false)) (fun i => zs.length - (intOf i).toNat)
  case atStart => exact ⟨0, Nat.zero_le _, rfl, rfl⟩
  case round =>
    obtain ⟨k, hk, rfl, HS⟩ := hrel
    by_cases hlt : k < zs.length
    · rcases HX.out with hx | ⟨x, rfl, hc⟩
      · rw [hx] at hlt; simp at hlt
      have hcell := hc k hlt
      clear hc
      obtain ⟨z, hz⟩ : ∃ z, zs.getD k 0 = z := ⟨_, rfl⟩
      rw [hz] at hcell
      have HZ := Lib.hid hz
      clear hz
      by_cases hneg : z < 0
      · have HE := Lib.hid (HB.out k hlt (by rw [HZ.out]; simp [bad, hneg]))
        go_wp2
        go_ret
        exact ⟨ret_i HE.out.symm, rfl⟩
      · by_cases hbig : (m : Int) < z
        · have HE := Lib.hid (HB.out k hlt (by rw [HZ.out]; simp [bad, hbig]))
          go_wp2
          go_ret
          exact ⟨ret_i HE.out.symm, rfl⟩
        · have hok : bad m (zs.getD k 0) = false := by rw [HZ.out]; unfold bad; rw [Bool.or_eq_false_iff, decide_eq_false_iff_not, decide_eq_false_iff_not]; exact ⟨hneg, hbig⟩
          have HQ := Lib.hid (HA.out k hlt HS.out hok)
          clear hok
          go_wp2
          go_round
          case rel => exact ⟨k + 1, by omega, by go_num, HQ⟩
          case measure => simp [intOf]; omega
    · obtain rfl : k = zs.length := by omega
      have hS := HS.out
      rw [List.take_length] at hS
      have hE := HGd.out hS
      obtain ⟨U, hU⟩ : ∃ U, used zs = U := ⟨_, rfl⟩
      obtain ⟨Q, hQ⟩ : ∃ Q, ksum m zs = Q := ⟨_, rfl⟩
      rw [hU, hQ] at hE
      rw [hU] at HUsed
      rw [hQ] at HSum
      have HE := Lib.hid hE
      clear hS hE hU hQ
      have hh := half_test Q m h16
      have hp := pow_test Q m h16
      by_cases h0 : U = 0
      · subst h0
        go_wp2_with fail
        refine HUsed.out.mono ?_; rintro e w2 ⟨rfl, rfl⟩
        go_wp2_with fail
        go_ret
        exact ⟨ret_i (by rw [HE.out]; simp), rfl⟩
      · have e0 : ((U : Int) == 0) = false := by rw [beq_eq_false_iff_ne]; omega
        by_cases hu1 : U = 1
        · subst hu1
          have e1 : ((1 : Int) == 0) = false := by decide
          by_cases hs1 : Q = 2 ^ m / 2
          · rw [show decide (Q = 2 ^ m / 2) = true from decide_eq_true hs1] at hh
            have hh2 : ((Q : Int) != wrap64 ((wrap64 (2 ^ m)).tdiv 2)) = false := by rw [bne, hh]; rfl
            have HQ := Lib.hid hs1; clear hs1
            go_wp2_with fail
            refine HUsed.out.mono ?_; rintro e w2 ⟨rfl, rfl⟩
            go_wp2_with fail
            refine HSum.out.mono ?_; rintro e w2 ⟨rfl, rfl⟩
            go_wp2_with fail
            all_goals first
              | (go_ret; exact ⟨ret_i (by rw [HE.out]; simp [HQ.out]), rfl⟩)
              | (exfalso; simp_all)
          · rw [show decide (Q = 2 ^ m / 2) = false from decide_eq_false hs1] at hh
            have hh2 : ((Q : Int) != wrap64 ((wrap64 (2 ^ m)).tdiv 2)) = true := by rw [bne, hh]; rfl
            have HQ := Lib.hid hs1; clear hs1
            go_wp2_with fail
            refine HUsed.out.mono ?_; rintro e w2 ⟨rfl, rfl⟩
            go_wp2_with fail
            refine HSum.out.mono ?_; rintro e w2 ⟨rfl, rfl⟩
            go_wp2_with fail
            all_goals first
              | (go_ret; exact ⟨ret_i (by rw [HE.out]; simp [HQ.out]), rfl⟩)
              | (exfalso; simp_all)
        · have e1 : ((U : Int) == 1) = false := by rw [beq_eq_false_iff_ne]; omega
          have h0' := h0; have hu1' := hu1
          have e2 : (1 : Int) < (U : Int) := by omega
          by_cases hq : Q = 2 ^ m
          · rw [show decide (Q = 2 ^ m) = true from decide_eq_true hq] at hp
            have hp2 : ((Q : Int) != wrap64 (2 ^ m)) = false := by rw [bne, hp]; rfl
            have HQ := Lib.hid hq; clear hq
            go_wp2_with fail
            refine HUsed.out.mono ?_; rintro e w2 ⟨rfl, rfl⟩
            go_wp2_with fail
            refine HSum.out.mono ?_; rintro e w2 ⟨rfl, rfl⟩
            go_wp2_with fail
            all_goals first
              | (go_ret; exact ⟨ret_i (by rw [HE.out]; simp [HQ.out, h0', hu1']), rfl⟩)
              | (exfalso; simp_all)
          · rw [show decide (Q = 2 ^ m) = false from decide_eq_false hq] at hp
            have hp2 : ((Q : Int) != wrap64 (2 ^ m)) = true := by rw [bne, hp]; rfl
            have HQ := Lib.hid hq; clear hq
            go_wp2_with fail
            refine HUsed.out.mono ?_; rintro e w2 ⟨rfl, rfl⟩
            go_wp2_with fail
            refine HSum.out.mono ?_; rintro e w2 ⟨rfl, rfl⟩
            go_wp2_with fail
            all_goals first
              | (go_ret; exact ⟨ret_i (by rw [HE.out]; simp [HQ.out, h0', hu1']), rfl⟩)
              | (exfalso; simp_all)
theorem rCheck_lim (a : Option Addr) (n cap : Nat) (m : Int) (h : m < 1 ∨ 16 < m) (w : World) : Calls Tryz.prog 78 #[.slice a n cap, .int .i64 m] w fun e w' => e = .returned (.int .i64 1) ∧ w' = w := by
  by_cases h1 : m < 1
  · go_enter Tryz.func78, Tryz.ntmps78
    go_wp2_with fail
    go_ret
    exact ⟨rfl, rfl⟩
  · have h2 : 16 < m := by omega
    go_enter Tryz.func78, Tryz.ntmps78
    go_wp2_with fail
    go_ret
    exact ⟨rfl, rfl⟩
theorem rCheck_long (a : Option Addr) (n cap m : Nat) (h1 : 1 ≤ m) (h16 : m ≤ 16) (hl : 1024 < n) (hn : n ≤ 70368744177664) (w : World) : Calls Tryz.prog 78 #[.slice a n cap, .int .i64 m] w fun e w' => e = .returned (.int .i64 5) ∧ w' = w := by
  go_enter Tryz.func78, Tryz.ntmps78
  go_wp2_with fail
  go_ret
  exact ⟨rfl, rfl⟩
theorem rCheck_any (a : Option Addr) (cap : Nat) (m : Int) (zs : List Int) (w : World) (h : IsInts w a zs) : Calls Tryz.prog 78 #[.slice a zs.length cap, .int .i64 m] w fun e w' => e = .returned (.int .i64 (check zs m)) ∧ w' = w := by
  by_cases hm : m < 1 ∨ 16 < m
  · rw [check_lim zs m hm]; exact rCheck_lim a _ cap m hm w
  · obtain ⟨M, rfl⟩ : ∃ M : Nat, m = M := ⟨m.toNat, by omega⟩
    by_cases hl : 1024 < zs.length
    · rw [check_long zs M (by omega) (by omega) hl]; exact rCheck_long a _ cap M (by omega) (by omega) hl h.1 w
    · exact rCheck a cap M zs w h (by omega) (by omega) (by omega)
end Go.Proofs.YtmhjmoeeahepaaaGreat

/- Layer 7: why there are no lengths. -/
namespace Go.Proofs.YtmhjmoeeahepaaaGreat
open Go.ChangeShapes Go.WideShapes Go.ChangeAt Go.RowKit
set_option linter.unusedVariables false
set_option linter.unusedSimpArgs false
set_option maxRecDepth 100000
open KraftMath
def badF (v : Int) : Bool := decide (v < 0) || decide (4294967295 < v)
def chkP (l : List Int) (limit : Int) : Int :=
  if limit < 1 ∨ 16 < limit then 1 else if 1024 < l.length then 5 else if l.any badF = true then 2 else if used l = 0 then 7 else if 2 ^ limit.toNat < used l then 6 else 0
theorem anyF_succ (l : List Int) (k : Nat) (h : k < l.length) (ha : (l.take k).any badF = false) (hb : badF (l.getD k 0) = false) : (l.take (k + 1)).any badF = false := by
  rw [take_succ_getD l k h, List.any_append, ha, Bool.false_or]; simp only [List.any_cons, List.any_nil, Bool.or_false]; exact hb
theorem anyF_hit (l : List Int) (k : Nat) (h : k < l.length) (hb : badF (l.getD k 0) = true) : l.any badF = true := by
  rw [List.any_eq_true]
  exact ⟨l.getD k 0, mem_getD h, hb⟩
theorem shl_test (S m : Nat) (h : m ≤ 16) : decide (wrap64 (2 ^ m) < (S : Int)) = decide (2 ^ m < S) := by
  rw [wrap_pow m h, decide_eq_decide]
  constructor
  · intro h; exact_mod_cast h
  · intro h; exact_mod_cast h
set_option maxHeartbeats 3200000 in
theorem pChk (a : Option Addr) (c n : Nat) (l : List Int) (L : Int) (w : World) (hl : l.length = n) (h : IsInts w a l) :
    Calls Tryz.prog 69 #[.slice a n c, .int .i64 L] w fun e w' => e = .returned (.int .i64 (chkP l L)) ∧ w' = w := by
  have HI := Lib.hid h
  have HL := Lib.hid hl
  have hn46 : (n : Int) ≤ 70368744177664 := by have := h.1; omega
  obtain ⟨R, hR⟩ : ∃ R, chkP l L = R := ⟨_, rfl⟩
  rw [hR]
  have CU := Lib.hid (kUsed a c l w h)
  rw [hl] at CU
  by_cases h1 : L < 1
  · have HF := Lib.hid (show R = 1 by rw [← hR]; unfold chkP; rw [if_pos (.inl h1)])
    have d1 : decide (L < 1) = true := decide_eq_true h1
    clear hR h hl
    go_enter Tryz.func69, Tryz.ntmps69
    go_wp2_with fail
    go_ret
    exact ⟨ret_i HF.out.symm, rfl⟩
  · have d1 : decide (L < 1) = false := decide_eq_false h1
    by_cases h2 : 16 < L
    · have HF := Lib.hid (show R = 1 by rw [← hR]; unfold chkP; rw [if_pos (.inr h2)])
      have d2 : decide (16 < L) = true := decide_eq_true h2
      clear hR h hl
      go_enter Tryz.func69, Tryz.ntmps69
      go_wp2_with fail
      go_ret
      exact ⟨ret_i HF.out.symm, rfl⟩
    · have d2 : decide (16 < L) = false := decide_eq_false h2
      obtain ⟨m, rfl⟩ : ∃ m : Nat, L = m := ⟨L.toNat, by omega⟩
      have hm : m ≤ 16 := by omega
      by_cases h3 : 1024 < n
      · have HF := Lib.hid (show R = 5 by rw [← hR]; unfold chkP; rw [if_neg (by omega), if_pos (by omega)])
        have d3 : (1024 : Int) < n := by omega
        clear hR h hl
        go_enter Tryz.func69, Tryz.ntmps69
        go_wp2_with fail
        go_ret
        exact ⟨ret_i HF.out.symm, rfl⟩
      · have d3 : ¬ (1024 : Int) < n := by omega
        have HF := Lib.hid (show R = if l.any badF = true then 2 else if used l = 0 then 7 else if 2 ^ m < used l then 6 else 0 by rw [← hR]; unfold chkP; rw [if_neg (by omega), if_neg (by omega), Int.toNat_natCast])
        have HU := Lib.hid (shl_test (used l) m hm)
        obtain ⟨u, hu⟩ : ∃ u, used l = u := ⟨_, rfl⟩
        have hun : u ≤ n := by rw [← hu, ← hl]; exact used_le l
        rw [hu] at HF HU CU
        clear hR h hl hu
        go_enter Tryz.func69, Tryz.ntmps69
        go_wp2_with fail
        go_loopw [19] (fun iv wr => ∃ i : Nat, i ≤ n ∧ iv = .int .i64 i ∧ Hid ((l.take i).any badF = false) ∧ wr = w) (fun iv _ => n - (intOf iv).toNat)
        case atStart => exact ⟨0, Nat.zero_le _, rfl, Lib.hid rfl, rfl⟩
        case round =>
          obtain ⟨i, hi, rfl, HT, rfl⟩ := hrel
          by_cases hlt : i < n
          · have hii : (i : Int) < n := by omega
            obtain ⟨x, rfl, hxb, hc⟩ := HI.out.at i (by rw [HL.out]; exact hlt)
            have cx := hc i (by rw [HL.out]; exact hlt)
            obtain ⟨v, hv⟩ : ∃ v, l.getD i 0 = v := ⟨_, rfl⟩
            rw [hv] at cx
            have HV := Lib.hid hv
            clear hc hv
            by_cases hb1 : v < 0
            · have e1 : decide (v < 0) = true := decide_eq_true hb1
              have HF2 := Lib.hid (show R = 2 by rw [HF.out, if_pos (anyF_hit l i (by rw [HL.out]; exact hlt) (by rw [HV.out]; unfold badF; rw [e1]; rfl))])
              go_wp2_with fail
              go_ret
              exact ⟨ret_i HF2.out.symm, rfl⟩
            · have e1 : decide (v < 0) = false := decide_eq_false hb1
              by_cases hb2 : 4294967295 < v
              · have e2 : decide (4294967295 < v) = true := decide_eq_true hb2
                have HF2 := Lib.hid (show R = 2 by rw [HF.out, if_pos (anyF_hit l i (by rw [HL.out]; exact hlt) (by rw [HV.out]; unfold badF; rw [e1, e2]; rfl))])
                go_wp2_with fail
                go_ret
                exact ⟨ret_i HF2.out.symm, rfl⟩
              · have e2 : decide (4294967295 < v) = false := decide_eq_false hb2
                have HT2 := Lib.hid (anyF_succ l i (by rw [HL.out]; exact hlt) HT.out (by rw [HV.out]; unfold badF; rw [e1, e2]; rfl))
                go_wp2_with fail
                go_roundw
                case rel => exact ⟨i + 1, by omega, by go_num, HT2, by trivial⟩
                case measure => simp [intOf] <;> omega
          · obtain rfl : n = i := by omega
            have HA := Lib.hid (show l.any badF = false by have := HT.out; rwa [List.take_of_length_le (by rw [HL.out]; exact Nat.le_refl _)] at this)
            by_cases h0 : u = 0
            · have e0 : ((u : Int) == 0) = true := by rw [beq_iff_eq]; omega
              have HF2 := Lib.hid (show R = 7 by rw [HF.out, HA.out, if_neg (by decide), if_pos h0])
              clear h0
              go_wp2_with fail
              refine CU.out.mono ?_; rintro e w2 ⟨rfl, rfl⟩
              go_wp2_with fail
              go_ret
              exact ⟨ret_i HF2.out.symm, rfl⟩
            · have e0 : ((u : Int) == 0) = false := by rw [beq_eq_false_iff_ne]; omega
              by_cases h6 : 2 ^ m < u
              · have HF2 := Lib.hid (show R = 6 by rw [HF.out, HA.out, if_neg (by decide), if_neg h0, if_pos h6])
                have e6 : decide (wrap64 (2 ^ m) < (u : Int)) = true := by rw [HU.out]; exact decide_eq_true h6
                have e7 := of_decide_eq_true e6
                clear h0 h6
                go_wp2_with fail
                refine CU.out.mono ?_; rintro e w2 ⟨rfl, rfl⟩
                go_wp2_with fail
                go_ret
                exact ⟨ret_i HF2.out.symm, rfl⟩
              · have HF2 := Lib.hid (show R = 0 by rw [HF.out, HA.out, if_neg (by decide), if_neg h0, if_neg h6])
                have e6 : decide (wrap64 (2 ^ m) < (u : Int)) = false := by rw [HU.out]; exact decide_eq_false h6
                have e7 := of_decide_eq_false e6
                clear h0 h6
                go_wp2_with fail
                refine CU.out.mono ?_; rintro e w2 ⟨rfl, rfl⟩
                go_wp2_with fail
                go_ret
                exact ⟨ret_i HF2.out.symm, rfl⟩
end Go.Proofs.YtmhjmoeeahepaaaGreat
