/- Layer 7: the rows of coins. -/
import Derived.Test.YtofmjcelmbkebaaAI3
namespace Go.Proofs.Ytofmjcelmbkebaa
open Go.ChangeShapes Go.WideShapes Go.ChangeAt Go.RowKit
set_option linter.unusedVariables false
set_option linter.unusedSimpArgs false
set_option maxRecDepth 100000
open Pm
def fS (p : Nat × Nat × Nat) : List Value := [.slice (some ⟨p.1, 0, none⟩) p.2.1 p.2.2]
theorem flatS : Flat fS 1 := fun x => ⟨rfl, by intro u hu; simp [fS] at hu; subst hu; rfl⟩
theorem info_crow : (Try.prog.info? 47).map (fun i => (i.zero, i.size, i.bytes)) = some (some (.slice none 0 0), 1, 24) := by kernel_rfl
abbrev OwnR (B : Nat) (w : World) (v : Value) (l : List (Nat × Nat × Nat)) : Prop := OwnS fS 47 1 B w v l
theorem app_crow {X : World} {ops : Array Oper} {rest : List Oper} {o : Oper} {a : Act} {Q : Exit → Act → World → Prop} (hgd : o.guard = none) (s xo : Operand)
    (ho : o.op = .call { callee := .builtin .append, args := #[s, xo], argTypes := #[45, 45] })
    (B T : Nat) (v : Value) (l : List (Nat × Nat × Nat)) (x y z : Nat) (hs : a.eval s = v) (hown : OwnR B X v l) (g c1 : Nat) (hg : X.heap.size = g) (hx : a.eval xo = .slice (some ⟨g, 0, none⟩) 1 c1) (hl : l.length ≤ 1099511627776) (hB : B ≤ X.heap.size)
    (h : ∀ v' w', OwnR B w' v' (l ++ [(x, y, z)]) → Below B X w' → X.grownBy w' v.ownBlock → wpList Try.prog ops Q rest (a.put o.dst v') w') : wpList Try.prog ops Q (o :: rest) a (X.alloc (.cells #[.slice (some ⟨x, 0, none⟩) y z] T)) :=
  app_one (f := fS) info_crow rfl (by decide) (by decide) Try.underlying45 flatS hgd s xo ho B T v l (x, y, z) hs hown g c1 hg hx hl hB h
/-- Rows of coins that a call owns. -/
def IsRows (B : Nat) (w : World) (v : Value) (ps : List (Nat × Nat × Nat)) (S : List Coin) : Prop := OwnR B w v ps ∧ ∀ i p, ps[i]? = some p → p.2.1 = (rowF S i).length ∧ p.2.1 ≤ p.2.2 ∧ OwnC B w (.slice (some ⟨p.1, 0, none⟩) p.2.1 p.2.2) (rowF S i)
theorem IsRows.kept {B : Nat} {w w' : World} {v : Value} {ps : List (Nat × Nat × Nat)} {S : List Coin} (h : IsRows B w v ps S) (hb : Below w.heap.size w w') : IsRows B w' v ps S :=
  ⟨OwnS.kept h.1 hb, fun i p hp => ⟨(h.2 i p hp).1, (h.2 i p hp).2.1, OwnS.kept (h.2 i p hp).2.2 hb⟩⟩
theorem own_heap {B g n cap : Nat} {w : World} {l : List Coin} (h : OwnC B w (.slice (some ⟨g, 0, none⟩) n cap) l) : ∃ C, w.heap[g]? = some (.cells C 49 (0, 0)) := by
  rcases h.2 with ⟨h0, -⟩ | ⟨g', cap', cur, h0, _, hg, _⟩
  · simp at h0
  · simp only [Value.slice.injEq, Option.some.injEq, Addr.mk.injEq, and_true, true_and] at h0
    obtain ⟨rfl, -, -⟩ := h0
    exact ⟨cur, hg⟩
theorem IsRows.more {B : Nat} {w w' : World} {v v' : Value} {ps : List (Nat × Nat × Nat)} {S : List Coin} (h : IsRows B w v ps S) (hg : w.grownBy w' v.ownBlock) (x y z : Nat) (ho : OwnR B w' v' (ps ++ [(x, y, z)])) (hy : y = (rowF S ps.length).length) (hyz : y ≤ z) (hx : OwnC B w (.slice (some ⟨x, 0, none⟩) y z) (rowF S ps.length)) : IsRows B w' v' (ps ++ [(x, y, z)]) S := by
  have keep : ∀ g n cap (l : List Coin), OwnC B w (.slice (some ⟨g, 0, none⟩) n cap) l → OwnC B w' (.slice (some ⟨g, 0, none⟩) n cap) l := fun g n cap l hl => by
    obtain ⟨C, hC⟩ := own_heap hl
    refine hl.grown hg (.inr ?_)
    have := own_ne h.1 hC (by decide)
    intro e
    exact this (by rw [← e]; rfl)
  refine ⟨ho, fun i p hp => ?_⟩
  by_cases hi : i < ps.length
  · rw [List.getElem?_append_left hi] at hp
    obtain ⟨a, b, c⟩ := h.2 i p hp
    exact ⟨a, b, keep _ _ _ _ c⟩
  · have hi2 : i = ps.length := by
      have := (List.getElem?_eq_some_iff.1 hp).1
      simp at this; omega
    subst hi2
    rw [List.getElem?_append_right (Nat.le_refl _), Nat.sub_self] at hp
    have : (x, y, z) = p := by simpa using hp
    subst this
    exact ⟨hy, hyz, keep _ _ _ _ hx⟩
theorem pairs_bd (M : Int) : ∀ l : List Coin, (∀ c ∈ l, 0 ≤ c.1 ∧ c.1 ≤ M) → ∀ c ∈ pairsF l, 0 ≤ c.1 ∧ c.1 ≤ 2 * M
  | [], _, c, hc => by simp [pairsF] at hc
  | [x], _, c, hc => by simp [pairsF] at hc
  | x :: y :: r, h, c, hc => by
    simp only [pairsF, List.mem_cons] at hc
    rcases hc with rfl | hc
    · have h1 := h x (by simp)
      have h2 := h y (by simp)
      simp only; omega
    · exact pairs_bd M r (fun z hz => h z (by simp [hz])) c hc
theorem row_bd (S : List Coin) (h : ∀ c ∈ S, 0 ≤ c.1 ∧ c.1 ≤ 4294967295) : ∀ i, ∀ c ∈ rowF S i, 0 ≤ c.1 ∧ c.1 ≤ 4294967295 * ((2 ^ i : Nat) : Int)
  | 0, c, hc => by have := h c hc; simp; omega
  | i + 1, c, hc => by
    have e : ((2 ^ (i + 1) : Nat) : Int) = 2 * ((2 ^ i : Nat) : Int) := by rw [Nat.pow_succ]; omega
    have hp : 1 ≤ ((2 ^ i : Nat) : Int) := by have := Nat.pow_pos (n := i) (show 0 < 2 by decide); omega
    rcases (mrg_mem _ _ _ _).1 hc with hc | hc
    · have := h c hc
      rw [e]; omega
    · have := pairs_bd _ _ (row_bd S h i) c hc
      rw [e]; omega
theorem row_bd16 (S : List Coin) (h : ∀ c ∈ S, 0 ≤ c.1 ∧ c.1 ≤ 4294967295) (i : Nat) (hi : i ≤ 16) : ∀ c ∈ rowF S i, 0 ≤ c.1 ∧ c.1 ≤ 1152921504606846976 := by
  intro c hc
  have h1 := row_bd S h i c hc
  have h2 : 2 ^ i ≤ 2 ^ 16 := Nat.pow_le_pow_right (by decide) hi
  have h3 : ((2 ^ i : Nat) : Int) ≤ 65536 := by
    have : (2 : Nat) ^ 16 = 65536 := by decide
    omega
  omega
theorem symC_set (F : Int → Int) (ss : List Int) (i : Nat) (hi : i < ss.length) : (symC (ss.map F))[i]'(by rw [symC_len, List.length_map]; exact hi) = (F ss[i], true) := by simp [symC]
theorem own_lie {B g n cap : Nat} {w : World} {l : List Coin} (h : OwnC B w (.slice (some ⟨g, 0, none⟩) n cap) l) : Lie w g 0 l := fun i c hi => by
  have h1 := h.cell flatC i 0 c hi (by decide)
  have h2 := h.cell flatC i 1 c hi (by decide)
  rw [Nat.zero_add]
  exact ⟨by simpa [fC] using h1, by simpa [fC] using h2⟩
theorem own_cap {B g n cap : Nat} {w : World} {l : List Coin} (h : OwnC B w (.slice (some ⟨g, 0, none⟩) n cap) l) : n = l.length ∧ n ≤ cap := by
  rcases h.2 with ⟨h0, -⟩ | ⟨g', cap', cur, h0, _, _, hnc, _⟩
  · simp at h0
  · simp only [Value.slice.injEq, Option.some.injEq, Addr.mk.injEq, and_true, true_and] at h0
    obtain ⟨rfl, rfl, rfl⟩ := h0
    exact ⟨rfl, hnc⟩
theorem own_rows1 {w : World} {g x y z B : Nat} (h : w.heap[g]? = some (.cells #[.slice (some ⟨x, 0, none⟩) y z] 47 (0, 0))) (hB : B ≤ g) : OwnR B w (.slice (some ⟨g, 0, none⟩) 1 1) [(x, y, z)] := by
  refine ⟨by simp [fS], .inr ⟨g, 1, _, rfl, hB, h, by simp, by unfold maxLen; omega, by simp, ?_⟩⟩
  simp [fS]
set_option maxHeartbeats 3200000 in
theorem pRows (a : Option Addr) (c n : Nat) (l : List Int) (b : Option Addr) (d m : Nat) (ss : List Int) (L : Nat) (w : World) (hl : l.length = n) (hi : IsInts w a l) (hm : ss.length = m) (hs : IsInts w b ss) (hn : n ≤ 2000) (hm2 : 2 ≤ m) (hmn : m ≤ 2000) (hL1 : 1 ≤ L) (hL : L ≤ 16)
    (hd : ∀ u ∈ ss, ∃ k : Nat, u = k ∧ k < n) (hv : ∀ u ∈ ss, 0 ≤ frL l u ∧ frL l u ≤ 4294967295) :
    Calls Try.prog 22 #[.slice a n c, .slice b m d, .int .i64 L] w fun e w' => ∃ u ps, e = .returned u ∧ ps.length = L ∧ IsRows w.heap.size w' u ps (symC (ss.map (frL l))) ∧ Below w.heap.size w w' := by
  have HI := Lib.hid hi; have HS := Lib.hid hs; have HL := Lib.hid hl; have HM := Lib.hid hm; have HD := Lib.hid hd; have HV := Lib.hid hv
  obtain ⟨C, hC⟩ : ∃ C, symC (ss.map (frL l)) = C := ⟨_, rfl⟩
  have hCl : C.length = m := by rw [← hC, symC_len, List.length_map, hm]
  have HCL := Lib.hid hCl
  have HCV := Lib.hid (show ∀ c ∈ C, 0 ≤ c.1 ∧ c.1 ≤ 4294967295 from fun c hc => by
    rw [← hC] at hc
    unfold symC at hc
    rw [List.map_map] at hc
    obtain ⟨x, hx, rfl⟩ := List.mem_map.1 hc
    exact hv x hx)
  have HCG := Lib.hid (show ∀ i (h : i < ss.length), C[i]? = some (frL l ss[i], true) from fun i h => by
    rw [← hC, List.getElem?_eq_getElem (by rw [symC_len, List.length_map]; exact h), symC_set (frL l) ss i h])
  rw [hC]
  clear hi hs hl hm hd hv hC hCl
  go_enter Try.func22, Try.ntmps22
  go_wp2_with (refine make_full (f := fC) info_coin (by decide) Try.underlying47 (0, false) rfl flatC (by decide) rfl _ _ rfl .i64 .i64 (m : Int) (m : Int) m rfl rfl rfl rfl (by omega) ?_; intro w2 ho2 hb2 hs2)
  have HO := Lib.hid (show OwnC w.heap.size w2 (.slice (some ⟨w.heap.size, 0, none⟩) m m) (C.take 0 ++ List.replicate (m - 0) (0, false)) from ho2)
  have HB := Lib.hid hb2
  obtain ⟨gu, hgu⟩ : ∃ gu, w.heap.size = gu := ⟨_, rfl⟩
  rw [hgu] at HO HB ⊢
  have HGU := Lib.hid hgu
  clear ho2 hb2 hs2 hgu
  go_loopw [16] (fun iv wr => ∃ i : Nat, i ≤ m ∧ iv = .int .i64 i ∧ Hid (OwnC gu wr (.slice (some ⟨gu, 0, none⟩) m m) (C.take i ++ List.replicate (m - i) (0, false))) ∧ Hid (Below gu w wr)) (fun iv _ => m - (intOf iv).toNat)
  case atStart => exact ⟨0, Nat.zero_le _, rfl, HO, HB⟩
  case round =>
    clear HO HB
    obtain ⟨i, hi, rfl, HO, HB⟩ := hrel
    have hbw : Below w.heap.size w wr := by rw [HGU.out]; exact HB.out
    by_cases hlt : i < m
    · have hii : (i : Int) < m := by omega
      obtain ⟨y, rfl, hyb, hc⟩ := (HS.out.kept hbw).at i (by rw [HM.out]; exact hlt)
      have cy := hc i (by rw [HM.out]; exact hlt)
      have hui : ss.getD i 0 = ss[i]'(by rw [HM.out]; exact hlt) := by rw [List.getD_eq_getElem?_getD, List.getElem?_eq_getElem (by rw [HM.out]; exact hlt)]; rfl
      obtain ⟨k, hk1, hk2⟩ := HD.out (ss.getD i 0) (by rw [hui]; exact List.getElem_mem _)
      rw [hk1] at cy
      obtain ⟨x, rfl, hxb, hcx⟩ := (HI.out.kept hbw).at k (by rw [HL.out]; exact hk2)
      have cx := hcx k (by rw [HL.out]; exact hk2)
      have hP : C[i]'(by rw [HCL.out]; exact hlt) = (l.getD k 0, true) := by
        have := HCG.out i (by rw [HM.out]; exact hlt)
        rw [List.getElem?_eq_getElem (by rw [HCL.out]; exact hlt), ← hui, hk1] at this
        exact Option.some.inj this
      obtain ⟨X, hX⟩ : ∃ X, l.getD k 0 = X := ⟨_, rfl⟩
      rw [hX] at cx hP
      have hset := take_set C (0, false) i m HCL.out hlt
      rw [hP] at hset
      have hz0 : (C.take i ++ List.replicate (m - i) ((0, false) : Coin))[i]? = some (0, false) := by
        rw [List.getElem?_append_right (by rw [List.length_take]; omega), List.length_take_of_le (by rw [HCL.out]; omega), Nat.sub_self, List.getElem?_replicate, if_pos (by omega)]
      have c3 : wr.cell? ⟨gu, i * 2, none⟩ = some (.int .i64 0) := by have := HO.out.cell flatC i 0 _ hz0 (by decide); simpa [fC] using this
      have c4 : wr.cell? ⟨gu, i * 2 + 1, none⟩ = some (.bool false) := by have := HO.out.cell flatC i 1 _ hz0 (by decide); simpa [fC] using this
      have f1 := HO.out.free (i * 2)
      have f2 := HO.out.free (i * 2 + 1)
      have lg := (HO.out.lt _ rfl).2
      have hO2 := OwnS.set2 flatC HO.out i (X, true) (.int .i64 X) (.bool true) rfl (by rw [List.length_append, List.length_take_of_le (by rw [HCL.out]; omega), List.length_replicate]; omega)
      rw [hset] at hO2
      have HO2 := Lib.hid hO2
      have HB2 := Lib.hid ((HB.out.setCell (p := ⟨gu, i * 2, none⟩) (Nat.le_refl _) (.int .i64 X)).setCell (p := ⟨gu, i * 2 + 1, none⟩) (Nat.le_refl _) (.bool true))
      have hkn : (k : Int) < n := by omega
      clear hui hk1 hP hX hset hz0 hO2 hc hcx HO HB hbw
      go_wp2_with fail
      go_roundw
      case rel => exact ⟨i + 1, by omega, by go_num, HO2, HB2⟩
      case measure => simp [intOf] <;> omega
    · obtain rfl : m = i := by omega
      have hO2 := HO.out
      rw [Nat.sub_self, List.replicate_zero, List.append_nil, List.take_of_length_le (by rw [HCL.out]; exact Nat.le_refl _)] at hO2
      have HO2 := Lib.hid hO2
      clear hO2 HO
      go_wp2_with fail
      have hRB := Lib.hid (fun k hk => row_bd16 C HCV.out k hk)
      have hRM := Lib.hid (fun k => row_most C (by rw [HCL.out]; exact hm2) k)
      have hlu : gu < wr.heap.size := (HO2.out.lt _ rfl).2
      have hgr := heap_alloc_new wr (.cells #[.slice (some ⟨gu, 0, none⟩) m m] 47)
      have HBr := Lib.hid (HB.out.alloc (by omega) (.cells #[.slice (some ⟨gu, 0, none⟩) m m] 47))
      have HOr := Lib.hid (HO2.out.alloc (.cells #[.slice (some ⟨gu, 0, none⟩) m m] 47))
      have HRW := Lib.hid (show IsRows gu (wr.alloc (.cells #[.slice (some ⟨gu, 0, none⟩) m m] 47)) (.slice (some ⟨wr.heap.size, 0, none⟩) 1 1) [(gu, m, m)] C from ⟨own_rows1 hgr (by omega), fun i p hp => by
        have hi0 : i = 0 := by have := (List.getElem?_eq_some_iff.1 hp).1; simp at this; omega
        subst hi0
        have : (gu, m, m) = p := by simpa using hp
        subst this
        exact ⟨HCL.out.symm, Nat.le_refl _, HOr.out⟩⟩)
      obtain ⟨W1, hW1⟩ : ∃ W1, wr.alloc (.cells #[.slice (some ⟨gu, 0, none⟩) m m] 47) = W1 := ⟨_, rfl⟩
      rw [hW1] at HBr HOr HRW ⊢
      obtain ⟨v1, hv1⟩ : ∃ v1, Value.slice (some ⟨wr.heap.size, 0, none⟩) 1 1 = v1 := ⟨_, rfl⟩
      rw [hv1] at HRW ⊢
      have HV1 := Lib.hid (show slLen v1 = 1 by rw [← hv1]; rfl)
      clear hgr hlu hW1 hv1 HO2 HB
      go_loopw [10] (fun rv wr => ∃ (k : Nat) (ps : List (Nat × Nat × Nat)), 1 ≤ k ∧ k ≤ L ∧ slLen rv = k ∧ Hid (ps.length = k) ∧ Hid (IsRows gu wr rv ps C) ∧ Hid (OwnC gu wr (.slice (some ⟨gu, 0, none⟩) m m) C) ∧ Hid (Below gu w wr)) (fun rv _ => L - slLen rv)
      case atStart => exact ⟨1, [(gu, m, m)], Nat.le_refl _, hL1, HV1.out, Lib.hid rfl, HRW, HOr, HBr⟩
      case round =>
        clear HRW HOr HBr
        obtain ⟨k, ps, hk1, hk, hrv, HPL, HRW, HOr, HBr⟩ := hrel
        obtain ⟨gr, cr, rfl, hgr, hgrl⟩ := HRW.out.1.form (by rw [HPL.out]; omega) (by decide)
        rw [HPL.out] at HRW hrv ⊢
        clear hrv
        by_cases hlt : k < L
        · have hli : (k : Int) < L := by omega
          have hk2 : k - 1 < ps.length := by rw [HPL.out]; omega
          obtain ⟨p, hp⟩ : ∃ p, ps[k - 1] = p := ⟨_, rfl⟩
          have hp' : ps[k - 1]? = some p := by rw [List.getElem?_eq_getElem hk2, hp]
          obtain ⟨q1, q2, q3⟩ := HRW.out.2 (k - 1) p hp'
          have cp := HRW.out.1.cell flatS (k - 1) 0 p hp' (by decide)
          obtain ⟨pg, pn, pc⟩ := p
          simp only at q1 q2 q3
          rw [Nat.mul_one, Nat.add_zero] at cp
          have cp : wr.cell? ⟨gr, k - 1, none⟩ = some (.slice (some ⟨pg, 0, none⟩) pn pc) := by simpa [fS] using cp
          obtain ⟨K1, hK1⟩ : ∃ K1, k - 1 = K1 := ⟨_, rfl⟩
          have eK : (k : Int) - 1 = K1 := by omega
          have hKk : k = K1 + 1 := by omega
          rw [hK1] at cp q1 q3
          have hpn : pn ≤ 5000 := by have := hRM.out K1; rw [HCL.out] at this; omega
          have HQ3 := Lib.hid (own_lie q3)
          have lpg := (q3.lt _ rfl).2
          have HROW := Lib.hid (show mrg (m + pn / 2) C (pairsF (rowF C K1)) = rowF C k from by
            rw [hKk]
            show _ = mrg (C.length + (pairsF (rowF C K1)).length) C (pairsF (rowF C K1))
            rw [pairsF_len, HCL.out, q1])
          have HRL := Lib.hid (show (rowF C k).length = m + pn / 2 from by rw [hKk, row_len, HCL.out, q1])
          have HQ1 := Lib.hid q1
          have CP := Lib.hid (pPairs pg 0 pc pn (rowF C K1) wr q1.symm HQ3.out lpg (by omega) (hRB.out K1 (by omega)))
          have hPn : pn / 2 ≤ 10000 := by omega
          have HOu := Lib.hid (own_lie HOr.out)
          have hgul := (HOr.out.lt _ rfl).2
          have hszB : gu ≤ wr.heap.size := by omega
          have hsz10 : ps.length ≤ 1099511627776 := by rw [HPL.out]; omega
          have HSZ := Lib.hid hsz10
          have hK1n : (K1 : Int) < k := by omega
          have HPP := Lib.hid (pairsF_len (rowF C K1))
          have HKk := Lib.hid hKk
          clear hp hp' q1 q2 q3 hk2 hKk hsz10 hK1
          go_wp2_with (first | (go_at_call 38; refine CP.out.mono ?_; rintro e w3 ⟨g3, rfl, ho3, hb3⟩; have HL3 := Lib.hid (own_lie ho3); have HB3 := Lib.hid hb3; have hg3 := (ho3.lt _ rfl).2; have hgul3 : gu < w3.heap.size := Nat.lt_of_lt_of_le hgul hb3.size; have HT := Lib.hid (pTog gu 0 m m g3 0 (pn / 2) (pn / 2) C (pairsF (rowF C K1)) w3 HCL.out (by rw [HPP.out, HQ1.out]) (HOu.out.kept hgul hb3) HL3.out hgul3 hg3 (by omega) hPn (Nat.le_refl _) (Nat.le_refl _) (by omega)); clear ho3 hb3) | (go_at_call 37; refine HT.out.mono ?_; rintro e w4 ⟨g4, c4, rfl, ho4, hb4⟩; have HB4 := Lib.hid (HB3.out.trans (hb4.mono HB3.out.size)); have HR4 := Lib.hid (HRW.out.kept HB4.out); have HO4 := Lib.hid (ho4.base (show gu ≤ w3.heap.size by omega)); have hs4 : gu ≤ w4.heap.size := Nat.le_trans hszB HB4.out.size; clear ho4 hb4) | (at_builtin; refine app_crow rfl (.tmp 36) (.tmp 46) rfl gu 47 _ ps g4 (m + pn / 2) c4 rfl HR4.out.1 w4.heap.size 1 rfl rfl HSZ.out hs4 ?_; intro v5 w5 ho5 hb5 hg5))
          obtain ⟨g5, c5, rfl, -, -⟩ := ho5.form (by simp) (by decide)
          have hpl : (ps ++ [(g4, m + pn / 2, c4)]).length = k + 1 := by rw [List.length_append, HPL.out]; rfl
          have hR5 := HR4.out.more hg5 g4 (m + pn / 2) c4 ho5 (by rw [HPL.out, HRL.out]) (own_cap HO4.out).2 (by rw [HPL.out, ← HROW.out]; exact HO4.out)
          have hO5 : OwnC gu w5 (.slice (some ⟨gu, 0, none⟩) m m) C := by
            have h4 := OwnS.kept HOr.out HB4.out
            obtain ⟨C', hC'⟩ := own_heap h4
            refine h4.grown hg5 (.inr ?_)
            have := own_ne HR4.out.1 hC' (by decide)
            exact fun e => this e.symm
          rw [hpl] at hR5 ⊢
          refine ⟨⟨k + 1, _, by omega, by omega, rfl, Lib.hid hpl, Lib.hid hR5, Lib.hid hO5, Lib.hid (HBr.out.trans ((HB4.out.mono hszB).trans hb5))⟩, ?_⟩
          simp [slLen]; omega
        · obtain rfl : L = k := by omega
          have hli : ¬ (L : Int) < L := by omega
          go_wp2_with fail
          go_ret
          exact ⟨_, rfl, ps, HPL.out, by rw [HGU.out]; exact HRW.out, by rw [HGU.out]; exact HBr.out⟩
end Go.Proofs.Ytofmjcelmbkebaa
