import Derived.Test.YtmhjmoeeahepaaaGreatPP35
import Derived.Lib.AppendZerosOnto
import Derived.StillTailTactics
/- Layer 11: fill of a part of a table: its contract. -/
namespace Go.Proofs.YtmhjmoeeahepaaaGreat
open Go.ChangeShapes Go.WideShapes Go.ChangeAt Go.RowKit
set_option linter.unusedVariables false
set_option linter.unusedSimpArgs false
set_option maxRecDepth 100000
open Two
set_option maxHeartbeats 4000000 in
theorem tFill (w : World) (B g b o N c T n L C : Nat) (E : Ent) (tab : List Ent) (h : OwnT B w (.slice (some ⟨g, 0, none⟩) L C) tab) (ho : o = b * 4) (hb : b + N ≤ tab.length) (hN : N ≤ 32768) (hn : n ≤ 15) (hT : T < 2 ^ n) :
    Calls Tryz.prog 124 #[.slice (some ⟨g, o, none⟩) N c, .int .i64 T, .int .i64 n, .agg #[.int .i32 E.1, .int .i16 E.2.1, .bool E.2.2.1, .int .i32 E.2.2.2]] w fun e w' => e = .returned (.tuple #[]) ∧ OwnT B w' (.slice (some ⟨g, 0, none⟩) L C) (segF tab b N T (2 ^ n) E) ∧ Keeps (fun j => j = g) w w' := by
  subst ho
  have hq0 : 0 < 2 ^ n := Nat.pow_pos (by decide)
  have hq1 : 2 ^ n ≤ 2 ^ 15 := Nat.pow_le_pow_right (by decide) hn
  have hW : wrap64 ((2 : Int) ^ n) = ((2 ^ n : Nat) : Int) := by
    have e1 : (2 : Int) ^ n = ((2 ^ n : Nat) : Int) := by simp
    rw [e1]; unfold wrap64; generalize 2 ^ n = q at *; omega
  obtain ⟨q, hq⟩ : ∃ q, 2 ^ n = q := ⟨_, rfl⟩
  rw [hq] at hq0 hq1 hW hT
  have HQ := Lib.hid hq
  obtain ⟨E1, E2, E3, E4⟩ := E
  have HST := Lib.hid (fun i hi hlt => segTo_step tab b N T q i ((E1, E2, E3, E4) : Ent) hq0 hi hlt hb)
  have HS0 := Lib.hid (segTo_start tab b N T q ((E1, E2, E3, E4) : Ent) hT)
  have HFL := Lib.hid (fun i => segTo_len tab b N T q i ((E1, E2, E3, E4) : Ent))
  have HSE := Lib.hid (fun i => segTo_end tab b N T q i ((E1, E2, E3, E4) : Ent))
  have HLT := Lib.hid hb
  have HT0 := Lib.hid h
  clear hq h hb
  go_enter Tryz.func124, Tryz.ntmps124
  go_wp2_with fail
  obtain ⟨W, hWW⟩ : ∃ W, w.alloc (.cells #[.int .i32 E1, .int .i16 E2, .bool E3, .int .i32 E4] 154) = W := ⟨_, rfl⟩
  obtain ⟨gb, hgb⟩ : ∃ gb, w.heap.size = gb := ⟨_, rfl⟩
  have hbox : W.heap[gb]? = some (.cells #[.int .i32 E1, .int .i16 E2, .bool E3, .int .i32 E4] 154 (0, 0)) := by rw [← hWW, ← hgb]; exact heap_alloc_new _ _
  have HT1 := Lib.hid (show OwnT B W (.slice (some ⟨g, 0, none⟩) L C) tab by rw [← hWW]; exact HT0.out.alloc _)
  have HK1 := Lib.hid (show Keeps (fun j => j = g) w W by rw [← hWW]; exact (Keeps.refl _ w).alloc _)
  have hge : g < gb := by rw [← hgb]; exact (World.ownsRow.lt HT0.out g rfl).2
  rw [hWW, hgb]
  clear hWW hgb HT0
  have HBX := Lib.hid hbox
  clear hbox
  go_loopw [8] (fun iv wr => ∃ i : Nat, iv = .int .i64 i ∧ i % q = T ∧ i ≤ N + q ∧ Hid (OwnT B wr (.slice (some ⟨g, 0, none⟩) L C) (segTo tab b N T q i (E1, E2, E3, E4))) ∧ Hid (wr.heap[gb]? = some (.cells #[.int .i32 E1, .int .i16 E2, .bool E3, .int .i32 E4] 154 (0, 0))) ∧ Hid (Keeps (fun j => j = g) w wr)) (fun iv _ => (N + q + 1 - (intOf iv).toNat))
  case atStart => exact ⟨T, rfl, Nat.mod_eq_of_lt hT, by omega, Lib.hid (by rw [HS0.out]; exact HT1.out), HBX, HK1⟩
  case round =>
    obtain ⟨i, rfl, him, hiN, ht, hbx, hk⟩ := hrel
    by_cases hlt : i < N
    · have b0 : wr.cell? ⟨gb, 0, none⟩ = some (.int .i32 E1) := cell_lit hbx.out 0 _ rfl
      have b1 : wr.cell? ⟨gb, 1, none⟩ = some (.int .i16 E2) := cell_lit hbx.out 1 _ rfl
      have b2 : wr.cell? ⟨gb, 2, none⟩ = some (.bool E3) := cell_lit hbx.out 2 _ rfl
      have b3 : wr.cell? ⟨gb, 3, none⟩ = some (.int .i32 E4) := cell_lit hbx.out 3 _ rfl
      have hi0 : (0 : Int) ≤ (i : Int) := by omega
      have hi1 : (i : Int) < (N : Int) := by omega
      have hbl : b + i < tab.length := by have := HLT.out; omega
      obtain ⟨P, hP⟩ : ∃ P : Ent, (segTo tab b N T q i (E1, E2, E3, E4))[b + i]? = some P := ⟨_, List.getElem?_eq_getElem (by rw [HFL.out]; exact hbl)⟩
      have hoi : (b + i) * 4 = b * 4 + i * 4 := Nat.add_mul b i 4
      have c0 := OwnS.cell flatT ht.out (b + i) 0 P hP (by decide)
      have c1 := OwnS.cell flatT ht.out (b + i) 1 P hP (by decide)
      have c2 := OwnS.cell flatT ht.out (b + i) 2 P hP (by decide)
      have c3 := OwnS.cell flatT ht.out (b + i) 3 P hP (by decide)
      simp only [fT, List.getElem?_cons_zero, List.getElem?_cons_succ, Nat.add_zero, hoi] at c0 c1 c2 c3
      have f0 := ht.out.free (b * 4 + i * 4)
      have f1 := ht.out.free (b * 4 + i * 4 + 1)
      have f2 := ht.out.free (b * 4 + i * 4 + 2)
      have f3 := ht.out.free (b * 4 + i * 4 + 3)
      have hne2 : gb ≠ g := by omega
      have HT2 := Lib.hid (show OwnT B ((((wr.setCell ⟨g, b * 4 + i * 4, none⟩ (.int .i32 E1)).setCell ⟨g, b * 4 + i * 4 + 1, none⟩ (.int .i16 E2)).setCell ⟨g, b * 4 + i * 4 + 2, none⟩ (.bool E3)).setCell ⟨g, b * 4 + i * 4 + 3, none⟩ (.int .i32 E4)) (.slice (some ⟨g, 0, none⟩) L C) (segTo tab b N T q (i + q) (E1, E2, E3, E4)) by
        rw [← HST.out i him hlt, ← hoi]
        exact OwnS.set4 flatT (show OwnT B wr _ _ from ht.out) (b + i) (E1, E2, E3, E4) _ _ _ _ rfl (by rw [HFL.out]; exact hbl))
      have HB2 := Lib.hid (show ((((wr.setCell ⟨g, b * 4 + i * 4, none⟩ (.int .i32 E1)).setCell ⟨g, b * 4 + i * 4 + 1, none⟩ (.int .i16 E2)).setCell ⟨g, b * 4 + i * 4 + 2, none⟩ (.bool E3)).setCell ⟨g, b * 4 + i * 4 + 3, none⟩ (.int .i32 E4)).heap[gb]? = _ from ((((Below.heap_setCell _ _ _ _ hne2).trans (Below.heap_setCell _ _ _ _ hne2)).trans (Below.heap_setCell _ _ _ _ hne2)).trans (Below.heap_setCell _ _ _ _ hne2)).trans hbx.out)
      have HK2 := Lib.hid ((((hk.out.setCell (p := ⟨g, b * 4 + i * 4, none⟩) (.inr rfl) (.int .i32 E1)).setCell (p := ⟨g, b * 4 + i * 4 + 1, none⟩) (.inr rfl) (.int .i16 E2)).setCell (p := ⟨g, b * 4 + i * 4 + 2, none⟩) (.inr rfl) (.bool E3)).setCell (p := ⟨g, b * 4 + i * 4 + 3, none⟩) (.inr rfl) (.int .i32 E4))
      have HOI := Lib.hid hoi
      have HBL := Lib.hid hbl
      clear hoi hbl hP
      go_wp2_with fail
      clear c0 c1 c2 c3 f0 f1 f2 f3 b0 b1 b2 b3
      go_roundw
      case rel => exact ⟨i + q, by go_num, by rw [Nat.add_mod_right]; exact him, by omega, HT2, HB2, HK2⟩
      case measure => simp [intOf]; omega
    · have hNi : N ≤ i := by omega
      go_wp2_with fail
      go_end0
      exact ⟨rfl, by rw [HQ.out, ← HSE.out i hNi]; exact ht.out, hk.out⟩
end Go.Proofs.YtmhjmoeeahepaaaGreat

/- Layer 11: append(s, make([]T, k)...) on a row of the call's own. -/
namespace Go.Proofs.YtmhjmoeeahepaaaGreat
open Go.ChangeShapes Go.WideShapes Go.ChangeAt Go.RowKit Go.Lib
set_option linter.unusedVariables false
set_option linter.unusedSimpArgs false
set_option maxRecDepth 100000
/-- There is room. -/
theorem run_append_room_zeros {P : Program} (w : World) (t tn ty e : TypeId) (i : TypeInfo) (z : Value) (kq kn : IntKind) (ht : P.underlying t = some (.slice e)) (htn : P.underlying tn = some (.int kn)) (hi : P.info? e = some i) (hz : i.zero = some z)
    (g sLen sCap : Nat) (cur : Array Value) (hg : w.heap[g]? = some (.cells cur e (0, 0))) (k : Nat) (h0 : 0 < k) (hs : 0 < i.size) (h63 : (k : Int) ≤ 9223372036854775807) (h48 : k * i.bytes ≤ 281474976710656)
    (h1 : ∀ u ∈ (Builtin.zeroCells z.cells k).toList, u.oneCell' = true) (hroom : sLen + k ≤ sCap) (hfit : sLen * i.size + (Builtin.zeroCells z.cells k).toList.length ≤ cur.size) :
    (Builtin.append_ #[t, tn] ty #[.slice (some ⟨g, 0, none⟩) sLen sCap, .int kq k]).run P w =
      .ok (.slice (some ⟨g, 0, none⟩) (sLen + k) sCap) (w.setRow g (cur.toList.take (sLen * i.size) ++ (Builtin.zeroCells z.cells k).toList ++ cur.toList.drop (sLen * i.size + (Builtin.zeroCells z.cells k).toList.length)).toArray) := by
  have hst := run_storeCells_at P g (sLen * i.size) e (Builtin.zeroCells z.cells k).toList 0 cur w hg (by simpa using hfit) h1
  simp only [Nat.add_zero] at hst
  obtain ⟨Z, hZ⟩ : ∃ Z, Builtin.zeroCells z.cells k = Z := ⟨_, rfl⟩
  rw [hZ] at hst ⊢
  have hw : IntKind.i64.wrap (k : Int) = k := by rw [IntKind.wrap_i64]; omega
  have hk : k ≠ 0 := by omega
  have h48i : ¬ (281474976710656 < (k : Int) * (i.bytes : Int)) := by
    rw [← Int.natCast_mul]
    omega
  have hneg : ¬ ((k : Int) < 0) := by omega
  have hns : ¬ (k * i.size = 0) := Nat.mul_ne_zero hk (by omega)
  simp [Builtin.append_, run_underlying ht, run_underlying htn, sizeOf, typeInfo, zeroValue, hi, hz, hZ, asInt, asIntOf, hw, hroom, hneg, hns, h48i, Addr.add_lit, hst]
/-- The whole law: and where the new row lies. -/
theorem run_append_make {P : Program} (w : World) (base : Nat) (t tn ty e : TypeId) (i : TypeInfo) (z : Value) (size bytes : Nat) (kq kn : IntKind) (ht : P.underlying t = some (.slice e)) (htn : P.underlying tn = some (.int kn)) (hi : P.info? e = some i) (hz : i.zero = some z)
    (hsize : i.size = size) (hby : i.bytes = bytes) (hzs : z.cells.size = size) (hsz : 0 < size)
    (v : Value) (n : Nat) (xs : List Value) (hown : w.ownsRow base e size v n xs) (m : Nat) (news : List Value) (hnews : (Builtin.zeroCells z.cells m).toList = news) (h1 : ∀ u ∈ news, u.oneCell' = true)
    (h63 : n + m ≤ maxLen) (hbytes : (n + m) * bytes ≤ 140737488355328) (hbase : base ≤ w.heap.size) (hm : 0 < m) :
    ∃ k cap w', (Builtin.append_ #[t, tn] ty #[v, .int kq m]).run P w = .ok (.slice (some ⟨k, 0, none⟩) (n + m) cap) w' ∧ w'.ownsRow base e size (.slice (some ⟨k, 0, none⟩) (n + m) cap) (n + m) (xs ++ news) ∧ w.grownBy w' v.ownBlock ∧ (v.ownBlock = some k ∨ k = w.heap.size) := by
  subst hsize
  subst hby
  have hsmall : n + m ≤ 9223372036854775807 := by simp only [maxLen] at h63; omega
  have hl : news.length = m * i.size := by rw [← hnews, Array.length_toList, size_zeroCells, hzs]
  have hne : news.toArray = Builtin.zeroCells z.cells m := by rw [← hnews]
  have hlen : (xs ++ news).length = (n + m) * i.size := by rw [List.length_append, hown.1, hl, Nat.add_mul]
  have hmb : m * i.bytes ≤ (n + m) * i.bytes := Nat.mul_le_mul_right _ (by omega)
  have grown : ∀ (old : Nat), old < n + m → ∀ (row : Option Nat),
      (w.drew.alloc (.cells (xs.toArray ++ news.toArray ++ Builtin.zeroCells z.cells (grownCap w (n + m) old e - (n + m))) e)).ownsRow base e i.size
        (.slice (some ⟨w.heap.size, 0, none⟩) (n + m) (grownCap w (n + m) old e)) (n + m) (xs ++ news) ∧
      w.grownBy (w.drew.alloc (.cells (xs.toArray ++ news.toArray ++ Builtin.zeroCells z.cells (grownCap w (n + m) old e - (n + m))) e)) row := by
    intro old ho row
    have hge := grownCap_ge w (n + m) old e
    have hcm : grownCap w (n + m) old e ≤ maxLen := grownCap_le_maxLen w (n + m) old e h63
    refine ⟨⟨hlen, .inr ⟨w.heap.size, _, _, rfl, hbase, heap_alloc_new w.drew _, hge, hcm, ?_, ?_⟩⟩, ⟨rfl, rfl, rfl, by simp, fun k hk _ => Below.heap_alloc w.drew _ k hk⟩⟩
    · simp only [Array.size_append, List.size_toArray, size_zeroCells, hzs, hown.1, hl, ← Nat.add_mul]
      congr 1
      omega
    · simp only [Array.toList_append, List.append_assoc]
      rw [← List.append_assoc, ← hlen]
      exact List.take_left
  rcases hown.2 with ⟨rfl, rfl⟩ | ⟨g, cap, cur, rfl, hbg, hg, hnc, hcm, hcs, htake⟩
  · have hx : xs = [] := List.eq_nil_of_length_eq_zero (by simpa using hown.1)
    subst hx
    have hr := run_append_nil_zeros (P := P) w t tn ty e i z kq kn ht htn hi hz m hm hsz (by omega) (by omega)
    have hgr := grown 0 (by omega) (Value.ownBlock (.slice none 0 0))
    simp only [Nat.zero_add, List.nil_append, Array.empty_append, hne] at hgr ⊢
    exact ⟨_, _, _, hr, hgr.1, hgr.2, .inr rfl⟩
  · by_cases hroom : n + m ≤ cap
    · have hfit : n * i.size + news.length ≤ cur.size := by rw [hl, hcs, ← Nat.add_mul]; exact Nat.mul_le_mul_right _ hroom
      have hr := run_append_room_zeros (P := P) w t tn ty e i z kq kn ht htn hi hz g n cap cur hg m hm hsz (by omega) (by omega) (by rw [hnews]; exact h1) hroom (by rw [hnews]; exact hfit)
      rw [hnews] at hr
      refine ⟨_, _, _, hr, ⟨hlen, .inr ⟨g, cap, _, rfl, hbg, setRow_heap w g cur _ e _ hg, hroom, hcm, ?_, ?_⟩⟩, ⟨rfl, rfl, rfl, by simp, fun k _ hk => setRow_other w g k _ (fun e => hk (by simp [Value.ownBlock, e]))⟩, .inl (by simp [Value.ownBlock])⟩
      · simp only [List.size_toArray, List.length_append, List.length_take, List.length_drop, Array.length_toList]
        omega
      · rw [htake, ← hlen]
        exact List.take_left
    · have holds : ∀ j u, xs[j]? = some u → w.cell? ((⟨g, 0, none⟩ : Addr).add j) = some u := hown.cells (g := g) rfl
      have hf := run_firstCells_some (P := P) w.drew i.size n ⟨g, 0, none⟩ n cap xs hown.1 holds
      have hr := run_append_grow_zeros (P := P) w t tn ty e i z kq kn ht htn hi hz (some ⟨g, 0, none⟩) n cap xs hf m hm hsz (by omega) (by omega) (by omega) (growslice_fits (by omega) hbytes)
      have hgr := grown cap (by omega) (Value.ownBlock (.slice (some ⟨g, 0, none⟩) n cap))
      rw [hne] at hgr
      exact ⟨_, _, _, hr, hgr.1, hgr.2, .inr rfl⟩
/-- A row of places, and zeros behind it. -/
theorem zeros_flat {α : Type} {f : α → List Value} {sz : Nat} (hf : Flat f sz) (hsz : 0 < sz) (x0 : α) (z : Value) (hx0 : z.cells = (f x0).toArray) (m : Nat) : (Builtin.zeroCells z.cells m).toList = (List.replicate m x0).flatMap f := by
  have hlen : (f x0).length = sz := (hf x0).1
  rw [hx0]
  apply List.ext_getElem?
  intro j
  by_cases hj : j < m * sz
  · have hq : j / sz < m := Nat.div_lt_of_lt_mul (by rw [Nat.mul_comm]; exact hj)
    have hr : j % sz < sz := Nat.mod_lt _ hsz
    have hd : j / sz * sz + j % sz = j := by rw [Nat.mul_comm]; exact Nat.div_add_mod j sz
    have := flat_get hf (List.replicate m x0) (j / sz) (j % sz) x0 (by simp [hq]) hr
    rw [hd] at this
    rw [this]
    simp [Builtin.zeroCells, hj, hlen, hr]
  · rw [List.getElem?_eq_none (by rw [Array.length_toList, size_zeroCells]; simp [hlen]; omega), List.getElem?_eq_none (by rw [flat_len hf]; simp; omega)]
theorem append_make {P : Program} {α : Type} {f : α → List Value} {E ST TN sz bytes B : Nat} {z : Value} (hE : (P.info? E).map (fun i => (i.zero, i.size, i.bytes)) = some (some z, sz, bytes)) (hby : bytes ≤ 64) (hST : P.underlying ST = some (.slice E)) (kq kn : IntKind) (hTN : P.underlying TN = some (.int kn)) (x0 : α) (hx0 : z.cells = (f x0).toArray) (hf : Flat f sz) (hsz : 0 < sz)
    {w : World} {ops : Array Oper} {rest : List Oper} {o : Oper} {a : Act} {Q : Exit → Act → World → Prop} (hgd : o.guard = none) (s x : Operand) (ho : o.op = .call { callee := .builtin .append, args := #[s, x], argTypes := #[ST, TN] })
    (v : Value) (l : List α) (hs : a.eval s = v) (hown : OwnS f E sz B w v l) (m : Nat) (hx : a.eval x = .int kq m) (hm : 0 < m) (hn : l.length + m ≤ 1099511627776) (hB : B ≤ w.heap.size)
    (h : ∀ k cap w', OwnS f E sz B w' (.slice (some ⟨k, 0, none⟩) (l.length + m) cap) (l ++ List.replicate m x0) → w.grownBy w' v.ownBlock → (v.ownBlock = some k ∨ k = w.heap.size) → wpList P ops Q rest (a.put o.dst (.slice (some ⟨k, 0, none⟩) (l.length + m) cap)) w') : wpList P ops Q (o :: rest) a w := by
  obtain ⟨i0, hi, h1, h2, h3⟩ := info_get hE
  have hzs : z.cells.size = sz := by rw [hx0]; simp [(hf x0).1]
  obtain ⟨k, cap, w', hr, h4, h5, h6⟩ := run_append_make (P := P) w B ST TN o.type E i0 z sz bytes kq kn hST hTN hi h1 h2 h3 hzs hsz v l.length (l.flatMap f) hown m _ (zeros_flat hf hsz x0 z hx0 m) (flat_one hf _) (by unfold maxLen; omega)
    (by
      calc (l.length + m) * bytes ≤ 1099511627776 * 64 := Nat.mul_le_mul hn hby
        _ ≤ _ := by decide) hB hm
  refine wpList_append_run w hgd s x ST TN ho _ _ hs hx _ _ hr (h k cap w' ?_ h5 h6)
  unfold OwnS
  rw [List.flatMap_append, List.length_append, List.length_replicate]
  exact h4
end Go.Proofs.YtmhjmoeeahepaaaGreat

/- Layer 11: (*Table).add of a code that the first table has room for. -/
namespace Go.Proofs.YtmhjmoeeahepaaaGreat
open Go.ChangeShapes Go.WideShapes Go.ChangeAt Go.RowKit Go.Lib
set_option linter.unusedVariables false
set_option linter.unusedSimpArgs false
set_option maxRecDepth 100000
open Two
structure IsT2 (w : World) (B gt gs R root L : Nat) (vl : Value) (short long : List Ent) : Prop where
  tb : w.heap[gt]? = some (.cells #[.slice (some ⟨gs, 0, none⟩) R R, .int .i64 root, vl, .int .i64 L] 150 (0, 0))
  rs : OwnT B w (.slice (some ⟨gs, 0, none⟩) R R) short
  rl : OwnT B w vl long
  sl : vl.ownBlock ≠ some gs
theorem IsT2.ne {w : World} {B gt gs R root L : Nat} {vl : Value} {short long : List Ent} (h : IsT2 w B gt gs R root L vl short long) : gt ≠ gs := by
  intro e
  subst e
  exact own_ne h.rs h.tb (by decide) rfl
theorem IsT2.len {w : World} {B gt gs R root L : Nat} {vl : Value} {short long : List Ent} (h : IsT2 w B gt gs R root L vl short long) : short.length = R := by
  rcases h.rs.2 with ⟨h0, -⟩ | ⟨g', cap', cur', h0, -⟩ <;> simp at h0; omega
theorem IsT2.kept {w w' : World} {B gt gs R root L : Nat} {vl : Value} {short long : List Ent} (h : IsT2 w B gt gs R root L vl short long) (hb : Below w.heap.size w w') : IsT2 w' B gt gs R root L vl short long :=
  ⟨(hb.block _ (block_lt h.tb)).trans h.tb, OwnS.kept h.rs hb, OwnS.kept h.rl hb, h.sl⟩
theorem step_make {P : Program} {α : Type} {f : α → List Value} {E ST TN sz bytes B : Nat} {z : Value} (hE : (P.info? E).map (fun i => (i.zero, i.size, i.bytes)) = some (some z, sz, bytes)) (hby : bytes ≤ 64) (hST : P.underlying ST = some (.slice E)) (kq kn : IntKind) (hTN : P.underlying TN = some (.int kn)) (x0 : α) (hx0 : z.cells = (f x0).toArray) (hf : Flat f sz) (hsz : 0 < sz)
    {w : World} {ops : Array Oper} {o : Oper} {a : Act} {K : Act → World → Prop} {Q : Exit → Act → World → Prop} {F : Prop} (hgd : o.guard = none) (s x : Operand) (ho : o.op = .call { callee := .builtin .append, args := #[s, x], argTypes := #[ST, TN] })
    (v : Value) (l : List α) (hs : a.eval s = v) (hown : OwnS f E sz B w v l) (m : Nat) (hx : a.eval x = .int kq m) (hm : 0 < m) (hn : l.length + m ≤ 1099511627776) (hB : B ≤ w.heap.size)
    (h : ∀ k cap w', OwnS f E sz B w' (.slice (some ⟨k, 0, none⟩) (l.length + m) cap) (l ++ List.replicate m x0) → w.grownBy w' v.ownBlock → (v.ownBlock = some k ∨ k = w.heap.size) → K (a.put o.dst (.slice (some ⟨k, 0, none⟩) (l.length + m) cap)) w') :
    if Region.wanted o (yielded ops a.tmps) = true then Oper.wp P o a w K Q else F := by
  have hw : Region.wanted o (yielded ops a.tmps) = true := by simp [Region.wanted, hgd]
  rw [if_pos hw]
  obtain ⟨i0, hi, h1, h2, h3⟩ := info_get hE
  have hzs : z.cells.size = sz := by rw [hx0]; simp [(hf x0).1]
  obtain ⟨k, cap, w', hr, h4, h5, h6⟩ := run_append_make (P := P) w B ST TN o.type E i0 z sz bytes kq kn hST hTN hi h1 h2 h3 hzs hsz v l.length (l.flatMap f) hown m _ (zeros_flat hf hsz x0 z hx0 m) (flat_one hf _) (by unfold maxLen; omega)
    (by
      calc (l.length + m) * bytes ≤ 1099511627776 * 64 := Nat.mul_le_mul hn hby
        _ ≤ _ := by decide) hB hm
  refine wp_append_run w s x ST TN ho _ _ hs hx _ _ hr (h k cap w' ?_ h5 h6)
  unfold OwnS
  rw [List.flatMap_append, List.length_append, List.length_replicate]
  exact h4
set_option maxHeartbeats 1600000 in
theorem tAddShort (w : World) (B gt gs R root L T n s : Nat) (vl : Value) (short long : List Ent) (h : IsT2 w B gt gs R root L vl short long) (hR : R ≤ 32768) (hn : n ≤ root) (hr : root ≤ 15) (hT : T < 2 ^ n) :
    Calls Tryz.prog 108 #[.pointer (some ⟨gt, 0, none⟩), .int .i64 T, .agg #[.int .i32 s, .int .i16 n, .bool false, .int .i32 0]] w fun e w' => e = .returned (.tuple #[]) ∧ IsT2 w' B gt gs R root L vl (fillE short T (2 ^ n) ((s : Int), (n : Int), false, 0)) long ∧ Keeps (fun j => j = gs) w w' := by
  have CF := Lib.hid (fun W (hk : Below w.heap.size w W) => tFill W B gs 0 0 R R T n R R ((s : Int), (n : Int), false, 0) short (h.kept hk).rs rfl (by rw [h.len]; omega) hR (by omega) hT)
  have HLR := Lib.hid h.len
  have HT0 := Lib.hid h
  clear h
  have hgt : gt < w.heap.size := block_lt HT0.out.tb
  obtain ⟨gb, hgb⟩ : ∃ gb, w.heap.size = gb := ⟨_, rfl⟩
  obtain ⟨W, hWW⟩ : ∃ W, w.alloc (.cells #[.int .i32 s, .int .i16 n, .bool false, .int .i32 0] 154) = W := ⟨_, rfl⟩
  have hbox : W.heap[gb]? = some (.cells #[.int .i32 s, .int .i16 n, .bool false, .int .i32 0] 154 (0, 0)) := by rw [← hWW, ← hgb]; exact heap_alloc_new _ _
  have htab := heap_old HT0.out.tb (.cells #[.int .i32 s, .int .i16 n, .bool false, .int .i32 0] 154)
  have t1' := cell_lit htab 1 _ rfl
  rw [hWW] at htab
  have HBL := Lib.hid (show Below w.heap.size w W by rw [← hWW]; exact (Below.refl _ _).alloc (Nat.le_refl _) _)
  have HK1 := Lib.hid (show Keeps (fun j => j = gs) w W by rw [← hWW]; exact (Keeps.refl _ w).alloc _)
  have b0 : W.cell? ⟨gb, 0, none⟩ = some (.int .i32 s) := cell_lit hbox 0 _ rfl
  have b1 : W.cell? ⟨gb, 1, none⟩ = some (.int .i16 n) := cell_lit hbox 1 _ rfl
  have b2 : W.cell? ⟨gb, 2, none⟩ = some (.bool false) := cell_lit hbox 2 _ rfl
  have b3 : W.cell? ⟨gb, 3, none⟩ = some (.int .i32 0) := cell_lit hbox 3 _ rfl
  have t0 : W.cell? ⟨gt, 0, none⟩ = some (.slice (some ⟨gs, 0, none⟩) R R) := cell_lit htab 0 _ rfl
  have t1 : W.cell? ⟨gt, 1, none⟩ = some (.int .i64 root) := cell_lit htab 1 _ rfl
  have CF' := Lib.hid (show Calls Tryz.prog 124 #[.slice (some ⟨gs, 0, none⟩) R R, .int .i64 T, .int .i64 n, .agg #[.int .i32 s, .int .i16 n, .bool false, .int .i32 0]] W.drew _ from CF.out W.drew HBL.out.drew)
  clear hbox htab CF
  go_enter Tryz.func108, Tryz.ntmps108
  go_wp2_with fail
  clear t1'
  try rw [hWW]
  try rw [hgb]
  go_still_tail 8, (by kernel_rfl)
  change wpList _ _ _ _ _ W.drew
  go_wp2_with fail
  refine CF'.out.mono ?_; rintro e w5 ⟨rfl, h5, hk5⟩
  have HT := Lib.hid (show IsT2 w5 B gt gs R root L vl (fillE short T (2 ^ n) ((s : Int), (n : Int), false, 0)) long by
    have hn := HT0.out.ne
    have hkw := HK1.out.drew.trans hk5
    refine ⟨hkw.heap HT0.out.tb hn, ?_, ?_, HT0.out.sl⟩
    · rw [← segF_fill, HLR.out]; exact h5
    · exact hkw.ownsRow HT0.out.rl (fun k hk e => HT0.out.sl (by rw [hk, e])))
  have HK := Lib.hid (HK1.out.drew.trans hk5)
  go_wp2_with fail
  refine bodyPost_ret (results_none rfl _ _ _) rfl ?_
  exact ⟨rfl, HT.out, HK.out⟩
end Go.Proofs.YtmhjmoeeahepaaaGreat

/- Layer 11: (*Table).add of a code behind a head that is far. -/
namespace Go.Proofs.YtmhjmoeeahepaaaGreat
open Go.ChangeShapes Go.WideShapes Go.ChangeAt Go.RowKit Go.Lib
set_option linter.unusedVariables false
set_option linter.unusedSimpArgs false
set_option maxRecDepth 100000
open Two
theorem mask_bits (x k : Nat) (hx : x ≤ 1000000000) (hk : k ≤ 31) : Go.bits .and .i64 (x : Int) (((2 ^ k : Nat) : Int) - 1) = ((x % 2 ^ k : Nat) : Int) := by
  have e : (((2 ^ k : Nat) : Int) - 1) = (2 : Int) ^ k - 1 := by simp
  rw [e]
  have hp : 0 < 2 ^ k := Nat.pow_pos (by decide)
  have hp2 : 2 ^ k ≤ 2 ^ 31 := Nat.pow_le_pow_right (by decide) hk
  have e : (2 : Int) ^ k - 1 = ((2 ^ k - 1 : Nat) : Int) := by
    rw [Int.ofNat_sub hp]; simp
  rw [e]
  have h := (bits_nat .i64 62 (by decide) (fun n h0 h1 => IntWalk.i64_in n (by omega)) x (2 ^ k - 1) (by omega) (by omega)).1
  rw [h, Nat.and_two_pow_sub_one_eq_mod]
set_option maxHeartbeats 1600000 in
theorem tAddFar (w : World) (B gt gs gl R root L D SZ T n s H f N C d : Nat) (short long : List Ent) (h : IsT2 w B gt gs R root L (.slice (some ⟨gl, 0, none⟩) N C) short long) (hR : 2 ^ root = R) (hSZ : 2 ^ D = SZ) (hL : root + D = L) (hL15 : L ≤ 15) (hr : 1 ≤ root) (hd : n = root + d) (hd0 : 0 < d) (hdD : d ≤ D) (hT : T < 2 ^ n) (hH : T % R = H)
    (hfar : short[H]? = some (0, 0, true, (f : Int))) (hf : f + SZ ≤ long.length) (hf2 : f ≤ 32768) (hN : N = long.length) (hC : N ≤ C) :
    Calls Tryz.prog 108 #[.pointer (some ⟨gt, 0, none⟩), .int .i64 T, .agg #[.int .i32 s, .int .i16 n, .bool false, .int .i32 0]] w fun e w' => e = .returned (.tuple #[]) ∧ IsT2 w' B gt gs R root L (.slice (some ⟨gl, 0, none⟩) N C) short (segF long f SZ (T / R) (2 ^ d) ((s : Int), (n : Int), false, 0)) ∧ Keeps (fun j => j = gl) w w' := by
  have hRp : 0 < R := by rw [← hR]; exact Nat.pow_pos (by decide)
  have hSp : 0 < SZ := by rw [← hSZ]; exact Nat.pow_pos (by decide)
  have hR15 : R ≤ 32768 := by rw [← hR]; exact Nat.le_trans (Nat.pow_le_pow_right (by decide) (show root ≤ 15 by omega)) (by decide)
  have hS15 : SZ ≤ 32768 := by rw [← hSZ]; exact Nat.le_trans (Nat.pow_le_pow_right (by decide) (show D ≤ 15 by omega)) (by decide)
  have hHR : H < R := by rw [← hH]; exact Nat.mod_lt _ hRp
  have hT15 : T < 32768 := Nat.lt_of_lt_of_le hT (Nat.le_trans (Nat.pow_le_pow_right (by decide) (show n ≤ 15 by omega)) (by decide))
  have hT2 : T / R < 2 ^ d := by rw [Nat.div_lt_iff_lt_mul hRp, ← hR, ← Nat.pow_add, Nat.add_comm, ← hd]; exact hT
  have hAnd : Go.bits .and .i64 (T : Int) ((R : Int) - 1) = (H : Int) := by rw [← hH, ← hR]; exact mask_bits T root (by omega) (by omega)
  have hW1 : IntKind.i64.wrap ((2 : Int) ^ root) = (R : Int) := by
    have e1 : (2 : Int) ^ root = ((2 ^ root : Nat) : Int) := by simp
    rw [e1, hR, IntKind.wrap_i64]; omega
  have hW2 : IntKind.i64.wrap ((2 : Int) ^ D) = (SZ : Int) := by
    have e1 : (2 : Int) ^ D = ((2 ^ D : Nat) : Int) := by simp
    rw [e1, hSZ, IntKind.wrap_i64]; omega
  obtain ⟨T2, hT2e⟩ : ∃ T2, T / R = T2 := ⟨_, rfl⟩
  have hShr : (T : Int) / 2 ^ root = (T2 : Int) := by
    have e1 : (2 : Int) ^ root = ((2 ^ root : Nat) : Int) := by simp
    rw [e1, hR, ← hT2e]; simp
  rw [hT2e] at hT2 ⊢
  have CF := Lib.hid (fun W (hk : Below w.heap.size w W) (o c : Nat) (ho : o = f * 4) => show Calls Tryz.prog 124 #[.slice (some ⟨gl, o, none⟩) SZ c, .int .i64 T2, .int .i64 d, .agg #[.int .i32 s, .int .i16 n, .bool false, .int .i32 0]] W _ from tFill W B gl f o SZ c T2 d N C ((s : Int), (n : Int), false, 0) long (h.kept hk).rl ho hf (by omega) (by omega) hT2)
  have HT0 := Lib.hid h
  have hgt : gt < w.heap.size := block_lt HT0.out.tb
  obtain ⟨gb, hgb⟩ : ∃ gb, w.heap.size = gb := ⟨_, rfl⟩
  obtain ⟨W, hWW⟩ : ∃ W, w.alloc (.cells #[.int .i32 s, .int .i16 n, .bool false, .int .i32 0] 154) = W := ⟨_, rfl⟩
  have hbox : W.heap[gb]? = some (.cells #[.int .i32 s, .int .i16 n, .bool false, .int .i32 0] 154 (0, 0)) := by rw [← hWW, ← hgb]; exact heap_alloc_new _ _
  have htab := heap_old HT0.out.tb (.cells #[.int .i32 s, .int .i16 n, .bool false, .int .i32 0] 154)
  have t1' := cell_lit htab 1 _ rfl
  rw [hWW] at htab
  have HBL := Lib.hid (show Below w.heap.size w W by rw [← hWW]; exact (Below.refl _ _).alloc (Nat.le_refl _) _)
  have HK1 := Lib.hid (show Keeps (fun j => j = gl) w W by rw [← hWW]; exact (Keeps.refl _ w).alloc _)
  have b0 : W.cell? ⟨gb, 0, none⟩ = some (.int .i32 s) := cell_lit hbox 0 _ rfl
  have b1 : W.cell? ⟨gb, 1, none⟩ = some (.int .i16 n) := cell_lit hbox 1 _ rfl
  have b2 : W.cell? ⟨gb, 2, none⟩ = some (.bool false) := cell_lit hbox 2 _ rfl
  have b3 : W.cell? ⟨gb, 3, none⟩ = some (.int .i32 0) := cell_lit hbox 3 _ rfl
  have t0 : W.cell? ⟨gt, 0, none⟩ = some (.slice (some ⟨gs, 0, none⟩) R R) := cell_lit htab 0 _ rfl
  have t1 : W.cell? ⟨gt, 1, none⟩ = some (.int .i64 root) := cell_lit htab 1 _ rfl
  have t2 : W.cell? ⟨gt, 2, none⟩ = some (.slice (some ⟨gl, 0, none⟩) N C) := cell_lit htab 2 _ rfl
  have t3 : W.cell? ⟨gt, 3, none⟩ = some (.int .i64 L) := cell_lit htab 3 _ rfl
  have hHi : (H : Int) < (R : Int) := by omega
  have s0 := OwnS.cell flatT (HT0.out.kept HBL.out).rs H 0 _ hfar (by decide)
  have s1 := OwnS.cell flatT (HT0.out.kept HBL.out).rs H 1 _ hfar (by decide)
  have s2 := OwnS.cell flatT (HT0.out.kept HBL.out).rs H 2 _ hfar (by decide)
  have s3 := OwnS.cell flatT (HT0.out.kept HBL.out).rs H 3 _ hfar (by decide)
  simp only [fT, List.getElem?_cons_zero, List.getElem?_cons_succ, Nat.add_zero] at s0 s1 s2 s3
  have HTT := Lib.hid hT
  have HSZ := Lib.hid hSZ
  have hn1 : n ≤ 15 := by omega
  have hW3 : IntKind.i64.wrap ((R : Int) - 1) = (R : Int) - 1 := by rw [IntKind.wrap_i64]; omega
  have hW4 : IntKind.i64.wrap ((n : Int) - (root : Int)) = (d : Int) := by rw [IntKind.wrap_i64]; omega
  have hW5 : IntKind.i64.wrap ((L : Int) - (root : Int)) = (D : Int) := by rw [IntKind.wrap_i64]; omega
  have hW6 : IntKind.i64.wrap ((f : Int) + (SZ : Int)) = (f : Int) + (SZ : Int) := by rw [IntKind.wrap_i64]; omega
  have hD15 : D ≤ 15 := by omega
  have hmin : min D 64 = D := by omega
  have hCf : ¬ (C = f) := by omega
  have hx1 : (0 : Int) ≤ (f : Int) + (SZ : Int) := by omega
  have hx2 : (f : Int) + (SZ : Int) ≤ (C : Int) := by omega
  have hx3 : ((f : Int) + (SZ : Int)).toNat = f + SZ := by omega
  have hW7 : IntKind.i64.wrap (f : Int) = (f : Int) := by rw [IntKind.wrap_i64]; omega
  have hfl : f + SZ ≤ C := by omega
  have hrn : root < n := by omega
  have hrn2 : (root : Int) < (n : Int) := by omega
  have HD := Lib.hid hd
  have HL := Lib.hid hL
  clear hd hL
  clear hbox htab h hT hT2 hH hfar hR hSZ hT2e
  go_enter Tryz.func108, Tryz.ntmps108
  go_wp2_with fail
  clear t1'
  go_quiet (fail)
  go_wp2_with fail
  rename_i nq
  obtain ⟨W2, hW2⟩ : ∃ W2, W.drewN nq = W2 := ⟨_, rfl⟩
  have b0 : W2.cell? ⟨gb, 0, none⟩ = some (.int .i32 s) := by rw [← hW2]; exact b0
  have b1 : W2.cell? ⟨gb, 1, none⟩ = some (.int .i16 n) := by rw [← hW2]; exact b1
  have b2 : W2.cell? ⟨gb, 2, none⟩ = some (.bool false) := by rw [← hW2]; exact b2
  have b3 : W2.cell? ⟨gb, 3, none⟩ = some (.int .i32 0) := by rw [← hW2]; exact b3
  have t0 : W2.cell? ⟨gt, 0, none⟩ = some (.slice (some ⟨gs, 0, none⟩) R R) := by rw [← hW2]; exact t0
  have t1 : W2.cell? ⟨gt, 1, none⟩ = some (.int .i64 root) := by rw [← hW2]; exact t1
  have t2 : W2.cell? ⟨gt, 2, none⟩ = some (.slice (some ⟨gl, 0, none⟩) N C) := by rw [← hW2]; exact t2
  have t3 : W2.cell? ⟨gt, 3, none⟩ = some (.int .i64 L) := by rw [← hW2]; exact t3
  have s3 : W2.cell? ⟨gs, H * 4 + 3, none⟩ = some (.int .i32 (f : Int)) := by rw [← hW2]; exact s3
  have HBL2 := Lib.hid (show Below w.heap.size w W2 by rw [← hW2]; exact below_dn HBL.out nq)
  have HK2 := Lib.hid (show Keeps (fun j => j = gl) w W2 by rw [← hW2]; exact HK1.out.drewN nq)
  rw [hW2]
  clear hW2 s0 s1 s2 HBL HK1
  go_still_tail 41, (by kernel_rfl)
  change wpList _ _ _ _ _ W2.drew
  go_wp2_with fail
  refine (CF.out W2.drew HBL2.out.drew (f * 4) (C - f) rfl).mono ?_; rintro e w5 ⟨rfl, h5, hk5⟩
  have HK := Lib.hid (HK2.out.drew.trans hk5)
  have HT := Lib.hid (show IsT2 w5 B gt gs R root L (.slice (some ⟨gl, 0, none⟩) N C) short (segF long f SZ T2 (2 ^ d) ((s : Int), (n : Int), false, 0)) by
    have hne : gs ≠ gl := fun e => HT0.out.sl (by rw [e]; rfl)
    have hn2 : gt ≠ gl := fun e => by
      have hh := HT0.out.tb
      rw [e] at hh
      exact own_ne HT0.out.rl hh (by decide) rfl
    refine ⟨HK.out.heap HT0.out.tb hn2, ?_, h5, HT0.out.sl⟩
    exact HK.out.ownsRow HT0.out.rs (fun k hk e => hne (by simp [Value.ownBlock] at hk; omega)))
  clear h5 hk5
  go_wp2_with fail
  go_end0
  exact ⟨rfl, HT.out, HK.out⟩
end Go.Proofs.YtmhjmoeeahepaaaGreat
