/- Layer 29: words on windows; New, held. -/
import Derived.Test.YtjpmfaodkldobaaK3
import Derived.Test.YtjpmfaodkldobaaBv
import Derived.Lib.AppendStr
import Derived.Deep.RegionLaw
namespace Go.Proofs.Ytjpmfaodkldobaa
open Go.ChangeShapes Go.WideShapes Go.ChangeAt Go.RowKit
set_option linter.unusedVariables false
set_option maxRecDepth 100000
theorem append_str_block {P : Program} {w w' : World} {base : Nat} (t u ty e : TypeId) (i : TypeInfo) (ht : P.underlying t = some (.slice e)) (hu : P.underlying u = some .string) (hi : P.info? e = some i) (hz : i.zero = some (.int .u8 0))
    (hsize : i.size = 1) (hby : i.bytes = 1) (v v' : Value) (n : Nat) (xs : List Value) (hown : w.ownsRow base e 1 v n xs) (s : ByteArray) (h63 : n + s.size ≤ maxLen) (hbytes : n + s.size ≤ 140737488355328)
    (hr : (Builtin.append_ #[t, u] ty #[v, .string s]).run P w = .ok v' w') (h4 : v' = .slice none 0 0 ↔ v = .slice none 0 0 ∧ s.size = 0) : ∀ k, v'.ownBlock = some k → v.ownBlock = some k ∨ w.heap.size ≤ k := by
  have hsmall : n + s.size ≤ 9223372036854775807 := by simp only [maxLen] at h63; omega
  intro k hk
  rcases hown.2 with ⟨rfl, rfl⟩ | ⟨g, cap, cur, rfl, hbg, hg, hnc, hcm, hcs, htake⟩
  · by_cases hm : s.size = 0
    · rw [h4.2 ⟨rfl, hm⟩] at hk
      simp [Value.ownBlock] at hk
    · rw [run_append_nil_string (P := P) w t u ty e i (.int .u8 0) ht hu hi hz s (by omega) (by omega) (by rw [hby]; omega)] at hr
      simp only [Result.ok.injEq] at hr
      rw [← hr.1] at hk
      simp [Value.ownBlock] at hk
      right; omega
  · by_cases hroom : n + s.size ≤ cap
    · rw [Go.Lib.run_append_room_string (P := P) (w := w) t u ty e i ht hu hi hsize g n cap cur hg s hroom (by omega)] at hr
      simp only [Result.ok.injEq] at hr
      rw [← hr.1] at hk
      exact .inl hk
    · have holds : ∀ j u, xs[j]? = some u → w.cell? ((⟨g, 0, none⟩ : Addr).add j) = some u := hown.cells (g := g) rfl
      have hxl : xs.length = n := by simpa using hown.1
      rw [Go.Lib.run_append_grow_string (P := P) (w := w) t u ty e i (.int .u8 0) ht hu hi hz ⟨g, 0, none⟩ n cap xs (by rw [hsize]; omega) holds s (by omega) (by omega) (by rw [hby]; exact growslice_fits (by omega) (by omega))] at hr
      simp only [Result.ok.injEq] at hr
      rw [← hr.1] at hk
      simp [Value.ownBlock] at hk
      right; omega
theorem step_append_str {P : Program} {ops : Array Oper} {o : Oper} {a : Act} {w : World} {K : Act → World → Prop} {Q : Exit → Act → World → Prop} {E : Prop} (hgd : o.guard = none) (s x : Operand) (t u : TypeId)
    (ho : o.op = .call { callee := .builtin .append, args := #[s, x], argTypes := #[t, u] })
    (base : Nat) (e : TypeId) (i : TypeInfo) (ht : P.underlying t = some (.slice e)) (hu : P.underlying u = some .string) (hi : P.info? e = some i) (hz : i.zero = some (.int .u8 0))
    (hsize : i.size = 1) (hby : i.bytes = 1)
    (v : Value) (n : Nat) (xs : List Value) (hs : a.eval s = v) (hown : w.ownsRow base e 1 v n xs) (str : ByteArray) (hx : a.eval x = .string str)
    (h63 : n + str.size ≤ maxLen) (hbytes : n + str.size ≤ 140737488355328) (hbase : base ≤ w.heap.size)
    (h : ∀ v' w', w'.ownsRow base e 1 v' (n + str.size) (xs ++ Go.Lib.strCells str) → w.grownBy w' v.ownBlock → (∀ k, v'.ownBlock = some k → v.ownBlock = some k ∨ w.heap.size ≤ k) → K (a.put o.dst v') w') :
    if Region.wanted o (yielded ops a.tmps) = true then Oper.wp P o a w K Q else E := by
  have hw : Region.wanted o (yielded ops a.tmps) = true := by simp [Region.wanted, hgd]
  rw [if_pos hw]
  obtain ⟨v', w', hr, h2, h3, h4⟩ := Go.Lib.run_append_own_string (P := P) (w := w) base t u o.type e i ht hu hi hz hsize hby v n xs hown str h63 hbytes hbase
  unfold Oper.wp execOp
  simp only [ho, resolve, invoke, builtin, Sem.run_bind, Sem.run_pure, Result.andThen_ok, List.map_toArray, List.map_cons, List.map_nil, hs, hx, hr]
  exact h v' w' h2 h3 (append_str_block t u o.type e i ht hu hi hz hsize hby v v' n xs hown str h63 hbytes hr h4)
/-- The last k of a row. -/
def lastN {α : Type} (k : Nat) (l : List α) : List α := l.drop (l.length - k)
theorem lastN_len {α : Type} (k : Nat) (l : List α) : (lastN k l).length = min l.length k := by unfold lastN; rw [List.length_drop]; omega
theorem lastN_all {α : Type} (k : Nat) (l : List α) (h : l.length ≤ k) : lastN k l = l := by unfold lastN; rw [Nat.sub_eq_zero_of_le h]; rfl
theorem lastN_append {α : Type} (k : Nat) (a b : List α) : lastN k (a ++ b) = lastN k (lastN k a ++ b) := by
  unfold lastN
  rw [List.length_append, List.length_append, List.length_drop, List.drop_append, List.drop_append, List.length_drop, List.drop_drop]
  congr 2 <;> omega
theorem lastN_lastN {α : Type} (k m : Nat) (l : List α) (h : k ≤ m) : lastN k (lastN m l) = lastN k l := by
  unfold lastN
  rw [List.length_drop, List.drop_drop]
  congr 1; omega
theorem lastN_right {α : Type} (k : Nat) (a b : List α) : lastN k (a ++ lastN k b) = lastN k (a ++ b) := by
  by_cases h : b.length ≤ k
  · rw [lastN_all k b h]
  · have e1 : lastN k (a ++ b) = lastN k b := by
      unfold lastN
      rw [List.length_append, List.drop_append, List.drop_eq_nil_of_le (by omega), List.nil_append]
      congr 1; omega
    rw [e1]
    have hl := lastN_len k b
    unfold lastN at hl ⊢
    rw [List.length_append, List.drop_append, hl, List.drop_eq_nil_of_le (by omega), List.nil_append, List.drop_drop]
    congr 1; omega
/-- A window: its block, and the row of its bytes. -/
def Win (w : World) (g B size : Nat) (v : Value) (all : List UInt8) : Prop :=
  w.heap[g]? = some (.cells #[.int .i64 size, v] 119 (0, 0)) ∧ w.ownsRow B 5 1 v all.length (cells8 all) ∧ B ≤ w.heap.size ∧ 1 ≤ size ∧ size ≤ 67108864
def footN (w : World) (g k : Nat) : Prop := k = g ∨ ∃ v, w.cell? ⟨g, 1, none⟩ = some v ∧ v.ownBlock = some k
theorem Win.lt {w : World} {g B size : Nat} {v : Value} {all : List UInt8} (h : Win w g B size v all) : g < w.heap.size := block_lt h.1
theorem Win.facts {w : World} {g B size : Nat} {v : Value} {all : List UInt8} (h : Win w g B size v all) : g < w.heap.size ∧ w.cell? ⟨g, 0, none⟩ = some (.int .i64 size) ∧ w.cell? ⟨g, 1, none⟩ = some v ∧ w.frozen? ⟨g, 1, none⟩ = false :=
  ⟨block_lt h.1, cell_in h.1 0, cell_in h.1 1, free_in h.1 1⟩
theorem Win.slice {w : World} {g B size : Nat} {v : Value} {all : List UInt8} (h : Win w g B size v all) : ∃ a c, v = .slice a all.length c ∧ all.length ≤ c ∧ c ≤ maxLen ∧ (all = [] ∨ ∃ b, a = some ⟨b, 0, none⟩ ∧ b < w.heap.size ∧ ∀ j, j < all.length → w.cell? ⟨b, j, none⟩ = some (.int .u8 ((all.getD j 0).toNat : Int))) := by
  rcases h.2.1.2 with ⟨hv, h0⟩ | ⟨b, cap, cur, hv, hB, hb, hn, hm, -, -⟩
  · exact ⟨none, 0, by rw [hv, h0], by omega, by unfold maxLen; omega, .inl (List.length_eq_zero_iff.1 h0)⟩
  · subst hv
    refine ⟨_, cap, rfl, hn, hm, .inr ⟨b, rfl, block_lt hb, fun j hj => ?_⟩⟩
    rw [h.2.1.cellAt j (by omega)]
    unfold cells8
    simp [List.getD_eq_getElem?_getD, hj]
theorem wnNew (n : Int) (w : World) (h : 1 ≤ n ∧ n ≤ 67108864) : Calls Try.prog 30 #[.int .i64 n] w fun e w' => e = .returned (.tuple #[.pointer (some ⟨w.heap.size, 0, none⟩), .int .i64 0]) ∧ Win w' w.heap.size w.heap.size n.toNat (.slice none 0 0) [] ∧ Below w.heap.size w w' ∧ w'.heap.size = w.heap.size + 1 := by
  obtain ⟨n, rfl⟩ : ∃ m : Nat, n = m := ⟨n.toNat, by omega⟩
  obtain ⟨h1, h2⟩ := h
  rw [Int.toNat_natCast]
  go_enter Try.func30, Try.ntmps30
  go_wp2
  go_ret2
  exact ⟨rfl, ⟨heap_alloc_new _ _, World.ownsRow_nil _ _ _ _, by simp, by omega, by omega⟩, by go_grown, by simp⟩
theorem wnNewBad (n : Int) (w : World) (h : n < 1 ∨ 67108864 < n) : Calls Try.prog 30 #[.int .i64 n] w fun e w' => e = .returned (.tuple #[.pointer none, .int .i64 1]) ∧ w' = w := by
  by_cases h1 : n < 1
  · clear h
    go_enter Try.func30, Try.ntmps30
    go_wp2
    go_ret2
    exact ⟨rfl, rfl⟩
  · have h2 : 67108864 < n := by omega
    clear h
    go_enter Try.func30, Try.ntmps30
    go_wp2
    go_ret2
    exact ⟨rfl, rfl⟩
theorem wnHave (w : World) (g B size : Nat) (v : Value) (all : List UInt8) (h : Win w g B size v all) : Calls Try.prog 32 #[.pointer (some ⟨g, 0, none⟩)] w fun e w' => e = .returned (.int .i64 ((lastN size all).length : Nat)) ∧ ∃ k, w' = w.drewN k := by
  obtain ⟨hgl, c0, c1, -⟩ := h.facts
  obtain ⟨a, c, rfl, hc, hm, -⟩ := h.slice
  have HE := Lib.hid (show min (all.length : Int) size = ((lastN size all).length : Nat) by rw [lastN_len]; omega)
  clear h
  go_enter Try.func32, Try.ntmps32
  go_wp2_with fail
  go_region
  all_goals go_wp2_with fail
  all_goals go_ret
  all_goals exact ⟨ret_i (by rw [← HE.out]; omega), 1, rfl⟩
theorem Win.drewN {w : World} {g B size : Nat} {v : Value} {all : List UInt8} (h : Win w g B size v all) (n : Nat) : Win (w.drewN n) g B size v all := h
theorem wnHeldBig (w : World) (g B size b c : Nat) (all : List UInt8) (h : Win w g B size (.slice (some ⟨b, 0, none⟩) all.length c) all) (hb : size < all.length) : Calls Try.prog 67 #[.pointer (some ⟨g, 0, none⟩)] w fun e w' => e = .returned (.slice (some ⟨b, all.length - size, none⟩) size size) ∧ ∃ k, w' = w.drewN k := by
  obtain ⟨hgl, c0, c1, -⟩ := h.facts
  obtain ⟨a, c', hv, hc, hm, -⟩ := h.slice
  simp only [Value.slice.injEq, true_and] at hv
  obtain ⟨rfl, rfl⟩ := hv
  have h1 := h.2.2.2.1
  have h2 := h.2.2.2.2
  unfold maxLen at hm
  have HB := Lib.hid (show all.length - (all.length - size) = size by omega)
  clear h
  go_enter Try.func67, Try.ntmps67
  go_wp2_with fail
  go_region
  all_goals go_wp2_with fail
  all_goals go_ret
  all_goals exact ⟨by show Ending.returned (.slice _ (all.length - (all.length - size)) (all.length - (all.length - size))) = _; rw [HB.out], 1, rfl⟩
theorem wnHeldSmall (w : World) (g B size : Nat) (a : Option Addr) (c : Nat) (all : List UInt8) (h : Win w g B size (.slice a all.length c) all) (hb : all.length ≤ size) : Calls Try.prog 67 #[.pointer (some ⟨g, 0, none⟩)] w fun e w' => e = .returned (.slice a all.length all.length) ∧ ∃ k, w' = w.drewN k := by
  obtain ⟨hgl, c0, c1, -⟩ := h.facts
  obtain ⟨a', c', hv, hc, hm, hnil⟩ := h.slice
  simp only [Value.slice.injEq, true_and] at hv
  obtain ⟨rfl, rfl⟩ := hv
  have h1 := h.2.2.2.1
  have h2 := h.2.2.2.2
  unfold maxLen at hm
  clear h hnil
  go_enter Try.func67, Try.ntmps67
  go_wp2_with fail
  go_region
  all_goals go_wp2_with fail
  all_goals go_ret
  all_goals exact ⟨rfl, 1, rfl⟩
theorem keeps_setRow {w : World} {g : Nat} (cs : Array Value) : Keeps (fun k => k = g) w (w.setRow g cs) :=
  ⟨rfl, rfl, rfl, by simp [World.setRow], fun k hk hn => by
    show (w.heap.modify g _)[k]? = _
    rw [Array.getElem?_modify, if_neg (fun e => hn e.symm)]⟩
theorem step_copy_keep {P : Program} {ops : Array Oper} {o : Oper} {a : Act} {w : World} {K : Act → World → Prop} {Q : Exit → Act → World → Prop} {E : Prop} (hgd : o.guard = none) (d s : Operand) (dT sT : TypeId)
    (ho : o.op = .call { callee := .builtin .copy, args := #[d, s], argTypes := #[dT, sT] }) (elem : TypeId) (hu : P.underlying dT = some (.slice elem)) (hsz : (P.info? elem).map (·.size) = some 1)
    (g off : Nat) (ad : Addr) (dLen dCap sLen sCap : Nat) (hd : a.eval d = .slice (some ⟨g, off, none⟩) dLen dCap) (hs : a.eval s = .slice (some ad) sLen sCap)
    (cur : List Value) (t : TypeId) (hg : w.heap[g]? = some (.cells cur.toArray t (0, 0))) (cs : List Value) (hn : cs.length = Nat.min sLen dLen)
    (hsrc : ∀ j v, cs[j]? = some v → w.cell? (ad.add j) = some v)
    (hfit : off + cs.length ≤ cur.length) (h1 : ∀ v ∈ cs, v.oneCell' = true)
    (h : ∀ w', Hid (w'.heap[g]? = some (.cells (cur.take off ++ cs ++ cur.drop (off + cs.length)).toArray t (0, 0))) → Keeps (fun k => k = g) w w' → w'.heap.size = w.heap.size → K (a.put o.dst (goInt cs.length)) w') :
    if Region.wanted o (yielded ops a.tmps) = true then Oper.wp P o a w K Q else E := by
  have hw : Region.wanted o (yielded ops a.tmps) = true := by simp [Region.wanted, hgd]
  rw [if_pos hw]
  have hrun := run_copy_row (P := P) w dT sT o.type elem g off dLen dCap ad sLen sCap cur.toArray t cs hu hsz hg hn hsrc (by simpa using hfit) h1
  unfold Oper.wp
  simp only [execOp, ho, resolve, invoke, builtin, hd, hs, Sem.run_bind, Sem.run_pure, Result.andThen_ok, List.map_toArray, List.map_cons, List.map_nil, hrun]
  exact h _ (show _ = _ by simpa using setRow_heap w g _ _ t _ hg) (keeps_setRow _) (by simp [World.setRow])
end Go.Proofs.Ytjpmfaodkldobaa
