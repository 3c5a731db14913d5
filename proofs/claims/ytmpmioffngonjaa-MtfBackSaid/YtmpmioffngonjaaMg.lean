/- Layer 47: the contract of front. -/
import Derived.Test.YtmpmioffngonjaaMf
namespace Go.Proofs.Ytmpmioffngonjaa
open Go.ChangeShapes Go.WideShapes Go.ChangeAt Go.RowKit
set_option linter.unusedVariables false
set_option maxRecDepth 100000
open MtfMath
theorem keeps_setRow {w : World} {g : Nat} (cs : Array Value) : Keeps (fun k => k = g) w (w.setRow g cs) :=
  ⟨rfl, rfl, rfl, by simp [World.setRow], fun k hk hn => by
    show (w.heap.modify g _)[k]? = _
    rw [Array.getElem?_modify, if_neg (fun e => hn e.symm)]⟩
/-- copy into a block, as a step of a region that draws; what is told is what the block holds, and that all others stay. -/
theorem step_copy_keep {P : Program} {ops : Array Oper} {o : Oper} {a : Act} {w : World} {K : Act → World → Prop} {Q : Exit → Act → World → Prop} {E : Prop} (hgd : o.guard = none) (d s : Operand) (dT sT : TypeId)
    (ho : o.op = .call { callee := .builtin .copy, args := #[d, s], argTypes := #[dT, sT] }) (elem : TypeId) (hu : P.underlying dT = some (.slice elem)) (hsz : (P.info? elem).map (·.size) = some 1)
    (g off : Nat) (ad : Addr) (dLen dCap sLen sCap : Nat) (hd : a.eval d = .slice (some ⟨g, off, none⟩) dLen dCap) (hs : a.eval s = .slice (some ad) sLen sCap)
    (cur : List Value) (t : TypeId) (hg : w.heap[g]? = some (.cells cur.toArray t (0, 0))) (cs : List Value) (hn : cs.length = Nat.min sLen dLen)
    (hsrc : ∀ j v, cs[j]? = some v → w.cell? (ad.add j) = some v)
    (hfit : off + cs.length ≤ cur.length) (h1 : ∀ v ∈ cs, v.oneCell' = true)
    (h : ∀ w', Hid (w'.heap[g]? = some (.cells (cur.take off ++ cs ++ cur.drop (off + cs.length)).toArray t (0, 0))) → Keeps (fun k => k = g) w w' → w'.heap.size = w.heap.size → K (a.put o.dst (goInt cs.length)) w') :
    if Region.wanted o (yielded ops a.tmps) = true then Oper.wp P o a w K Q else E := by
  have hw : Region.wanted o (yielded ops a.tmps) = true := by simp [Region.wanted, hgd]
  rw [if_pos hw]
  have hrun := run_copy_row (P := P) w dT sT o.type elem g off dLen dCap ad sLen sCap cur.toArray t cs hu hsz hg hn hsrc (by simpa using hfit) h1
  unfold Oper.wp
  simp only [execOp, ho, resolve, invoke, builtin, hd, hs, Sem.run_bind, Sem.run_pure, Result.andThen_ok, List.map_toArray, List.map_cons, List.map_nil, hrun]
  exact h _ (show _ = _ by simpa using setRow_heap w g _ _ t _ hg) (keeps_setRow _) (by simp [World.setRow])
theorem bc_take (r : List UInt8) (k : Nat) : (byteCells r).take k = byteCells (r.take k) := by unfold byteCells; rw [List.map_take]
theorem bc_drop (r : List UInt8) (k : Nat) : (byteCells r).drop k = byteCells (r.drop k) := by unfold byteCells; rw [List.map_drop]
theorem bc_append (r s : List UInt8) : byteCells r ++ byteCells s = byteCells (r ++ s) := by unfold byteCells; rw [List.map_append]
theorem bc_one (r : List UInt8) : ∀ u ∈ byteCells r, u.oneCell' = true := by
  intro u hu
  unfold byteCells at hu
  obtain ⟨z, -, rfl⟩ := List.mem_map.1 hu
  rfl
theorem moved_set (r : List UInt8) (k : Nat) (hk : k < r.length) : (r.take 1 ++ r.take k ++ r.drop (1 + k)).set 0 (r.getD k 0) = moved r k := by
  cases r with
  | nil => simp at hk
  | cons c r =>
    unfold moved
    rw [show k + 1 = 1 + k by omega]
    rfl
theorem size5 (w : World) : (sizeOf 5).run Try.prog w = .ok 1 w := by kernel_rfl
theorem sl_lh (K g : Nat) (hK : K < 256) (w : World) : (Instr.sliceAt 108 (.pointer (some ⟨g, 0, none⟩)) (some (.int .i64 1)) (some (.int .i64 ((K : Int) + 1))) none).run Try.prog w = .ok (.slice (some ⟨g, 1, none⟩) K 255) w := by
  have eA : Try.prog.arrayLen 108 = 256 := by kernel_rfl
  have eE : Try.prog.elem 108 = 5 := by kernel_rfl
  have ht : Try.prog.underlying 108 = some (.array (Try.prog.arrayLen 108) (Try.prog.elem 108)) := by kernel_rfl
  rw [run_sliceAt_array_lh (P := Try.prog) w 108 ⟨g, 0, none⟩ ht .i64 .i64 1 ((K : Int) + 1) (by omega) (by omega) (by rw [eA]; omega), eE, size5, eA]
  have e3 : ((K : Int) + 1).toNat = K + 1 := by omega
  simp only [Result.andThen, slicedAt, e3]
  simp [Addr.add]
theorem sl_h (K g : Nat) (hK : K < 256) (w : World) : (Instr.sliceAt 108 (.pointer (some ⟨g, 0, none⟩)) none (some (.int .i64 (K : Int))) none).run Try.prog w = .ok (.slice (some ⟨g, 0, none⟩) K 256) w := by
  have eA : Try.prog.arrayLen 108 = 256 := by kernel_rfl
  have eE : Try.prog.elem 108 = 5 := by kernel_rfl
  have ht : Try.prog.underlying 108 = some (.array (Try.prog.arrayLen 108) (Try.prog.elem 108)) := by kernel_rfl
  rw [run_sliceAt_array_h (P := Try.prog) w 108 ⟨g, 0, none⟩ ht .i64 (K : Int) (by omega) (by rw [eA]; omega), eE, size5, eA]
  have e3 : ((K : Int)).toNat = K := by omega
  simp only [Result.andThen, slicedAt, e3]
  simp [Addr.add]
set_option maxHeartbeats 1600000 in
theorem mFront (w : World) (g K : Nat) (r : List UInt8) (hr : RowAt w g r) (hl : r.length = 256) (hK : K < 256) : Calls Try.prog 70 #[.pointer (some ⟨g, 0, none⟩), .int .i64 K] w fun e w' =>
    e = .returned (.int .u8 ((r.getD K 0).toNat : Int)) ∧ RowAt w' g (moved r K) ∧ Keeps (fun k => k = g) w w' ∧ w'.heap.size = w.heap.size := by
  have c1 := hr.cell K (by omega)
  obtain ⟨B, hB⟩ : ∃ B, r.getD K 0 = B := ⟨_, rfl⟩
  rw [hB] at c1
  rw [hB]
  have HB := Lib.hid hB
  have HR := Lib.hid hr
  have HL := Lib.hid hl
  have hMS := moved_set r K (by omega)
  rw [hB] at hMS
  have HMS := Lib.hid hMS
  clear hr hB hl hMS
  go_enter Try.func70, Try.ntmps70
  go_wp2
  have q1 : IntKind.i64.wrap ((K : Int) + 1) = (K : Int) + 1 := IntWalk.i64_in _ (by omega)
  have q2 : (0 : Int) ≤ (K : Int) + 1 := by omega
  have q3 : ((K : Int) + 1).toNat = K + 1 := by omega
  have q4 : (1 : Int) ≤ (K : Int) + 1 := by omega
  have q5 : (K : Int) + 1 ≤ 256 := by omega
  have q6 : (K : Int) ≤ 256 := by omega
  have s1 := sl_lh K g hK
  have s2 := sl_h K g hK
  have hn' : Hid ((byteCells (r.take K)).length = Nat.min K K) := by show _ = _; rw [byteCells_len, List.length_take, HL.out]; simp; omega
  have hf' : Hid (1 + (byteCells (r.take K)).length ≤ (byteCells r).length) := by show _ ≤ _; rw [byteCells_len, byteCells_len, List.length_take, HL.out]; omega
  have hs' : Hid (∀ j v, (byteCells (r.take K))[j]? = some v → w.cell? ((⟨g, 0, none⟩ : Addr).add j) = some v) := by
    intro j v hj
    have hlt : j < K := by have := (List.getElem?_eq_some_iff.1 hj).1; rw [byteCells_len, List.length_take] at this; omega
    have e2 : (⟨g, 0, none⟩ : Addr).add j = ⟨g, j, none⟩ := by unfold Addr.add; split <;> simp_all
    rw [e2, HR.out.cell j (by rw [HL.out]; omega), ← hj]
    simp [byteCells, hlt, List.getD_eq_getElem?_getD, HL.out, show j < 256 by omega]
  clear q2 q3 q4 q5 q6
  have h5 : Hid ((Try.prog.info? 5).map (·.size) = some 1) := by show _ = _; kernel_rfl
  have hgd : Hid (w.drew.heap[g]? = some (.cells (byteCells r).toArray 108 (0, 0))) := HR.out
  have hs2 : Hid (∀ j v, (byteCells (r.take K))[j]? = some v → w.drew.cell? ((⟨g, 0, none⟩ : Addr).add j) = some v) := hs'.out
  obtain ⟨CR, hCR⟩ : ∃ CR, byteCells r = CR := ⟨_, rfl⟩
  obtain ⟨CT, hCT⟩ : ∃ CT, byteCells (r.take K) = CT := ⟨_, rfl⟩
  have hone : Hid (∀ v ∈ CT, v.oneCell' = true) := by rw [← hCT]; exact bc_one _
  rw [hCR] at hgd hf'
  rw [hCT] at hs2 hn' hf'
  have HCR := Lib.hid hCR
  have HCT := Lib.hid hCT
  clear hs' hCR hCT
  go_region_law (refine step_copy_keep (P := Try.prog) rfl (.tmp 15) (.tmp 19) 82 82 rfl 5 Try.underlying82 h5.out g 1 ⟨g, 0, none⟩ K 255 K 256 ?hd ?hs CR 108 hgd.out CT hn'.out hs2.out hf'.out hone.out ?_; (case hd => go_simp); (case hs => go_simp); intro w4 hg4 hk4 hz4)
  all_goals
    have hr4 : RowAt w4 g (r.take 1 ++ r.take K ++ r.drop (1 + K)) := by
      have h := hg4.out
      have hcl : CT.length = K := by rw [hn'.out]; simp
      rw [hcl, ← HCR.out, ← HCT.out, bc_take, bc_drop, bc_append, bc_append] at h
      exact h
    have hl4 : (r.take 1 ++ r.take K ++ r.drop (1 + K)).length = 256 := by
      have := HL.out
      simp; omega
    have c0 := hr4.cell 0 (by omega)
    have f0 := hr4.free 0
    obtain ⟨Z, hZ⟩ : ∃ Z, (r.take 1 ++ r.take K ++ r.drop (1 + K)).getD 0 0 = Z := ⟨_, rfl⟩
    rw [hZ] at c0
    have HR4 := Lib.hid hr4
    have HZ4 := Lib.hid hz4
    have HK4 := Lib.hid hk4
    clear hg4 hr4 hl4 hZ hz4 hk4 s1 s2
    go_wp2
    go_ret
    refine ⟨rfl, ?_, ?_, ?_⟩
    · rw [← HMS.out]; exact HR4.out.set 0 B _ rfl
    · have k0 : Keeps (fun k => k = g) w w4 := ⟨HK4.out.os, HK4.out.tape, HK4.out.output, HK4.out.size, HK4.out.block⟩
      exact k0.setCell (p := ⟨g, 0, none⟩) (.inr rfl) _
    · have h := HZ4.out
      simpa using h
end Go.Proofs.Ytmpmioffngonjaa
