/- Layer 11: (*Table).add of a code that the first table has room for. -/
import Derived.Test.YtbdhfmoididkgaaAL3
import Derived.Test.YtbdhfmoididkgaaAL4
import Derived.StillTailTactics
namespace Go.Proofs.Ytbdhfmoididkgaa
open Go.ChangeShapes Go.WideShapes Go.ChangeAt Go.RowKit Go.Lib
set_option linter.unusedVariables false
set_option linter.unusedSimpArgs false
set_option maxRecDepth 100000
open Two
structure IsT2 (w : World) (B gt gs R root L : Nat) (vl : Value) (short long : List Ent) : Prop where
  tb : w.heap[gt]? = some (.cells #[.slice (some ⟨gs, 0, none⟩) R R, .int .i64 root, vl, .int .i64 L] 51 (0, 0))
  rs : OwnT B w (.slice (some ⟨gs, 0, none⟩) R R) short
  rl : OwnT B w vl long
  sl : vl.ownBlock ≠ some gs
theorem IsT2.ne {w : World} {B gt gs R root L : Nat} {vl : Value} {short long : List Ent} (h : IsT2 w B gt gs R root L vl short long) : gt ≠ gs := by
  intro e
  subst e
  exact own_ne h.rs h.tb (by decide) rfl
theorem IsT2.len {w : World} {B gt gs R root L : Nat} {vl : Value} {short long : List Ent} (h : IsT2 w B gt gs R root L vl short long) : short.length = R := by
  rcases h.rs.2 with ⟨h0, -⟩ | ⟨g', cap', cur', h0, -⟩ <;> simp at h0; omega
theorem IsT2.kept {w w' : World} {B gt gs R root L : Nat} {vl : Value} {short long : List Ent} (h : IsT2 w B gt gs R root L vl short long) (hb : Below w.heap.size w w') : IsT2 w' B gt gs R root L vl short long :=
  ⟨(hb.block _ (block_lt h.tb)).trans h.tb, OwnS.kept h.rs hb, OwnS.kept h.rl hb, h.sl⟩
theorem step_make {P : Program} {α : Type} {f : α → List Value} {E ST TN sz bytes B : Nat} {z : Value} (hE : (P.info? E).map (fun i => (i.zero, i.size, i.bytes)) = some (some z, sz, bytes)) (hby : bytes ≤ 64) (hST : P.underlying ST = some (.slice E)) (kq kn : IntKind) (hTN : P.underlying TN = some (.int kn)) (x0 : α) (hx0 : z.cells = (f x0).toArray) (hf : Flat f sz) (hsz : 0 < sz)
    {w : World} {ops : Array Oper} {o : Oper} {a : Act} {K : Act → World → Prop} {Q : Exit → Act → World → Prop} {F : Prop} (hgd : o.guard = none) (s x : Operand) (ho : o.op = .call { callee := .builtin .append, args := #[s, x], argTypes := #[ST, TN] })
    (v : Value) (l : List α) (hs : a.eval s = v) (hown : OwnS f E sz B w v l) (m : Nat) (hx : a.eval x = .int kq m) (hm : 0 < m) (hn : l.length + m ≤ 1099511627776) (hB : B ≤ w.heap.size)
    (h : ∀ k cap w', OwnS f E sz B w' (.slice (some ⟨k, 0, none⟩) (l.length + m) cap) (l ++ List.replicate m x0) → w.grownBy w' v.ownBlock → (v.ownBlock = some k ∨ k = w.heap.size) → K (a.put o.dst (.slice (some ⟨k, 0, none⟩) (l.length + m) cap)) w') :
    if Region.wanted o (yielded ops a.tmps) = true then Oper.wp P o a w K Q else F := by
  have hw : Region.wanted o (yielded ops a.tmps) = true := by simp [Region.wanted, hgd]
  rw [if_pos hw]
  obtain ⟨i0, hi, h1, h2, h3⟩ := info_get hE
  have hzs : z.cells.size = sz := by rw [hx0]; simp [(hf x0).1]
  obtain ⟨k, cap, w', hr, h4, h5, h6⟩ := run_append_make (P := P) w B ST TN o.type E i0 z sz bytes kq kn hST hTN hi h1 h2 h3 hzs hsz v l.length (l.flatMap f) hown m _ (zeros_flat hf hsz x0 z hx0 m) (flat_one hf _) (by unfold maxLen; omega)
    (by
      calc (l.length + m) * bytes ≤ 1099511627776 * 64 := Nat.mul_le_mul hn hby
        _ ≤ _ := by decide) hB hm
  refine wp_append_run w s x ST TN ho _ _ hs hx _ _ hr (h k cap w' ?_ h5 h6)
  unfold OwnS
  rw [List.flatMap_append, List.length_append, List.length_replicate]
  exact h4
set_option maxHeartbeats 1600000 in
theorem tAddShort (w : World) (B gt gs R root L T n s : Nat) (vl : Value) (short long : List Ent) (h : IsT2 w B gt gs R root L vl short long) (hR : R ≤ 32768) (hn : n ≤ root) (hr : root ≤ 15) (hT : T < 2 ^ n) :
    Calls Try.prog 17 #[.pointer (some ⟨gt, 0, none⟩), .int .i64 T, .agg #[.int .i32 s, .int .i16 n, .bool false, .int .i32 0]] w fun e w' => e = .returned (.tuple #[]) ∧ IsT2 w' B gt gs R root L vl (fillE short T (2 ^ n) ((s : Int), (n : Int), false, 0)) long ∧ Keeps (fun j => j = gs) w w' := by
  have CF := Lib.hid (fun W (hk : Below w.heap.size w W) => tFill W B gs 0 0 R R T n R R ((s : Int), (n : Int), false, 0) short (h.kept hk).rs rfl (by rw [h.len]; omega) hR (by omega) hT)
  have HLR := Lib.hid h.len
  have HT0 := Lib.hid h
  clear h
  have hgt : gt < w.heap.size := block_lt HT0.out.tb
  obtain ⟨gb, hgb⟩ : ∃ gb, w.heap.size = gb := ⟨_, rfl⟩
  obtain ⟨W, hWW⟩ : ∃ W, w.alloc (.cells #[.int .i32 s, .int .i16 n, .bool false, .int .i32 0] 56) = W := ⟨_, rfl⟩
  have hbox : W.heap[gb]? = some (.cells #[.int .i32 s, .int .i16 n, .bool false, .int .i32 0] 56 (0, 0)) := by rw [← hWW, ← hgb]; exact heap_alloc_new _ _
  have htab := heap_old HT0.out.tb (.cells #[.int .i32 s, .int .i16 n, .bool false, .int .i32 0] 56)
  have t1' := cell_lit htab 1 _ rfl
  rw [hWW] at htab
  have HBL := Lib.hid (show Below w.heap.size w W by rw [← hWW]; exact (Below.refl _ _).alloc (Nat.le_refl _) _)
  have HK1 := Lib.hid (show Keeps (fun j => j = gs) w W by rw [← hWW]; exact (Keeps.refl _ w).alloc _)
  have b0 : W.cell? ⟨gb, 0, none⟩ = some (.int .i32 s) := cell_lit hbox 0 _ rfl
  have b1 : W.cell? ⟨gb, 1, none⟩ = some (.int .i16 n) := cell_lit hbox 1 _ rfl
  have b2 : W.cell? ⟨gb, 2, none⟩ = some (.bool false) := cell_lit hbox 2 _ rfl
  have b3 : W.cell? ⟨gb, 3, none⟩ = some (.int .i32 0) := cell_lit hbox 3 _ rfl
  have t0 : W.cell? ⟨gt, 0, none⟩ = some (.slice (some ⟨gs, 0, none⟩) R R) := cell_lit htab 0 _ rfl
  have t1 : W.cell? ⟨gt, 1, none⟩ = some (.int .i64 root) := cell_lit htab 1 _ rfl
  have CF' := Lib.hid (show Calls Try.prog 33 #[.slice (some ⟨gs, 0, none⟩) R R, .int .i64 T, .int .i64 n, .agg #[.int .i32 s, .int .i16 n, .bool false, .int .i32 0]] W.drew _ from CF.out W.drew HBL.out.drew)
  clear hbox htab CF
  go_enter Try.func17, Try.ntmps17
  go_wp2_with fail
  clear t1'
  try rw [hWW]
  try rw [hgb]
  go_still_tail 8, (by kernel_rfl)
  change wpList _ _ _ _ _ W.drew
  go_wp2_with fail
  refine CF'.out.mono ?_; rintro e w5 ⟨rfl, h5, hk5⟩
  have HT := Lib.hid (show IsT2 w5 B gt gs R root L vl (fillE short T (2 ^ n) ((s : Int), (n : Int), false, 0)) long by
    have hn := HT0.out.ne
    have hkw := HK1.out.drew.trans hk5
    refine ⟨hkw.heap HT0.out.tb hn, ?_, ?_, HT0.out.sl⟩
    · rw [← segF_fill, HLR.out]; exact h5
    · exact hkw.ownsRow HT0.out.rl (fun k hk e => HT0.out.sl (by rw [hk, e])))
  have HK := Lib.hid (HK1.out.drew.trans hk5)
  go_wp2_with fail
  refine bodyPost_ret (results_none rfl _ _ _) rfl ?_
  exact ⟨rfl, HT.out, HK.out⟩
end Go.Proofs.Ytbdhfmoididkgaa
