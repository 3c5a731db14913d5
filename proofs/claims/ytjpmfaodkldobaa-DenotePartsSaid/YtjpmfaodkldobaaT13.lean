/- Layer 18: the chapter's example, and others. -/
import Derived.Test.YtjpmfaodkldobaaT12
import Derived.Lib.SmallJoins
namespace Go.Proofs.Ytjpmfaodkldobaa
open Go.ChangeShapes Go.WideShapes Go.ChangeAt Go.RowKit
set_option linter.unusedVariables false
set_option linter.unusedSimpArgs false
set_option maxRecDepth 100000
def l18 : List Tk := [⟨0, 97, 0, 0, 0⟩, ⟨1, 0, 3, 1, 0⟩]
theorem l18_at (w : World) (T : TypeId) (g : Nat) (h : w.heap[g]? = some (.cells #[.int .i64 0, .int .i64 97, .int .i64 0, .int .i64 0, .int .i64 0, .int .i64 1, .int .i64 0, .int .i64 3, .int .i64 1, .int .i64 0] T (0, 0))) : IsTk w (some ⟨g, 0, none⟩) l18 := by
  refine .inr ⟨_, rfl, fun i t ht => ?_⟩
  rcases i with _ | _ | i
  · simp [l18] at ht
    subst ht
    refine ⟨?_, ?_, ?_, ?_, ?_⟩ <;> (simp [Addr.add]; rw [cell_in h]; rfl)
  · simp [l18] at ht
    subst ht
    refine ⟨?_, ?_, ?_, ?_, ?_⟩ <;> (simp [Addr.add]; rw [cell_in h]; rfl)
  · simp [l18] at ht
theorem xy_at (w : World) (T : TypeId) (fr : Nat × Nat) (g : Nat) (h : w.heap[g]? = some (.cells #[.int .u8 120, .int .u8 121] T fr)) : IsY w (some ⟨g, 0, none⟩) [120, 121] := by
  refine .inr ⟨_, rfl, fun i hi => ?_⟩
  rcases i with _ | _ | i
  · simp [Addr.add]; rw [cell_in h]; rfl
  · simp [Addr.add]; rw [cell_in h]; rfl
  · simp at hi; omega
theorem ap18a : appS 9 l18 ⟨1, 2, 3, 4⟩ [] = ([97, 97, 97, 97], ⟨1, 1, 2, 3⟩, 0) := by rfl
theorem ap18b : appS 9 (l18.drop 1) ⟨1, 2, 3, 4⟩ [] = ([], z4, 10) := by rfl
theorem va18a : validS 9 l18 ⟨1, 2, 3, 4⟩ [] [97, 97, 97, 97] = true := by rfl
theorem va18b : validS 9 l18 ⟨1, 2, 3, 4⟩ [] [97, 97, 97] = false := by rfl
theorem cp18a : copyL (2 : Int).toNat (3 : Int).toNat [120, 121] = [120, 121, 120, 121, 120] := by rfl
structure St18 (g1 g3 B2 : Nat) (v2 : Value) (w0 W : World) : Prop where
  tk : IsTk W (some ⟨g1, 0, none⟩) l18
  bx : W.heap[g3]? = some (.cells #[.int .i64 1, .int .i64 1, .int .i64 2, .int .i64 3] 41 (0, 0))
  ow : OwnY B2 W v2 [97, 97, 97, 97]
  bl : Below w0.heap.size w0 W
theorem St18.kept {g1 g3 B2 : Nat} {v2 : Value} {w0 W W' : World} (h : St18 g1 g3 B2 v2 w0 W) (hb : Below W.heap.size W W') : St18 g1 g3 B2 v2 w0 W' :=
  ⟨h.tk.kept hb, (hb.block _ (block_lt h.bx)).trans h.bx, h.ow.kept hb, h.bl.trans (hb.mono h.bl.size)⟩
theorem St18.alloc {g1 g3 B2 : Nat} {v2 : Value} {w0 W : World} (h : St18 g1 g3 B2 v2 w0 W) (o : Obj) : St18 g1 g3 B2 v2 w0 (W.alloc o) := h.kept ((Below.refl _ _).alloc (Nat.le_refl _) o)
set_option maxHeartbeats 3200000 in
theorem awake18 (w : World) : Calls Try.prog 20 #[] w fun e w' => e = .returned (.bool true) ∧ Below w.heap.size w w' := by
  have A1 := Lib.hid (fun W g c h => show Calls Try.prog 23 #[.slice none 0 0, .agg #[.int .i64 1, .int .i64 2, .int .i64 3, .int .i64 4], .slice (some ⟨g, 0, none⟩) 2 c, .int .i64 9] W fun e w' => ∃ v, e = .returned (.tuple #[v, .agg #[.int .i64 1, .int .i64 1, .int .i64 2, .int .i64 3], .int .i64 0]) ∧ OwnY W.heap.size w' v [97, 97, 97, 97] ∧ Below W.heap.size W w' from pApply none (some ⟨g, 0, none⟩) 0 c [] ⟨1, 2, 3, 4⟩ l18 9 W (.inl rfl) (fun _ => ⟨rfl, rfl⟩) h (by decide) (by decide) _ _ _ ap18a)
  have A2 := Lib.hid (fun W g c (h : IsTk W (some ⟨g, 0, none⟩) l18) => show Calls Try.prog 23 #[.slice none 0 0, .agg #[.int .i64 1, .int .i64 2, .int .i64 3, .int .i64 4], .slice (some ⟨g, 5, none⟩) 1 c, .int .i64 9] W fun e w' => ∃ v, e = .returned (.tuple #[v, .agg #[.int .i64 0, .int .i64 0, .int .i64 0, .int .i64 0], .int .i64 10]) ∧ OwnY W.heap.size w' v [] ∧ Below W.heap.size W w' from pApply none (some ⟨g, 5, none⟩) 0 c [] ⟨1, 2, 3, 4⟩ (l18.drop 1) 9 W (.inl rfl) (fun _ => ⟨rfl, rfl⟩) (h.drop 1) (by decide) (by decide) _ _ _ ap18b)
  have V1 := Lib.hid (fun W g c h => show Calls Try.prog 25 #[.string (sOf []), .agg #[.int .i64 1, .int .i64 2, .int .i64 3, .int .i64 4], .slice (some ⟨g, 0, none⟩) 2 c, .int .i64 9, .string (sOf [97, 97, 97, 97])] W fun e w' => e = .returned (.bool true) ∧ Below W.heap.size W w' from pValid (some ⟨g, 0, none⟩) c [] [97, 97, 97, 97] ⟨1, 2, 3, 4⟩ l18 9 W h (by decide) (by decide) (by decide) _ va18a)
  have V2 := Lib.hid (fun W g c h => show Calls Try.prog 25 #[.string (sOf []), .agg #[.int .i64 1, .int .i64 2, .int .i64 3, .int .i64 4], .slice (some ⟨g, 0, none⟩) 2 c, .int .i64 9, .string (sOf [97, 97, 97])] W fun e w' => e = .returned (.bool false) ∧ Below W.heap.size W w' from pValid (some ⟨g, 0, none⟩) c [] [97, 97, 97] ⟨1, 2, 3, 4⟩ l18 9 W h (by decide) (by decide) (by decide) _ va18b)
  have C1 := Lib.hid (fun W g c h => show Calls Try.prog 21 #[.slice (some ⟨g, 0, none⟩) 2 c, .int .i64 3, .int .i64 2, .int .i64 2] W fun e w' => ∃ v, e = .returned (.tuple #[v, .int .i64 0]) ∧ OwnY W.heap.size w' v [120, 121, 120, 121, 120] ∧ Below W.heap.size W w' from pCopy (some ⟨g, 0, none⟩) c [120, 121] W 3 2 2 rfl h (by decide))
  have C2 := Lib.hid (fun W g c => show Calls Try.prog 21 #[.slice (some ⟨g, 0, none⟩) 2 c, .int .i64 3, .int .i64 2, .int .i64 1] W fun e w' => e = .returned (.tuple #[.slice none 0 0, .int .i64 10]) ∧ w' = W from pCopyBad (some ⟨g, 0, none⟩) c [120, 121] W 3 2 1 10 rfl (by decide))
  have C3 := Lib.hid (fun W g c => show Calls Try.prog 21 #[.slice (some ⟨g, 0, none⟩) 2 c, .int .i64 3, .int .i64 2, .int .i64 0] W fun e w' => e = .returned (.tuple #[.slice none 0 0, .int .i64 1]) ∧ w' = W from pCopyBad (some ⟨g, 0, none⟩) c [120, 121] W 3 2 0 1 rfl (by decide))
  go_enter Try.func20, Try.ntmps20
  go_wp2_with fail
  have e1 := heap_alloc_new w (.cells #[.int .i64 0, .int .i64 97, .int .i64 0, .int .i64 0, .int .i64 0, .int .i64 1, .int .i64 0, .int .i64 3, .int .i64 1, .int .i64 0] 53)
  have HT1 := Lib.hid (l18_at _ _ _ e1)
  have HB1 := Lib.hid ((Below.refl w.heap.size w).alloc (Nat.le_refl _) (.cells #[.int .i64 0, .int .i64 97, .int .i64 0, .int .i64 0, .int .i64 0, .int .i64 1, .int .i64 0, .int .i64 3, .int .i64 1, .int .i64 0] 53))
  clear e1
  refine (A1.out _ _ _ HT1.out).mono ?_; rintro e w2 ⟨v2, rfl, ho2, hb2⟩
  have hs := St18.mk (g1 := w.heap.size) (g3 := w2.heap.size) ((HT1.out.kept hb2).kept ((Below.refl _ _).alloc (Nat.le_refl _) (.cells #[.int .i64 1, .int .i64 1, .int .i64 2, .int .i64 3] 41))) (heap_alloc_new w2 _) (ho2.alloc _) ((HB1.out.trans (hb2.mono HB1.out.size)).alloc (HB1.out.trans (hb2.mono HB1.out.size)).size _)
  have HS := Lib.hid hs
  clear ho2 hb2 hs HT1 HB1 A1
  go_wp2_with fail
  obtain ⟨g3, hg3⟩ : ∃ g3, w2.heap.size = g3 := ⟨_, rfl⟩
  rw [hg3] at HS ⊢
  clear hg3
  generalize w2.alloc (.cells #[.int .i64 1, .int .i64 1, .int .i64 2, .int .i64 3] 41) = y2 at *
  refine (A2.out _ _ _ HS.out.tk).mono ?_; rintro e w3 ⟨v3, rfl, -, hb3⟩
  have HS := Lib.hid (HS.out.kept hb3)
  clear hb3 A2
  have hcx1 := Go.Joins.run_convert_bytes_const_at (P := Try.prog) (w3.alloc (.cells #[.int .i64 0, .int .i64 0, .int .i64 0, .int .i64 0] 41)) 34 5 #[.int .u8 120, .int .u8 121] 2 2 (w3.heap.size + 1) (by simp) Try.underlying34 Try.underlying5
  have HS := Lib.hid (HS.out.alloc (.cells #[.int .i64 0, .int .i64 0, .int .i64 0, .int .i64 0] 41))
  go_wp2_with fail
  have HS := Lib.hid (HS.out.alloc (.cells #[.int .u8 120, .int .u8 121] 5 (2, 3)))
  have hxy := heap_alloc_new (w3.alloc (.cells #[.int .i64 0, .int .i64 0, .int .i64 0, .int .i64 0] 41)) (.cells #[.int .u8 120, .int .u8 121] 5 (2, 3))
  rw [show (w3.alloc (.cells #[.int .i64 0, .int .i64 0, .int .i64 0, .int .i64 0] 41)).heap.size = w3.heap.size + 1 by simp] at hxy
  refine (C1.out _ _ _ (xy_at _ _ _ _ hxy)).mono ?_; rintro e w4 ⟨v4, rfl, ho4, hb4⟩
  have HS := Lib.hid (HS.out.kept hb4)
  have HO4 := Lib.hid ho4
  have hcx2 := Go.Joins.run_convert_bytes_const_at (P := Try.prog) w4 34 5 #[.int .u8 120, .int .u8 121] 2 2 w4.heap.size rfl Try.underlying34 Try.underlying5
  clear hb4 ho4 hcx1 hxy C1
  go_wp2_with fail
  refine (C2.out _ _ _).mono ?_; rintro e w5 ⟨rfl, rfl⟩
  have HS := Lib.hid (HS.out.alloc (.cells #[.int .u8 120, .int .u8 121] 5 (2, 3)))
  have HO5 := Lib.hid (HO4.out.alloc (.cells #[.int .u8 120, .int .u8 121] 5 (2, 3)))
  clear hcx2
  obtain ⟨w5, hw5⟩ : ∃ w5, (w4.alloc (.cells #[.int .u8 120, .int .u8 121] 5 (2, 3))) = w5 := ⟨_, rfl⟩
  rw [hw5] at HS HO5 ⊢
  clear hw5 C2
  have hcx3 := Go.Joins.run_convert_bytes_const_at (P := Try.prog) w5 34 5 #[.int .u8 120, .int .u8 121] 2 2 w5.heap.size rfl Try.underlying34 Try.underlying5
  go_wp2_with fail
  refine (C3.out _ _ _).mono ?_; rintro e w6 ⟨rfl, rfl⟩
  have HS := Lib.hid (HS.out.alloc (.cells #[.int .u8 120, .int .u8 121] 5 (2, 3)))
  have HO6 := Lib.hid (HO5.out.alloc (.cells #[.int .u8 120, .int .u8 121] 5 (2, 3)))
  clear hcx3 C3
  obtain ⟨w6, hw6⟩ : ∃ w6, (w5.alloc (.cells #[.int .u8 120, .int .u8 121] 5 (2, 3))) = w6 := ⟨_, rfl⟩
  rw [hw6] at HS HO6 ⊢
  clear hw6
  have q1 : (convert 34 9 v2).run Try.prog w6 = _ := y_conv HS.out.ow
  have q2 : (convert 34 9 v4).run Try.prog w6 = _ := y_conv HO6.out
  have b0 := cell_lit HS.out.bx 0 _ rfl
  have b1 := cell_lit HS.out.bx 1 _ rfl
  have b2 := cell_lit HS.out.bx 2 _ rfl
  have b3 := cell_lit HS.out.bx 3 _ rfl
  have he : ∀ w, (binOp .eql 41 (.agg #[.int .i64 1, .int .i64 1, .int .i64 2, .int .i64 3]) (.agg #[.int .i64 1, .int .i64 1, .int .i64 2, .int .i64 3])).run Try.prog w = .ok (.bool true) w := fun _ => by kernel_rfl
  have t1 := sOf_tl [97, 97, 97, 97]
  have t2 := sOf_tl [120, 121, 120, 121, 120]
  go_wp2_with fail
  refine (V1.out _ _ _ HS.out.tk).mono ?_; rintro e w7 ⟨rfl, hb7⟩
  have HS := Lib.hid (HS.out.kept hb7)
  clear hb7
  go_wp2_with fail
  refine (V2.out _ _ _ HS.out.tk).mono ?_; rintro e w8 ⟨rfl, hb8⟩
  have HS := Lib.hid (HS.out.kept hb8)
  clear hb8
  go_wp2_with fail
  go_ret
  exact ⟨rfl, HS.out.bl⟩
end Go.Proofs.Ytjpmfaodkldobaa
