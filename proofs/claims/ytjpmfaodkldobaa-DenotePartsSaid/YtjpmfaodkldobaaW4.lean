/- Layer 29: Copy. -/
import Derived.Test.YtjpmfaodkldobaaW3
namespace Go.Proofs.Ytjpmfaodkldobaa
open Go.ChangeShapes Go.WideShapes Go.ChangeAt Go.RowKit
set_option linter.unusedVariables false
set_option maxRecDepth 100000
/-- n bytes laid behind a row, each the one that stands d ahead of it. -/
def copyL (d : Nat) : Nat → List UInt8 → List UInt8
  | 0, l => l
  | n + 1, l => copyL d n (l ++ [l.getD (l.length - d) 0])
theorem copyL_len (d : Nat) : ∀ n l, (copyL d n l).length = l.length + n
  | 0, l => rfl
  | n + 1, l => by rw [copyL, copyL_len d n]; simp; omega
theorem copyL_pre (d : Nat) (hd : 1 ≤ d) : ∀ n (p l : List UInt8), d ≤ l.length → copyL d n (p ++ l) = p ++ copyL d n l
  | 0, p, l, _ => rfl
  | n + 1, p, l, h => by
    have e : (p ++ l).getD ((p ++ l).length - d) 0 = l.getD (l.length - d) 0 := by
      rw [List.length_append]
      simp only [List.getD_eq_getElem?_getD]
      rw [List.getElem?_append_right (by omega)]
      congr 2; omega
    rw [copyL, copyL, e, List.append_assoc, copyL_pre d hd n p _ (by simp; omega)]
theorem copyL_take (d : Nat) : ∀ n l, (copyL d n l).take l.length = l
  | 0, l => by simp [copyL]
  | n + 1, l => by
    have h := copyL_take d n (l ++ [l.getD (l.length - d) 0])
    rw [copyL]
    have h2 := congrArg (List.take l.length) h
    rw [List.take_take] at h2
    simpa using h2
theorem copyL_snoc (d : Nat) : ∀ n l, copyL d (n + 1) l = copyL d n l ++ [(copyL d n l).getD ((copyL d n l).length - d) 0]
  | 0, l => rfl
  | n + 1, l => by rw [copyL, copyL_snoc d n]; rfl
/-- What is told of n bytes from d back. -/
def toldL (d n : Nat) (l : List UInt8) : List UInt8 := (copyL d n l).drop l.length
theorem copyL_told (d n : Nat) (l : List UInt8) : copyL d n l = l ++ toldL d n l := by
  unfold toldL
  conv => lhs; rw [← List.take_append_drop l.length (copyL d n l), copyL_take]
theorem toldL_len (d n : Nat) (l : List UInt8) : (toldL d n l).length = n := by unfold toldL; rw [List.length_drop, copyL_len]; omega
theorem toldL_lastN (d n k : Nat) (l : List UInt8) (hd : 1 ≤ d) (h : d ≤ (lastN k l).length) : toldL d n l = toldL d n (lastN k l) := by
  have e : l = l.take (l.length - k) ++ lastN k l := (List.take_append_drop _ _).symm
  have h2 := copyL_pre d hd n (l.take (l.length - k)) (lastN k l) h
  rw [← e] at h2
  obtain ⟨p, hp⟩ : ∃ p, l.take (l.length - k) = p := ⟨_, rfl⟩
  obtain ⟨H, hH⟩ : ∃ H, lastN k l = H := ⟨_, rfl⟩
  rw [hp, hH] at e h2
  rw [hH]
  have e3 : l.length = p.length + H.length := by rw [e, List.length_append]
  unfold toldL
  rw [h2, e3, List.drop_append, List.drop_eq_nil_of_le (by omega), List.nil_append]
  congr 1; omega
theorem wnCopyNone (n d : Int) (w : World) : Calls Try.prog 36 #[.pointer none, .int .i64 n, .int .i64 d] w fun e w' => e = .returned (.tuple #[.string (sOf []), .int .i64 1]) ∧ w' = w := by
  go_enter Try.func36, Try.ntmps36
  go_wp2
  go_ret2
  exact ⟨rfl, rfl⟩
theorem wnCopyArg (p : Addr) (n d : Int) (w : World) (h : n < 0 ∨ 258 < n) : Calls Try.prog 36 #[.pointer (some p), .int .i64 n, .int .i64 d] w fun e w' => e = .returned (.tuple #[.string (sOf []), .int .i64 1]) ∧ w' = w := by
  by_cases h1 : n < 0
  · clear h
    go_enter Try.func36, Try.ntmps36
    go_wp2
    go_ret2
    exact ⟨rfl, rfl⟩
  · have h2 : 258 < n := by omega
    have h3 : decide (n < 0) = false := by simp; omega
    clear h
    go_enter Try.func36, Try.ntmps36
    go_wp2
    go_ret2
    exact ⟨rfl, rfl⟩
theorem wnCopyTok (w : World) (g B size : Nat) (v : Value) (all : List UInt8) (n d : Int) (hn : 0 ≤ n ∧ n ≤ 258) (h : Win w g B size v all) (hd : d < 1 ∨ ((lastN size all).length : Int) < d) : Calls Try.prog 36 #[.pointer (some ⟨g, 0, none⟩), .int .i64 n, .int .i64 d] w fun e w' => e = .returned (.tuple #[.string (sOf []), .int .i64 10]) ∧ ∃ k, w' = w.drewN k := by
  have CH := Lib.hid (wnHave w g B size v all h)
  obtain ⟨n1, n2⟩ := hn
  obtain ⟨L, hL⟩ : ∃ L, (lastN size all).length = L := ⟨_, rfl⟩
  rw [hL] at CH hd
  clear hL h
  by_cases h1 : d < 1
  · clear hd CH
    go_enter Try.func36, Try.ntmps36
    go_wp2_with fail
    go_ret2
    exact ⟨rfl, 0, rfl⟩
  · have h2 : (L : Int) < d := by omega
    clear hd
    go_enter Try.func36, Try.ntmps36
    go_wp2_with fail
    refine CH.out.mono ?_; rintro e w1 ⟨rfl, k1, rfl⟩
    go_wp2_with fail
    go_ret2
    exact ⟨rfl, _, rfl⟩
def WinStep (w : World) (g B size : Nat) (v : Value) (cur : List UInt8) (wr : World) : Prop :=
  ∃ v', Win wr g B size v' cur ∧ (∀ k, v'.ownBlock = some k → v.ownBlock = some k ∨ w.heap.size ≤ k) ∧ Keeps (feet g v) w wr
theorem app_step {w wr W w1 : World} {g B size k cap : Nat} {v v' : Value} {cur : List UInt8} {b : UInt8} (hk : Keeps (feet g v) w wr) (hv' : ∀ k, v'.ownBlock = some k → v.ownBlock = some k ∨ w.heap.size ≤ k) (h : Win wr g B size v' cur) (hW : Below wr.heap.size wr W)
    (hown : w1.ownsRow B 5 1 (.slice (some ⟨k, 0, none⟩) (cur.length + 1) cap) (cur.length + 1) (cells8 cur ++ [.int .u8 (b.toNat : Int)])) (hgr : W.grownBy w1 v'.ownBlock) (hkb : v'.ownBlock = some k ∨ k = W.heap.size) :
    WinStep w g B size v (cur ++ [b]) (w1.setCell ⟨g, 1, none⟩ (.slice (some ⟨k, 0, none⟩) (cur.length + 1) cap)) := by
  have hgW : W.heap[g]? = some (.cells #[.int .i64 size, v'] 119 (0, 0)) := (Keeps.of_below (S := fun _ => False) hW).heap h.1 (fun h => h)
  have hg : w1.heap[g]? = some (.cells #[.int .i64 size, v'] 119 (0, 0)) := grown_heap hgr hgW (own_ne h.2.1 h.1 (by decide))
  have hne := own_ne hown hg (by decide)
  have hs1 := hk.size
  have hs2 := hW.size
  have hs3 := hgr.size
  refine ⟨_, ⟨block_set hg 1 _, ?_, by have := h.2.2.1; simp; omega, h.2.2.2.1, h.2.2.2.2⟩, fun j hj => ?_, ?_⟩
  · have e : (cur ++ [b]).length = cur.length + 1 := by simp
    rw [cells8_snoc, ← e] at hown
    have := ownsRow_setCell_other hown (a := ⟨g, 1, none⟩) hne (.slice (some ⟨k, 0, none⟩) (cur.length + 1) cap)
    rw [e] at this ⊢
    exact this
  · obtain rfl : k = j := by simpa [Value.ownBlock] using hj
    rcases hkb with h2 | h2
    · exact hv' _ h2
    · right; omega
  · have k1 : Keeps (feet g v') wr (w1.setCell ⟨g, 1, none⟩ (.slice (some ⟨k, 0, none⟩) (cur.length + 1) cap)) := ((Keeps.of_below hW).grown hgr (fun k e => .inr (.inr e))).setCell (p := ⟨g, 1, none⟩) (.inr (.inl rfl)) _
    refine hk.trans' k1 (fun j hj hs => ?_)
    rcases hs with rfl | hs
    · exact .inl rfl
    · rcases hv' j hs with h2 | h2
      · exact .inr h2
      · omega
theorem getD_right (a b : List UInt8) (i : Nat) (h : a.length ≤ i) : (a ++ b).getD i 0 = b.getD (i - a.length) 0 := by simp [List.getD_eq_getElem?_getD, List.getElem?_append_right h]
theorem step_drop {w wr w' : World} {g B size q : Nat} {v v1 : Value} {R : List UInt8} {e : Ending} (hk : Keeps (feet g v) w wr) (hf : ∀ k, v1.ownBlock = some k → v.ownBlock = some k ∨ w.heap.size ≤ k) (hd : DropPost (wr.drewN q) g B size v1 R e w') :
    e = .returned (.tuple #[]) ∧ WinPost w g B size v (lastN size R) w' := by
  obtain ⟨he, v', all', hW, hH, hl, hf2, hk2⟩ := hd
  refine ⟨he, v', all', hW, hH, hl, fun k hk' => hf k (hf2 k hk'), (hk.drewN q).trans' hk2 (fun j hj hs => ?_)⟩
  rcases hs with rfl | hs
  · exact .inl rfl
  · rcases hf j hs with h2 | h2
    · exact .inr h2
    · omega
set_option maxHeartbeats 3200000 in
theorem wnCopyIn (w : World) (g B size : Nat) (v : Value) (all : List UInt8) (n d : Nat) (hn : 1 ≤ n) (hn2 : n ≤ 258) (h : Win w g B size v all) (hl : all.length ≤ 2 * size + 258) (hd : 1 ≤ d) (hd2 : d ≤ (lastN size all).length) :
    Calls Try.prog 36 #[.pointer (some ⟨g, 0, none⟩), .int .i64 n, .int .i64 d] w fun e w' => e = .returned (.tuple #[.string (sOf (toldL d n all)), .int .i64 0]) ∧ WinPost w g B size v (lastN size (all ++ toldL d n all)) w' := by
  have CH := Lib.hid (wnHave w g B size v all h)
  have hdl : d ≤ all.length := by have := lastN_len size all; omega
  have hsz := h.2.2.2.2
  have HW0 := Lib.hid h
  obtain ⟨i0, hi, hz0, hz1, hz2⟩ := info_get (show (Try.prog.info? 5).map (fun i => (i.zero, i.size, i.bytes)) = some (some (.int .u8 0), 1, 1) by kernel_rfl)
  obtain ⟨L, hL⟩ : ∃ L, (lastN size all).length = L := ⟨_, rfl⟩
  rw [hL] at CH hd2
  clear hL h
  have hdd : decide (L < d) = false := by simp; omega
  have hdd2 : decide ((d : Int) < 1) = false := by simp; omega
  go_enter Try.func36, Try.ntmps36
  go_wp2_with fail
  refine CH.out.mono ?_; rintro e w1 ⟨rfl, k1, rfl⟩
  go_wp2_with fail
  go_loopw [28] (fun i wr => ∃ k : Nat, k ≤ n ∧ i = .int .i64 k ∧ WinStep w g B size v (copyL d k all) wr) (fun i _ => n - (intOf i).toNat)
  case atStart => exact ⟨0, Nat.zero_le _, rfl, v, HW0.out, fun k h => .inl h, (Keeps.refl _ _).drewN _⟩
  case round =>
    clear CH hdd hdd2
    obtain ⟨k, hk, rfl, v1, hW1, hf1, hk1⟩ := hrel
    by_cases hlt : k < n
    · obtain ⟨hgl, c0, c1, f1⟩ := hW1.facts
      obtain ⟨a, c, hv, hc, hm, hnil⟩ := hW1.slice
      subst hv
      have hcl := copyL_len d k all
      have HSN := Lib.hid (copyL_snoc d k all)
      have HC := Lib.hid (show ∀ W w1, Below wr.heap.size wr W → W.grownBy w1 (Value.slice a (copyL d k all).length c).ownBlock → w1.cell? ⟨g, 1, none⟩ = some (.slice a (copyL d k all).length c) ∧ w1.frozen? ⟨g, 1, none⟩ = false from fun W w1 hb hgr => by
        have hg2 : w1.heap[g]? = some (.cells #[.int .i64 size, .slice a (copyL d k all).length c] 119 (0, 0)) := grown_heap hgr ((Keeps.of_below (S := fun _ => False) hb).heap hW1.1 (fun h => h)) (own_ne hW1.2.1 hW1.1 (by decide))
        exact ⟨cell_in hg2 1, free_in hg2 1⟩)
      obtain ⟨R, hR⟩ : ∃ R, copyL d k all = R := ⟨_, rfl⟩
      rw [hR] at hW1 hcl HSN HC hc hnil c1 hf1
      clear hR
      rcases hnil with rfl | ⟨bb, rfl, hbb, hcell⟩
      · simp at hcl; omega
      have cb := hcell (R.length - d) (by omega)
      obtain ⟨Z, hZ⟩ : ∃ Z, R.getD (R.length - d) 0 = Z := ⟨_, rfl⟩
      rw [hZ] at cb HSN
      clear hZ hcell
      have hsub : IntKind.i64.wrap ((R.length : Int) - d) = (R.length : Int) - d := IntWalk.i64_in _ (by omega)
      have hs0 : 0 ≤ (R.length : Int) - d := by omega
      have hs1 : ((R.length : Int) - d).toNat = R.length - d := by omega
      have hs2 : (R.length : Int) - d < R.length := by omega
      have hs3 : R.length - d < R.length := by omega
      have hBs := hW1.2.2.1
      have HB := Lib.hid hW1
      have HF := Lib.hid hf1; have HK := Lib.hid hk1
      have HL63 := Lib.hid (show R.length + 1 ≤ maxLen by unfold maxLen; omega)
      have HLby := Lib.hid (show (R.length + 1) * 1 ≤ 140737488355328 by omega)
      have HBs := Lib.hid (show B ≤ (wr.alloc (.cells #[.int .u8 (Z.toNat : Int)] 5)).heap.size by simp; omega)
      have HCL := Lib.hid hcl
      have hRb : R.length ≤ 1000000000 := by omega
      have hRd : d ≤ R.length := by omega
      clear hW1 hf1 hk1 hcl
      go_wp2_with fail
      go_region_law (refine step_append_at (P := Try.prog) rfl (.tmp 34) (.tmp 48) 34 rfl B 5 i0 (.int .u8 0) 1 Try.underlying34 hi hz0 hz1 hz2 rfl _ R.length (cells8 R) ?hd (HB.out.2.1.alloc _) ⟨wr.heap.size, 0, none⟩ 1 1 [.int .u8 (Z.toNat : Int)] ?hs rfl (cell_new1 wr _ _ _ rfl) (by simp [Value.oneCell']) HL63.out HLby.out HBs.out (by decide) ?_; (case hd => go_simp); (case hs => go_simp); intro k2 cap2 w2 hown2 hgr2 hkb2; obtain ⟨c12, f12⟩ := HC.out _ w2 (((Below.refl _ _).alloc (Nat.le_refl _) _).drew) hgr2)
      all_goals (
        have hst := app_step HK.out HF.out HB.out (((Below.refl _ _).alloc (Nat.le_refl _) _).drew) hown2 hgr2 hkb2
        rw [← HSN.out] at hst
        have HST := Lib.hid hst
        clear hst hown2 hgr2 hkb2 c12 f12 HC HB HK HF
        simp only [Exit.inBlock, Exit.then]
        rename_i hKK
        refine hKK _ _ ?_
        clear hKK
        go_wp2_with fail
        go_roundw
        case rel => exact ⟨k + 1, by omega, by go_num, HST.out⟩
        case measure => simp [intOf]; omega)
    · obtain rfl : k = n := by omega
      obtain ⟨hgl, c0, c1, f1⟩ := hW1.facts
      obtain ⟨a, c, hv, hc, hm, hnil⟩ := hW1.slice
      subst hv
      have hcl := copyL_len d k all
      have hT := copyL_told d k all
      have hTl := toldL_len d k all
      obtain ⟨T, hTd⟩ : ∃ T, toldL d k all = T := ⟨_, rfl⟩
      rw [hTd] at hT hTl
      have HTD := Lib.hid hTd
      obtain ⟨R, hR⟩ : ∃ R, copyL d k all = R := ⟨_, rfl⟩
      rw [hR] at hW1 hcl hc hnil c1 hT hf1
      have HRT := Lib.hid hT
      clear hR hTd
      rcases hnil with rfl | ⟨bb, rfl, hbb, hcell⟩
      · simp at hcl; omega
      have hcv : ∀ q, (convert 34 9 (.slice (some ⟨bb, R.length - k, none⟩) (R.length - (R.length - k)) (c - (R.length - k)))).run Try.prog (wr.drewN q) = .ok (.string (sOf T)) (wr.drewN q) := by
        intro q
        have e1 : R.length - (R.length - k) = T.length := by omega
        rw [e1]
        refine run_convert_bytes_back (P := Try.prog) (wr.drewN q) 34 9 5 ⟨bb, R.length - k, none⟩ _ T Try.underlying34 Try.underlying5 Try.underlying9 (fun j hj => ?_)
        have e2 : (⟨bb, R.length - k, none⟩ : Addr).add j = ⟨bb, R.length - k + j, none⟩ := by unfold Addr.add; split <;> simp_all
        rw [e2]
        have h3 := hcell (R.length - k + j) (by omega)
        show wr.cell? _ = _
        have h4 : R.length - k + j = all.length + j := by omega
        rw [h3, ← getD_lt _ _ hj, h4, hT, getD_right _ _ _ (by omega), Nat.add_sub_cancel_left]
      have hcv1 : (convert 34 9 (.slice (some ⟨bb, R.length - k, none⟩) (R.length - (R.length - k)) (c - (R.length - k)))).run Try.prog wr.drew = .ok (.string (sOf T)) wr.drew := hcv 1
      have hsub : IntKind.i64.wrap ((R.length : Int) - k) = (R.length : Int) - k := IntWalk.i64_in _ (by omega)
      have hs0 : 0 ≤ (R.length : Int) - k := by omega
      have hs1 : ((R.length : Int) - k).toNat = R.length - k := by omega
      have hs2 : (R.length : Int) - k ≤ R.length := by omega
      have hs3 : k ≤ R.length := by omega
      have hs4 : ¬ c = R.length - k := by omega
      have HB := Lib.hid hW1
      have HF := Lib.hid hf1; have HK := Lib.hid hk1
      clear hW1 hf1 hk1 hcl hT hcell hTl
      go_wp2_with fail
      go_region
      all_goals (
        go_wp2_with fail
        refine (wnDrop _ g B size _ R (HB.out.drewN _)).mono ?_; rintro e w5 hd
        obtain ⟨he, hp⟩ := step_drop HK.out HF.out hd
        subst he
        clear hd HB HF HK
        go_wp2_with fail
        go_ret2
        exact ⟨by rw [HTD.out]; rfl, by rw [HTD.out, ← HRT.out]; exact hp⟩)
end Go.Proofs.Ytjpmfaodkldobaa
