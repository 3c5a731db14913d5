import Derived.Test.YtipcdkemokkdfaaGreatK02
import Derived.Test.YtipcdkemokkdfaaGreatK01
import Derived.ArgAppend
import Derived.Laws.Append
/- Layer 29: Copy. -/
namespace Go.Proofs.YtipcdkemokkdfaaGreat
open Go.ChangeShapes Go.WideShapes Go.ChangeAt Go.RowKit
set_option linter.unusedVariables false
set_option maxRecDepth 100000
/-- n bytes laid behind a row, each the one that stands d ahead of it. -/
def copyL (d : Nat) : Nat → List UInt8 → List UInt8
  | 0, l => l
  | n + 1, l => copyL d n (l ++ [l.getD (l.length - d) 0])
theorem copyL_len (d : Nat) : ∀ n l, (copyL d n l).length = l.length + n
  | 0, l => rfl
  | n + 1, l => by rw [copyL, copyL_len d n]; simp; omega
theorem copyL_pre (d : Nat) (hd : 1 ≤ d) : ∀ n (p l : List UInt8), d ≤ l.length → copyL d n (p ++ l) = p ++ copyL d n l
  | 0, p, l, _ => rfl
  | n + 1, p, l, h => by
    have e : (p ++ l).getD ((p ++ l).length - d) 0 = l.getD (l.length - d) 0 := by
      rw [List.length_append]
      simp only [List.getD_eq_getElem?_getD]
      rw [List.getElem?_append_right (by omega)]
      congr 2; omega
    rw [copyL, copyL, e, List.append_assoc, copyL_pre d hd n p _ (by simp; omega)]
theorem copyL_take (d : Nat) : ∀ n l, (copyL d n l).take l.length = l
  | 0, l => by simp [copyL]
  | n + 1, l => by
    have h := copyL_take d n (l ++ [l.getD (l.length - d) 0])
    rw [copyL]
    have h2 := congrArg (List.take l.length) h
    rw [List.take_take] at h2
    simpa using h2
theorem copyL_snoc (d : Nat) : ∀ n l, copyL d (n + 1) l = copyL d n l ++ [(copyL d n l).getD ((copyL d n l).length - d) 0]
  | 0, l => rfl
  | n + 1, l => by rw [copyL, copyL_snoc d n]; rfl
/-- What is told of n bytes from d back. -/
def toldL (d n : Nat) (l : List UInt8) : List UInt8 := (copyL d n l).drop l.length
theorem copyL_told (d n : Nat) (l : List UInt8) : copyL d n l = l ++ toldL d n l := by
  unfold toldL
  conv => lhs; rw [← List.take_append_drop l.length (copyL d n l), copyL_take]
theorem toldL_len (d n : Nat) (l : List UInt8) : (toldL d n l).length = n := by unfold toldL; rw [List.length_drop, copyL_len]; omega
theorem toldL_lastN (d n k : Nat) (l : List UInt8) (hd : 1 ≤ d) (h : d ≤ (lastN k l).length) : toldL d n l = toldL d n (lastN k l) := by
  have e : l = l.take (l.length - k) ++ lastN k l := (List.take_append_drop _ _).symm
  have h2 := copyL_pre d hd n (l.take (l.length - k)) (lastN k l) h
  rw [← e] at h2
  obtain ⟨p, hp⟩ : ∃ p, l.take (l.length - k) = p := ⟨_, rfl⟩
  obtain ⟨H, hH⟩ : ∃ H, lastN k l = H := ⟨_, rfl⟩
  rw [hp, hH] at e h2
  rw [hH]
  have e3 : l.length = p.length + H.length := by rw [e, List.length_append]
  unfold toldL
  rw [h2, e3, List.drop_append, List.drop_eq_nil_of_le (by omega), List.nil_append]
  congr 1; omega
theorem wnCopyArg (p : Addr) (n d : Int) (w : World) (h : n < 0 ∨ 258 < n) : Calls Tryz.prog 35 #[.pointer (some p), .int .i64 n, .int .i64 d] w fun e w' => e = .returned (.tuple #[.string (sOf []), .int .i64 1]) ∧ w' = w := by
  by_cases h1 : n < 0
  · clear h
    go_enter Tryz.func35, Tryz.ntmps35
    go_wp2
    go_ret2
    exact ⟨rfl, rfl⟩
  · have h2 : 258 < n := by omega
    have h3 : decide (n < 0) = false := by simp; omega
    clear h
    go_enter Tryz.func35, Tryz.ntmps35
    go_wp2
    go_ret2
    exact ⟨rfl, rfl⟩
theorem wnCopyTok (w : World) (g B size : Nat) (v : Value) (all : List UInt8) (n d : Int) (hn : 0 ≤ n ∧ n ≤ 258) (h : Win w g B size v all) (hd : d < 1 ∨ ((lastN size all).length : Int) < d) : Calls Tryz.prog 35 #[.pointer (some ⟨g, 0, none⟩), .int .i64 n, .int .i64 d] w fun e w' => e = .returned (.tuple #[.string (sOf []), .int .i64 10]) ∧ ∃ k, w' = w.drewN k := by
  have CH := Lib.hid (wnHave w g B size v all h)
  obtain ⟨n1, n2⟩ := hn
  obtain ⟨L, hL⟩ : ∃ L, (lastN size all).length = L := ⟨_, rfl⟩
  rw [hL] at CH hd
  clear hL h
  by_cases h1 : d < 1
  · clear hd CH
    go_enter Tryz.func35, Tryz.ntmps35
    go_wp2_with fail
    go_ret2
    exact ⟨rfl, 0, rfl⟩
  · have h2 : (L : Int) < d := by omega
    clear hd
    go_enter Tryz.func35, Tryz.ntmps35
    go_wp2_with fail
    refine CH.out.mono ?_; rintro e w1 ⟨rfl, k1, rfl⟩
    go_wp2_with fail
    go_ret2
    exact ⟨rfl, _, rfl⟩
def WinStep (w : World) (g B size : Nat) (v : Value) (cur : List UInt8) (wr : World) : Prop :=
  ∃ v', Win wr g B size v' cur ∧ (∀ k, v'.ownBlock = some k → v.ownBlock = some k ∨ w.heap.size ≤ k) ∧ Keeps (feet g v) w wr
theorem app_step {w wr W w1 : World} {g B size k cap : Nat} {v v' : Value} {cur : List UInt8} {b : UInt8} (hk : Keeps (feet g v) w wr) (hv' : ∀ k, v'.ownBlock = some k → v.ownBlock = some k ∨ w.heap.size ≤ k) (h : Win wr g B size v' cur) (hW : Below wr.heap.size wr W)
    (hown : w1.ownsRow B 5 1 (.slice (some ⟨k, 0, none⟩) (cur.length + 1) cap) (cur.length + 1) (cells8 cur ++ [.int .u8 (b.toNat : Int)])) (hgr : W.grownBy w1 v'.ownBlock) (hkb : v'.ownBlock = some k ∨ k = W.heap.size) :
    WinStep w g B size v (cur ++ [b]) (w1.setCell ⟨g, 1, none⟩ (.slice (some ⟨k, 0, none⟩) (cur.length + 1) cap)) := by
  have hgW : W.heap[g]? = some (.cells #[.int .i64 size, v'] 45 (0, 0)) := (Keeps.of_below (S := fun _ => False) hW).heap h.1 (fun h => h)
  have hg : w1.heap[g]? = some (.cells #[.int .i64 size, v'] 45 (0, 0)) := grown_heap hgr hgW (own_ne h.2.1 h.1 (by decide))
  have hne := own_ne hown hg (by decide)
  have hs1 := hk.size
  have hs2 := hW.size
  have hs3 := hgr.size
  refine ⟨_, ⟨block_set hg 1 _, ?_, by have := h.2.2.1; simp; omega, h.2.2.2.1, h.2.2.2.2⟩, fun j hj => ?_, ?_⟩
  · have e : (cur ++ [b]).length = cur.length + 1 := by simp
    rw [cells8_snoc, ← e] at hown
    have := ownsRow_setCell_other hown (a := ⟨g, 1, none⟩) hne (.slice (some ⟨k, 0, none⟩) (cur.length + 1) cap)
    rw [e] at this ⊢
    exact this
  · obtain rfl : k = j := by simpa [Value.ownBlock] using hj
    rcases hkb with h2 | h2
    · exact hv' _ h2
    · right; omega
  · have k1 : Keeps (feet g v') wr (w1.setCell ⟨g, 1, none⟩ (.slice (some ⟨k, 0, none⟩) (cur.length + 1) cap)) := ((Keeps.of_below hW).grown hgr (fun k e => .inr (.inr e))).setCell (p := ⟨g, 1, none⟩) (.inr (.inl rfl)) _
    refine hk.trans' k1 (fun j hj hs => ?_)
    rcases hs with rfl | hs
    · exact .inl rfl
    · rcases hv' j hs with h2 | h2
      · exact .inr h2
      · omega
theorem getD_right (a b : List UInt8) (i : Nat) (h : a.length ≤ i) : (a ++ b).getD i 0 = b.getD (i - a.length) 0 := by simp [List.getD_eq_getElem?_getD, List.getElem?_append_right h]
theorem step_drop {w wr w' : World} {g B size q : Nat} {v v1 : Value} {R : List UInt8} {e : Ending} (hk : Keeps (feet g v) w wr) (hf : ∀ k, v1.ownBlock = some k → v.ownBlock = some k ∨ w.heap.size ≤ k) (hd : DropPost (wr.drewN q) g B size v1 R e w') :
    e = .returned (.tuple #[]) ∧ WinPost w g B size v (lastN size R) w' := by
  obtain ⟨he, v', all', hW, hH, hl, hf2, hk2⟩ := hd
  refine ⟨he, v', all', hW, hH, hl, fun k hk' => hf k (hf2 k hk'), (hk.drewN q).trans' hk2 (fun j hj hs => ?_)⟩
  rcases hs with rfl | hs
  · exact .inl rfl
  · rcases hf j hs with h2 | h2
    · exact .inr h2
    · omega
set_option maxHeartbeats 3200000 in
theorem wnCopyIn (w : World) (g B size : Nat) (v : Value) (all : List UInt8) (n d : Nat) (hn : 1 ≤ n) (hn2 : n ≤ 258) (h : Win w g B size v all) (hl : all.length ≤ 2 * size + 258) (hd : 1 ≤ d) (hd2 : d ≤ (lastN size all).length) :
    Calls Tryz.prog 35 #[.pointer (some ⟨g, 0, none⟩), .int .i64 n, .int .i64 d] w fun e w' => e = .returned (.tuple #[.string (sOf (toldL d n all)), .int .i64 0]) ∧ WinPost w g B size v (lastN size (all ++ toldL d n all)) w' := by
  have CH := Lib.hid (wnHave w g B size v all h)
  have hdl : d ≤ all.length := by have := lastN_len size all; omega
  have hsz := h.2.2.2.2
  have HW0 := Lib.hid h
  obtain ⟨i0, hi, hz0, hz1, hz2⟩ := info_get (show (Tryz.prog.info? 5).map (fun i => (i.zero, i.size, i.bytes)) = some (some (.int .u8 0), 1, 1) by kernel_rfl)
  obtain ⟨L, hL⟩ : ∃ L, (lastN size all).length = L := ⟨_, rfl⟩
  rw [hL] at CH hd2
  clear hL h
  have hdd : decide (L < d) = false := by simp; omega
  have hdd2 : decide ((d : Int) < 1) = false := by simp; omega
  go_enter Tryz.func35, Tryz.ntmps35
  go_wp2_with fail
  refine CH.out.mono ?_; rintro e w1 ⟨rfl, k1, rfl⟩
  go_wp2_with fail
  go_loopw [28] (fun i wr => ∃ k : Nat, k ≤ n ∧ i = .int .i64 k ∧ WinStep w g B size v (copyL d k all) wr) (fun i _ => n - (intOf i).toNat)
  case atStart => exact ⟨0, Nat.zero_le _, rfl, v, HW0.out, fun k h => .inl h, (Keeps.refl _ _).drewN _⟩
  case round =>
    clear CH hdd hdd2
    obtain ⟨k, hk, rfl, v1, hW1, hf1, hk1⟩ := hrel
    by_cases hlt : k < n
    · obtain ⟨hgl, c0, c1, f1⟩ := hW1.facts
      obtain ⟨a, c, hv, hc, hm, hnil⟩ := hW1.slice
      subst hv
      have hcl := copyL_len d k all
      have HSN := Lib.hid (copyL_snoc d k all)
      have HC := Lib.hid (show ∀ W w1, Below wr.heap.size wr W → W.grownBy w1 (Value.slice a (copyL d k all).length c).ownBlock → w1.cell? ⟨g, 1, none⟩ = some (.slice a (copyL d k all).length c) ∧ w1.frozen? ⟨g, 1, none⟩ = false from fun W w1 hb hgr => by
        have hg2 : w1.heap[g]? = some (.cells #[.int .i64 size, .slice a (copyL d k all).length c] 45 (0, 0)) := grown_heap hgr ((Keeps.of_below (S := fun _ => False) hb).heap hW1.1 (fun h => h)) (own_ne hW1.2.1 hW1.1 (by decide))
        exact ⟨cell_in hg2 1, free_in hg2 1⟩)
      obtain ⟨R, hR⟩ : ∃ R, copyL d k all = R := ⟨_, rfl⟩
      rw [hR] at hW1 hcl HSN HC hc hnil c1 hf1
      clear hR
      rcases hnil with rfl | ⟨bb, rfl, hbb, hcell⟩
      · simp at hcl; omega
      have cb := hcell (R.length - d) (by omega)
      obtain ⟨Z, hZ⟩ : ∃ Z, R.getD (R.length - d) 0 = Z := ⟨_, rfl⟩
      rw [hZ] at cb HSN
      clear hZ hcell
      have hsub : IntKind.i64.wrap ((R.length : Int) - d) = (R.length : Int) - d := IntWalk.i64_in _ (by omega)
      have hs0 : 0 ≤ (R.length : Int) - d := by omega
      have hs1 : ((R.length : Int) - d).toNat = R.length - d := by omega
      have hs2 : (R.length : Int) - d < R.length := by omega
      have hs3 : R.length - d < R.length := by omega
      have hBs := hW1.2.2.1
      have HB := Lib.hid hW1
      have HF := Lib.hid hf1; have HK := Lib.hid hk1
      have HL63 := Lib.hid (show R.length + 1 ≤ maxLen by unfold maxLen; omega)
      have HLby := Lib.hid (show (R.length + 1) * 1 ≤ 140737488355328 by omega)
      have HBs := Lib.hid (show B ≤ (wr.alloc (.cells #[.int .u8 (Z.toNat : Int)] 5)).heap.size by simp; omega)
      have HCL := Lib.hid hcl
      have hRb : R.length ≤ 1000000000 := by omega
      have hRd : d ≤ R.length := by omega
      clear hW1 hf1 hk1 hcl
      go_wp2_with fail
      go_region_law (refine step_append_at (P := Tryz.prog) rfl (.tmp 34) (.tmp 48) 43 rfl B 5 i0 (.int .u8 0) 1 Tryz.underlying43 hi hz0 hz1 hz2 rfl _ R.length (cells8 R) ?hd (HB.out.2.1.alloc _) ⟨wr.heap.size, 0, none⟩ 1 1 [.int .u8 (Z.toNat : Int)] ?hs rfl (cell_new1 wr _ _ _ rfl) (by simp [Value.oneCell']) HL63.out HLby.out HBs.out (by decide) ?_; (case hd => go_simp); (case hs => go_simp); intro k2 cap2 w2 hown2 hgr2 hkb2; obtain ⟨c12, f12⟩ := HC.out _ w2 (((Below.refl _ _).alloc (Nat.le_refl _) _).drew) hgr2)
      all_goals (
        have hst := app_step HK.out HF.out HB.out (((Below.refl _ _).alloc (Nat.le_refl _) _).drew) hown2 hgr2 hkb2
        rw [← HSN.out] at hst
        have HST := Lib.hid hst
        clear hst hown2 hgr2 hkb2 c12 f12 HC HB HK HF
        simp only [Exit.inBlock, Exit.then]
        rename_i hKK
        refine hKK _ _ ?_
        clear hKK
        go_wp2_with fail
        go_roundw
        case rel => exact ⟨k + 1, by omega, by go_num, HST.out⟩
        case measure => simp [intOf]; omega)
    · obtain rfl : k = n := by omega
      obtain ⟨hgl, c0, c1, f1⟩ := hW1.facts
      obtain ⟨a, c, hv, hc, hm, hnil⟩ := hW1.slice
      subst hv
      have hcl := copyL_len d k all
      have hT := copyL_told d k all
      have hTl := toldL_len d k all
      obtain ⟨T, hTd⟩ : ∃ T, toldL d k all = T := ⟨_, rfl⟩
      rw [hTd] at hT hTl
      have HTD := Lib.hid hTd
      obtain ⟨R, hR⟩ : ∃ R, copyL d k all = R := ⟨_, rfl⟩
      rw [hR] at hW1 hcl hc hnil c1 hT hf1
      have HRT := Lib.hid hT
      clear hR hTd
      rcases hnil with rfl | ⟨bb, rfl, hbb, hcell⟩
      · simp at hcl; omega
      have hcv : ∀ q, (convert 43 9 (.slice (some ⟨bb, R.length - k, none⟩) (R.length - (R.length - k)) (c - (R.length - k)))).run Tryz.prog (wr.drewN q) = .ok (.string (sOf T)) (wr.drewN q) := by
        intro q
        have e1 : R.length - (R.length - k) = T.length := by omega
        rw [e1]
        refine run_convert_bytes_back (P := Tryz.prog) (wr.drewN q) 43 9 5 ⟨bb, R.length - k, none⟩ _ T Tryz.underlying43 Tryz.underlying5 Tryz.underlying9 (fun j hj => ?_)
        have e2 : (⟨bb, R.length - k, none⟩ : Addr).add j = ⟨bb, R.length - k + j, none⟩ := by unfold Addr.add; split <;> simp_all
        rw [e2]
        have h3 := hcell (R.length - k + j) (by omega)
        show wr.cell? _ = _
        have h4 : R.length - k + j = all.length + j := by omega
        rw [h3, ← getD_lt _ _ hj, h4, hT, getD_right _ _ _ (by omega), Nat.add_sub_cancel_left]
      have hcv1 : (convert 43 9 (.slice (some ⟨bb, R.length - k, none⟩) (R.length - (R.length - k)) (c - (R.length - k)))).run Tryz.prog wr.drew = .ok (.string (sOf T)) wr.drew := hcv 1
      have hsub : IntKind.i64.wrap ((R.length : Int) - k) = (R.length : Int) - k := IntWalk.i64_in _ (by omega)
      have hs0 : 0 ≤ (R.length : Int) - k := by omega
      have hs1 : ((R.length : Int) - k).toNat = R.length - k := by omega
      have hs2 : (R.length : Int) - k ≤ R.length := by omega
      have hs3 : k ≤ R.length := by omega
      have hs4 : ¬ c = R.length - k := by omega
      have HB := Lib.hid hW1
      have HF := Lib.hid hf1; have HK := Lib.hid hk1
      clear hW1 hf1 hk1 hcl hT hcell hTl
      go_wp2_with fail
      go_region
      all_goals (
        go_wp2_with fail
        refine (wnDrop _ g B size _ R (HB.out.drewN _)).mono ?_; rintro e w5 hd
        obtain ⟨he, hp⟩ := step_drop HK.out HF.out hd
        subst he
        clear hd HB HF HK
        go_wp2_with fail
        go_ret2
        exact ⟨by rw [HTD.out]; rfl, by rw [HTD.out, ← HRT.out]; exact hp⟩)
end Go.Proofs.YtipcdkemokkdfaaGreat

/- Layer 29: contracts by what is held; awake. -/
namespace Go.Proofs.YtipcdkemokkdfaaGreat
open Go.ChangeShapes Go.WideShapes Go.ChangeAt Go.RowKit
set_option linter.unusedVariables false
set_option maxRecDepth 100000
set_option maxHeartbeats 1600000 in
theorem wnCopyZero (w : World) (g B size : Nat) (v : Value) (all : List UInt8) (d : Nat) (h : Win w g B size v all) (hl : all.length ≤ 2 * size + 258) (hd : 1 ≤ d) (hd2 : d ≤ (lastN size all).length) :
    Calls Tryz.prog 35 #[.pointer (some ⟨g, 0, none⟩), .int .i64 0, .int .i64 d] w fun e w' => e = .returned (.tuple #[.string (sOf []), .int .i64 0]) ∧ WinPost w g B size v (lastN size all) w' := by
  have CH := Lib.hid (wnHave w g B size v all h)
  have hdl : d ≤ all.length := by have := lastN_len size all; omega
  have hsz := h.2.2.2.2
  obtain ⟨hgl, c0, c1, f1⟩ := h.facts
  obtain ⟨a, c, hv, hc, hm, hnil⟩ := h.slice
  subst hv
  have HB := Lib.hid h
  obtain ⟨L, hL⟩ : ∃ L, (lastN size all).length = L := ⟨_, rfl⟩
  rw [hL] at CH hd2
  clear hL h
  have hdd : decide (L < d) = false := by simp; omega
  have hdd2 : decide ((d : Int) < 1) = false := by simp; omega
  rcases hnil with rfl | ⟨bb, rfl, hbb, hcell⟩
  · simp at hdl; omega
  have hcv : ∀ A C, (convert 43 9 (.slice (some A) 0 C)).run Tryz.prog (w.drewN 1) = .ok (.string (sOf [])) (w.drewN 1) := fun A C => run_convert_bytes_back (P := Tryz.prog) (w.drewN 1) 43 9 5 A C [] Tryz.underlying43 Tryz.underlying5 Tryz.underlying9 (fun j hj => by simp at hj)
  clear hcell
  go_enter Tryz.func35, Tryz.ntmps35
  go_wp2_with fail
  refine CH.out.mono ?_; rintro e w1 ⟨rfl, k1, rfl⟩
  go_wp2_with fail
  go_loopw [28] (fun i wr => i = .int .i64 0 ∧ wr = w.drewN k1) (fun i _ => 0)
  case atStart => exact ⟨rfl, rfl⟩
  case round =>
    obtain ⟨rfl, rfl⟩ := hrel
    have hcw : ∀ A C, (convert 43 9 (.slice (some A) 0 C)).run Tryz.prog (w.drewN k1).drew = .ok (.string (sOf [])) (w.drewN k1).drew := fun A C => run_convert_bytes_back (P := Tryz.prog) (w.drewN k1).drew 43 9 5 A C [] Tryz.underlying43 Tryz.underlying5 Tryz.underlying9 (fun j hj => by simp at hj)
    have hcx : ∀ q A C, (convert 43 9 (.slice (some A) 0 C)).run Tryz.prog (w.drewN q) = .ok (.string (sOf [])) (w.drewN q) := fun q A C => run_convert_bytes_back (P := Tryz.prog) (w.drewN q) 43 9 5 A C [] Tryz.underlying43 Tryz.underlying5 Tryz.underlying9 (fun j hj => by simp at hj)
    have hci : (convert 43 9 (.slice (if c = all.length then some ⟨bb, 0, none⟩ else some ⟨bb, all.length, none⟩) 0 (c - all.length))).run Tryz.prog (w.drewN (k1 + 1)) = .ok (.string (sOf [])) (w.drewN (k1 + 1)) := by split <;> exact hcx _ _ _
    have hwr : IntKind.i64.wrap (all.length : Int) = all.length := IntWalk.i64_in _ (by omega)
    go_wp2_with fail
    go_region
    all_goals go_wp2_with fail
    all_goals (
      refine (wnDrop _ g B size _ all (HB.out.drewN _)).mono ?_; rintro e w5 hd
      obtain ⟨he, hp⟩ := step_drop (Keeps.refl _ _) (fun k h => .inl h) hd
      subst he
      clear hd HB
      go_wp2_with fail
      go_ret2
      exact ⟨rfl, hp⟩)
/-- A window by what it holds. -/
def WinH (w : World) (g B size : Nat) (v : Value) (H : List UInt8) : Prop := ∃ all, Win w g B size v all ∧ lastN size all = H ∧ all.length ≤ 2 * size + 258
def StepH (w : World) (g B size : Nat) (v : Value) (H : List UInt8) (w' : World) : Prop := ∃ v', WinH w' g B size v' H ∧ (∀ k, v'.ownBlock = some k → v.ownBlock = some k ∨ w.heap.size ≤ k) ∧ Keeps (feet g v) w w'
theorem WinPost.step {w w' : World} {g B size : Nat} {v : Value} {H : List UInt8} (h : WinPost w g B size v H w') : StepH w g B size v H w' := by
  obtain ⟨v', all', h1, h2, h3, h4, h5⟩ := h
  exact ⟨v', ⟨all', h1, h2, h3⟩, h4, h5⟩
theorem WinH.stay {w : World} {g B size : Nat} {v : Value} {H : List UInt8} (h : WinH w g B size v H) (q : Nat) : StepH w g B size v H (w.drewN q) := by
  obtain ⟨all, h1, h2, h3⟩ := h
  exact ⟨v, ⟨all, h1.drewN q, h2, h3⟩, fun k h => .inl h, (Keeps.refl _ _).drewN q⟩
theorem WinH.len {w : World} {g B size : Nat} {v : Value} {H : List UInt8} (h : WinH w g B size v H) : H.length ≤ size := by
  obtain ⟨all, h1, rfl, h3⟩ := h
  rw [lastN_len]; omega
theorem hPut (w : World) (g B size : Nat) (v : Value) (H : List UInt8) (s : ByteArray) (h : WinH w g B size v H) (hs : s.size ≤ 9223372036854775807) :
    Calls Tryz.prog 6 #[.pointer (some ⟨g, 0, none⟩), .string s] w fun e w' => e = .returned (.tuple #[]) ∧ StepH w g B size v (lastN size (H ++ s.data.toList)) w' := by
  obtain ⟨all, h1, rfl, h3⟩ := h
  exact (wnPut w g B size v all s h1 hs h3).mono (by rintro e w' ⟨h4, h5⟩; exact ⟨h4, by rw [← lastN_append]; exact h5.step⟩)
def lastI (n : Int) (H : List UInt8) : List UInt8 := if n < 1 then [] else lastN n.toNat H
theorem hLast (w : World) (g B size : Nat) (v : Value) (H : List UInt8) (n : Int) (h : WinH w g B size v H) : Calls Tryz.prog 7 #[.pointer (some ⟨g, 0, none⟩), .int .i64 n] w fun e w' => e = .returned (.string (sOf (lastI n H))) ∧ ∃ k, w' = w.drewN k := by
  obtain ⟨all, h1, rfl, h3⟩ := h
  unfold lastI
  by_cases hn : n < 1
  · rw [if_pos hn]; exact wnLastFew w g B size v all n h1 hn
  · rw [if_neg hn]
    obtain ⟨m, rfl⟩ : ∃ m : Nat, n = m := ⟨n.toNat, by omega⟩
    rw [Int.toNat_natCast]
    exact wnLast w g B size v all m h1 (by omega) h3
def copyS (H : List UInt8) (n d : Int) : List UInt8 × Int := if n < 0 ∨ 258 < n then ([], 1) else if d < 1 ∨ (H.length : Int) < d then ([], 10) else (toldL d.toNat n.toNat H, 0)
theorem hCopy (w : World) (g B size : Nat) (v : Value) (H : List UInt8) (n d : Int) (h : WinH w g B size v H) (T : List UInt8) (E : Int) (hT : copyS H n d = (T, E)) :
    Calls Tryz.prog 35 #[.pointer (some ⟨g, 0, none⟩), .int .i64 n, .int .i64 d] w fun e w' => e = .returned (.tuple #[.string (sOf T), .int .i64 E]) ∧ StepH w g B size v (lastN size (H ++ T)) w' := by
  have hH := h
  have hHl := h.len
  obtain ⟨all, h1, rfl, h3⟩ := h
  unfold copyS at hT
  by_cases c1 : n < 0 ∨ 258 < n
  · rw [if_pos c1] at hT
    obtain ⟨rfl, rfl⟩ := by simpa using hT
    rw [List.append_nil, lastN_lastN _ _ _ (Nat.le_refl _)]
    exact (wnCopyArg _ n d w c1).mono (by rintro e w' ⟨h4, rfl⟩; exact ⟨h4, hH.stay 0⟩)
  · rw [if_neg c1] at hT
    by_cases c2 : d < 1 ∨ ((lastN size all).length : Int) < d
    · rw [if_pos c2] at hT
      obtain ⟨rfl, rfl⟩ := by simpa using hT
      rw [List.append_nil, lastN_lastN _ _ _ (Nat.le_refl _)]
      exact (wnCopyTok w g B size v all n d (by omega) h1 c2).mono (by rintro e w' ⟨h4, q, rfl⟩; exact ⟨h4, hH.stay q⟩)
    · rw [if_neg c2] at hT
      obtain ⟨N, rfl⟩ : ∃ m : Nat, n = m := ⟨n.toNat, by omega⟩
      obtain ⟨D, rfl⟩ : ∃ m : Nat, d = m := ⟨d.toNat, by omega⟩
      rw [Int.toNat_natCast, Int.toNat_natCast] at hT
      obtain ⟨rfl, rfl⟩ := by simpa using hT
      rw [← lastN_append]
      by_cases h0 : N = 0
      · subst h0
        refine (wnCopyZero w g B size v all D h1 h3 (by omega) (by omega)).mono ?_
        rintro e w' ⟨h4, h5⟩
        have e0 : toldL D 0 (lastN size all) = [] := by unfold toldL; simp [copyL]
        rw [e0, List.append_nil]
        exact ⟨h4, h5.step⟩
      · refine (wnCopyIn w g B size v all N D (by omega) (by omega) h1 h3 (by omega) (by omega)).mono ?_
        rintro e w' ⟨h4, h5⟩
        rw [← toldL_lastN D N size all (by omega) (by omega)]
        exact ⟨h4, h5.step⟩
theorem StepH.later {w w' : World} {g B size : Nat} {v : Value} {H : List UInt8} (h : StepH w g B size v H w') (q : Nat) : StepH w g B size v H (w'.drewN q) := by
  obtain ⟨v', ⟨all, h1, h2, h3⟩, h4, h5⟩ := h
  exact ⟨v', ⟨all, h1.drewN q, h2, h3⟩, h4, h5.drewN q⟩
/-- A step behind a step. -/
theorem StepH.then {w w1 w2 : World} {g B size : Nat} {v v1 : Value} {H2 : List UInt8} (hf : ∀ k, v1.ownBlock = some k → v.ownBlock = some k ∨ w.heap.size ≤ k) (hk : Keeps (feet g v) w w1) (h : StepH w1 g B size v1 H2 w2) : StepH w g B size v H2 w2 := by
  obtain ⟨v', h1, h4, h5⟩ := h
  have hs := hk.size
  refine ⟨v', h1, fun k hk' => ?_, hk.trans' h5 (fun j hj hs => ?_)⟩
  · rcases h4 k hk' with h | h
    · exact hf k h
    · right; omega
  · rcases hs with rfl | hs
    · exact .inl rfl
    · rcases hf j hs with h2 | h2
      · exact .inr h2
      · omega
theorem StepH.below {w0 w w' : World} {g B size n : Nat} {v : Value} {H : List UInt8} (h : StepH w g B size v H w') (hb : Below n w0 w) (hn : n ≤ w.heap.size) (hg : n ≤ g) (hv : ∀ k, v.ownBlock = some k → n ≤ k) : Below n w0 w' ∧ ∀ v' : Value, (∀ k, v'.ownBlock = some k → v.ownBlock = some k ∨ w.heap.size ≤ k) → ∀ k, v'.ownBlock = some k → n ≤ k := by
  obtain ⟨v', h1, h4, h5⟩ := h
  refine ⟨hb.trans (h5.below (fun k hk => ⟨by omega, fun e => ?_⟩)), fun v2 h2 k hk => ?_⟩
  · rcases e with rfl | e
    · omega
    · have := hv k e; omega
  · rcases h2 k hk with h | h
    · exact hv k h
    · omega
/-- A window of the call's own, behind its making. -/
def Mine (w0 w : World) (size : Nat) (H : List UInt8) : Prop := ∃ v, WinH w w0.heap.size w0.heap.size size v H ∧ (∀ k, v.ownBlock = some k → w0.heap.size ≤ k) ∧ Below w0.heap.size w0 w
theorem mine_new {w w' : World} {n : Nat} (h : Win w' w.heap.size w.heap.size n (.slice none 0 0) []) (hb : Below w.heap.size w w') : Mine w w' n [] :=
  ⟨_, ⟨[], h, by unfold lastN; simp, by simp⟩, fun k e => by simp [Value.ownBlock] at e, hb⟩
theorem Mine.drewN {w0 w : World} {size : Nat} {H : List UInt8} (h : Mine w0 w size H) (q : Nat) : Mine w0 (w.drewN q) size H := by
  obtain ⟨v, ⟨all, h1, h2, h3⟩, h4, h5⟩ := h
  exact ⟨v, ⟨all, h1.drewN q, h2, h3⟩, h4, below_dn h5 q⟩
theorem mine_step {w0 w w' : World} {size : Nat} {v : Value} {H' : List UInt8} (hv : ∀ k, v.ownBlock = some k → w0.heap.size ≤ k) (hb : Below w0.heap.size w0 w) (h : StepH w w0.heap.size w0.heap.size size v H' w') : Mine w0 w' size H' := by
  obtain ⟨h6, h7⟩ := h.below hb hb.size (Nat.le_refl _) hv
  obtain ⟨v', h1, h4, h5⟩ := h
  exact ⟨v', h1, h7 v' h4, h6⟩
theorem mPut (w0 w : World) (size : Nat) (H : List UInt8) (s : ByteArray) (h : Mine w0 w size H) (hs : s.size ≤ 9223372036854775807) (H' : List UInt8) (hH : lastN size (H ++ s.data.toList) = H') :
    Calls Tryz.prog 6 #[.pointer (some ⟨w0.heap.size, 0, none⟩), .string s] w fun e w' => e = .returned (.tuple #[]) ∧ Mine w0 w' size H' := by
  obtain ⟨v, h1, h2, h3⟩ := h
  subst hH
  exact (hPut w _ _ size v H s h1 hs).mono (by rintro e w' ⟨h4, h5⟩; exact ⟨h4, mine_step h2 h3 h5⟩)
theorem mLast (w0 w : World) (size : Nat) (H : List UInt8) (n : Int) (h : Mine w0 w size H) (T : List UInt8) (hT : lastI n H = T) : Calls Tryz.prog 7 #[.pointer (some ⟨w0.heap.size, 0, none⟩), .int .i64 n] w fun e w' => e = .returned (.string (sOf T)) ∧ Mine w0 w' size H := by
  have hm := h
  obtain ⟨v, h1, h2, h3⟩ := h
  subst hT
  exact (hLast w _ _ size v H n h1).mono (by rintro e w' ⟨h4, q, rfl⟩; exact ⟨h4, hm.drewN q⟩)
end Go.Proofs.YtipcdkemokkdfaaGreat

/- Rows that came of a string: they bear a mark beyond their cells. -/
namespace Go.Proofs.YtipcdkemokkdfaaGreat
open Go.ChangeShapes Go.WideShapes Go.ChangeAt Go.RowKit
set_option linter.unusedVariables false
set_option maxRecDepth 100000
theorem marked_set2 {w : World} {g : Nat} {cs : Array Value} {t : TypeId} {fr : Nat × Nat} (hg : w.heap[g]? = some (.cells cs t fr)) (j : Nat) (u : Value) : (w.setCell ⟨g, j, none⟩ u).heap[g]? = some (.cells (cs.setIfInBounds j u) t fr) := by
  rw [setCell_eq_setRow _ g j cs t fr u hg]
  exact setRow_heap _ _ _ _ _ _ hg
/-- A row of bytes of the call's own, whatever mark it bears beyond its cells. -/
def OwnM (B : Nat) (w : World) (v : Value) (l : List UInt8) : Prop :=
  ∃ g cap cur lo hi, v = .slice (some ⟨g, 0, none⟩) l.length cap ∧ B ≤ g ∧ w.heap[g]? = some (.cells cur 5 (lo, hi)) ∧ (cap ≤ lo ∨ hi = 0) ∧ l.length ≤ cap ∧ cap ≤ maxLen ∧ cur.size = cap ∧ cur.toList.take l.length = cells8 l
theorem OwnM.cell {B : Nat} {w : World} {g n cap : Nat} {l : List UInt8} (h : OwnM B w (.slice (some ⟨g, 0, none⟩) n cap) l) (j : Nat) (hj : j < l.length) : w.cell? ⟨g, j, none⟩ = some (.int .u8 ((l.getD j 0).toNat : Int)) := by
  obtain ⟨g', cap', cur, lo, hi, hv, hB, hg, hlo, hn, hm, hs, ht⟩ := h
  simp only [Value.slice.injEq, Option.some.injEq, Addr.mk.injEq, true_and, and_true] at hv
  obtain ⟨rfl, rfl, rfl⟩ := hv
  rw [cell_in hg]
  have h1 : (cells8 l)[j]? = cur[j]? := by rw [← ht, List.getElem?_take_of_lt hj, Array.getElem?_toList]
  rw [← h1]
  unfold cells8
  simp [List.getD_eq_getElem?_getD, hj]
theorem OwnM.kept {B : Nat} {w w' : World} {v : Value} {l : List UInt8} (h : OwnM B w v l) (hb : Below w.heap.size w w') : OwnM B w' v l := by
  obtain ⟨g, cap, cur, lo, hi, hv, hB, hg, hr⟩ := h
  exact ⟨g, cap, cur, lo, hi, hv, hB, (Keeps.of_below (S := fun _ => False) hb).heap hg (fun h => h), hr⟩
theorem OwnM.form {B : Nat} {w : World} {v : Value} {l : List UInt8} (h : OwnM B w v l) : ∃ g cap, v = .slice (some ⟨g, 0, none⟩) l.length cap ∧ B ≤ g ∧ g < w.heap.size ∧ l.length ≤ cap ∧ cap ≤ maxLen := by
  obtain ⟨g, cap, cur, lo, hi, hv, hB, hg, hlo, hn, hm, hs, ht⟩ := h
  exact ⟨g, cap, hv, hB, block_lt hg, hn, hm⟩
theorem bytesRow_size (s : ByteArray) (c : Nat) (h : s.size ≤ c) : (bytesRow s c).size = c := by
  have h2 : s.data.size = s.size := rfl
  unfold bytesRow; simp; omega
theorem ownM_conv (w : World) (s : ByteArray) (hs : s.size ≤ 1000000000) : OwnM w.heap.size (w.drew.alloc (.cells (bytesRow s (grownCap w s.size 0 5)) 5 ((bytesRow s (grownCap w s.size 0 5)).size, (bytesRow s (grownCap w s.size 0 5)).size + 1))) (.slice (some ⟨w.heap.size, 0, none⟩) s.data.toList.length (grownCap w s.size 0 5)) s.data.toList := by
  have hl : s.data.toList.length = s.size := by simp
  have hge := grownCap_ge w s.size 0 5
  refine ⟨w.heap.size, _, _, _, _, rfl, Nat.le_refl _, heap_alloc_new w.drew _, ?_, by omega, ?_, bytesRow_size s _ hge, ?_⟩
  · rw [bytesRow_size s _ hge]; exact .inl (Nat.le_refl _)
  · exact grownCap_le_maxLen w s.size 0 5 (by unfold maxLen; omega)
  · rw [hl]
    unfold bytesRow cells8
    rw [Array.toList_append, List.take_append_of_le_length (by simp [hl]), List.take_of_length_le (by simp [hl])]
    simp
theorem app_marked {P : Program} {X : World} {ops : Array Oper} {rest : List Oper} {o : Oper} {a : Act} {Q : Exit → Act → World → Prop} (hgd : o.guard = none) (s x : Operand) (t : TypeId)
    (ho : o.op = .call { callee := .builtin .append, args := #[s, x], argTypes := #[t, t] }) (i : TypeInfo) (ht : P.underlying t = some (.slice 5)) (hi : P.info? 5 = some i) (hz : i.zero = some (.int .u8 0)) (hsize : i.size = 1) (hby : i.bytes = 1)
    (B T : Nat) (v : Value) (l : List UInt8) (b : UInt8) (hs : a.eval s = v) (hown : OwnM B X v l) (g1 c1 : Nat) (hg1 : X.heap.size = g1) (hx : a.eval x = .slice (some ⟨g1, 0, none⟩) 1 c1) (hl : l.length ≤ 1000000000) (hB : B ≤ X.heap.size)
    (h : ∀ v' w', OwnM B w' v' (l ++ [b]) → Below B X w' → wpList P ops Q rest (a.put o.dst v') w') : wpList P ops Q (o :: rest) a (X.alloc (.cells #[.int .u8 (b.toNat : Int)] T)) := by
  subst hg1
  refine wpList_plain hgd fun K hK => ?_
  have hnew : ∀ j u, [Value.int .u8 (b.toNat : Int)][j]? = some u → (X.alloc (.cells #[.int .u8 (b.toNat : Int)] T)).cell? ((⟨X.heap.size, 0, none⟩ : Addr).add j) = some u := cell_new1 X _ T _ rfl
  obtain ⟨g, cap, cur, lo, hi2, rfl, hBg, hg, hlo, hn, hm, hcs, htk⟩ := hown
  have hgl := block_lt hg
  have hg' : (X.alloc (.cells #[.int .u8 (b.toNat : Int)] T)).heap[g]? = some (.cells cur 5 (lo, hi2)) := heap_old hg _
  have hbX : Below B X (X.alloc (.cells #[.int .u8 (b.toNat : Int)] T)) := (Below.refl B X).alloc hB _
  by_cases hroom : l.length + 1 ≤ cap
  · have hr := run_append_room_cells (P := P) (X.alloc (.cells #[.int .u8 (b.toNat : Int)] T)) t o.type 5 i ht hi g 0 l.length cap ⟨X.heap.size, 0, none⟩ 1 c1 [.int .u8 (b.toNat : Int)] (by rw [hsize]; rfl) hnew (by intro u hu; simp at hu; subst hu; rfl) hroom
      (fun j hj => by
        have hj0 : j = 0 := by simpa using hj
        subst hj0
        rw [cell_in hg', hsize]
        simp; omega)
      (fun j hj => by
        have hj0 : j = 0 := by simpa using hj
        subst hj0
        rw [hsize]
        simp [World.frozen?, hg']
        omega)
    unfold Oper.wp execOp
    simp only [ho, resolve, invoke, builtin, Sem.run_bind, Sem.run_pure, Result.andThen_ok, List.map_toArray, List.map_cons, List.map_nil, hs, hx, hr]
    refine hK _ _ (h _ _ ?_ ?_)
    · have hset : ((X.alloc (.cells #[.int .u8 (b.toNat : Int)] T)).setCells g (0 + l.length * i.size) [.int .u8 (b.toNat : Int)]) = (X.alloc (.cells #[.int .u8 (b.toNat : Int)] T)).setCell ⟨g, l.length, none⟩ (.int .u8 (b.toNat : Int)) := by rw [hsize]; simp [World.setCells]
      rw [hset]
      refine ⟨g, cap, _, lo, hi2, by simp, hBg, marked_set2 hg' _ _, hlo, by simp; omega, hm, by simp [hcs], ?_⟩
      rw [← cells8_snoc, ← htk, List.length_append, Array.toList_setIfInBounds]
      simp only [List.length_cons, List.length_nil, Nat.zero_add]
      rw [List.take_succ_eq_append_getElem (by simp [hcs]; omega)]
      congr 1
      · rw [List.take_set_of_le (Nat.le_refl _)]
      · simp
    · rw [hsize]
      simp only [World.setCells]
      exact hbX.setCell (by simpa using hBg) _
  · have hlen : (cells8 l).length = l.length := cells8_len l
    have holds : ∀ j u, (cells8 l)[j]? = some u → (X.alloc (.cells #[.int .u8 (b.toNat : Int)] T)).cell? ((⟨g, 0, none⟩ : Addr).add j) = some u := by
      intro j u hj
      have hjl : j < l.length := by have := (List.getElem?_eq_some_iff.1 hj).1; omega
      have e1 : ((⟨g, 0, none⟩ : Addr).add j) = ⟨g, j, none⟩ := by unfold Addr.add; split <;> simp_all
      rw [e1, cell_in hg', ← hj, ← htk, List.getElem?_take_of_lt hjl, Array.getElem?_toList]
    have hr := run_append_grow (P := P) (X.alloc (.cells #[.int .u8 (b.toNat : Int)] T)) t o.type 5 i (.int .u8 0) ht hi hz ⟨g, 0, none⟩ l.length cap (cells8 l) (by rw [hsize, hlen]; omega) holds ⟨X.heap.size, 0, none⟩ 1 c1 [.int .u8 (b.toNat : Int)] (by rw [hsize]; rfl) hnew (by omega) (by omega) (by rw [hby]; exact growslice_fits (by omega) (by omega))
    unfold Oper.wp execOp
    simp only [ho, resolve, invoke, builtin, Sem.run_bind, Sem.run_pure, Result.andThen_ok, List.map_toArray, List.map_cons, List.map_nil, hs, hx, hr]
    refine hK _ _ (h _ _ ?_ ?_)
    · have hge := grownCap_ge (X.alloc (.cells #[.int .u8 (b.toNat : Int)] T)) (l.length + 1) cap 5
      have hgm := grownCap_le_maxLen (X.alloc (.cells #[.int .u8 (b.toNat : Int)] T)) (l.length + 1) cap 5 (by unfold maxLen; omega)
      refine ⟨_, _, _, 0, 0, by simp, by simp; omega, heap_alloc_new (X.alloc (.cells #[.int .u8 (b.toNat : Int)] T)).drew _, .inr rfl, by simp; omega, hgm, ?_, ?_⟩
      · have hz1 : (Value.int IntKind.u8 0).cells.size = 1 := rfl
        simp only [Array.size_append, List.size_toArray, size_zeroCells, hz1, hlen, List.length_cons, List.length_nil]
        omega
      · rw [← cells8_snoc]
        simp only [Array.toList_append, List.append_assoc]
        rw [← List.append_assoc, List.length_append]
        have e : (cells8 l ++ [Value.int .u8 (b.toNat : Int)]).length = l.length + [b].length := by simp [hlen]
        rw [← e]
        exact List.take_left
    · exact hbX.drew.alloc (by simp; omega) _
end Go.Proofs.YtipcdkemokkdfaaGreat

/- Layer 29: two windows; the law's own last. -/
namespace Go.Proofs.YtipcdkemokkdfaaGreat
open Go.ChangeShapes Go.WideShapes Go.ChangeAt Go.RowKit
set_option linter.unusedVariables false
set_option maxRecDepth 100000
theorem WinH.keep {S : Nat → Prop} {w w' : World} {g B size : Nat} {v : Value} {H : List UInt8} (h : WinH w g B size v H) (hk : Keeps S w w') (hd : ∀ k, feet g v k → ¬ S k) : WinH w' g B size v H := by
  obtain ⟨all, ⟨h1, h2, h3, h4⟩, h5, h6⟩ := h
  exact ⟨all, ⟨hk.heap h1 (hd g (.inl rfl)), hk.ownsRow h2 (fun k e => hd k (.inr e)), Nat.le_trans h3 hk.size, h4⟩, h5, h6⟩
theorem WinH.feet_lt {w : World} {g B size : Nat} {v : Value} {H : List UInt8} (h : WinH w g B size v H) : ∀ k, feet g v k → k < w.heap.size := by
  obtain ⟨all, h1, h5, h6⟩ := h
  rintro k (rfl | e)
  · exact h1.lt
  · exact (h1.2.1.lt k e).2
def TwoW (w0 w : World) (ga gb size : Nat) (Ha Hb : List UInt8) : Prop :=
  ∃ va vb, WinH w ga w0.heap.size size va Ha ∧ WinH w gb w0.heap.size size vb Hb ∧ (∀ k, feet ga va k → w0.heap.size ≤ k) ∧ (∀ k, feet gb vb k → w0.heap.size ≤ k) ∧ (∀ k, feet ga va k → ¬ feet gb vb k) ∧ Below w0.heap.size w0 w
theorem TwoW.symm {w0 w : World} {ga gb size : Nat} {Ha Hb : List UInt8} (h : TwoW w0 w ga gb size Ha Hb) : TwoW w0 w gb ga size Hb Ha := by
  obtain ⟨va, vb, h1, h2, h3, h4, h5, h6⟩ := h
  exact ⟨vb, va, h2, h1, h4, h3, fun k hb ha => h5 k ha hb, h6⟩
end Go.Proofs.YtipcdkemokkdfaaGreat

/- Layer 18, the document's: Copy. -/
namespace Go.Proofs.YtipcdkemokkdfaaGreat
open Go.ChangeShapes Go.WideShapes Go.ChangeAt Go.RowKit
set_option linter.unusedVariables false
set_option maxRecDepth 100000
theorem conv_marked {P : Program} {w : World} {B : Nat} {src dst e : TypeId} {v : Value} {l : List UInt8} (hs : P.underlying src = some (.slice e)) (he : P.underlying e = some (.int .u8)) (hd : P.underlying dst = some .string)
    (h : OwnM B w v l) : (convert src dst v).run P w = .ok (.string (sOf l)) w := by
  obtain ⟨g, cap, rfl, -⟩ := h.form
  refine run_convert_bytes_back (P := P) w src dst e ⟨g, 0, none⟩ cap l hs he hd (fun j hj => ?_)
  have e2 : (⟨g, 0, none⟩ : Addr).add j = ⟨g, j, none⟩ := by unfold Addr.add; split <;> simp_all
  rw [e2, h.cell j hj, getD_lt _ _ hj]
end Go.Proofs.YtipcdkemokkdfaaGreat
