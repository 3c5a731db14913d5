/- Layer 6: one length parted in two. -/
import Derived.Test.YtmpmioffngonjaaKv
namespace Go.Proofs.Ytmpmioffngonjaa
open Go.ChangeShapes Go.WideShapes Go.ChangeAt Go.RowKit Go.Deep
set_option linter.unusedVariables false
set_option maxRecDepth 100000
theorem infoI : (Try.prog.info? 3).map (fun i => (i.zero, i.size, i.bytes)) = some (some (.int .i64 0), 1, 8) := by kernel_rfl
theorem own_cell {w : World} {base : Nat} {e : TypeId} {g n cap : Nat} {xs : List Value} (h : w.ownsRow base e 1 (.slice (some ⟨g, 0, none⟩) n cap) n xs) (K : Nat) (z : Int) (hz : xs[K]? = some (.int .i64 z)) : w.cell? ⟨g, K, none⟩ = some (.int .i64 z) := by
  have hlt : K < xs.length := (List.getElem?_eq_some_iff.1 hz).1
  rw [h.cellAt K (by have := h.1; omega)]; exact hz
theorem own_free {w : World} {base : Nat} {e : TypeId} {g n cap : Nat} {xs : List Value} (h : w.ownsRow base e 1 (.slice (some ⟨g, 0, none⟩) n cap) n xs) (K : Nat) : w.frozen? ⟨g, K, none⟩ = false := h.frozenAt K
theorem ne_block (x : Addr) (K k : Nat) (h : x.block ≠ k) : ¬ (x.add K = ⟨k, K, none⟩) := by
  intro e
  have := congrArg Addr.block e
  rw [add_block] at this
  exact h this
set_option maxHeartbeats 6400000 in
theorem main_m1 (x : Addr) (cap0 : Nat) (l : List Int) (a1 a2 : Int) (w : World) (p0 : 0 ≤ a1) (p1 : a1 ≤ 255) (q0 : 0 ≤ a2) (q1 : a2 ≤ 255) (M : Nat) (hM : a1 % 16 = M) (hMM : M < 15) (hl : ¬ 200 < l.length) (hI : IsInts w (some x) l) (hR : KraftMath.check l ((M : Int) + 1) = 0) (hR2 : M < 15 → KraftMath.check l ((M : Int) + 1 + 1) = 0) (K : Nat) (hK : a2 % (l.length : Int) = K) (hKl : K < l.length) (z : Int) (hz : w.cell? (x.add K) = some (.int .i64 z)) (hzz : l.getD K 0 = z) (z0 : z ≠ 0) (z1 : z ≠ (M : Int) + 1) (zb : 0 ≤ z ∧ z ≤ 16) (F : Int) (hF : KraftMath.check (KraftMath.parted l K) ((M : Int) + 1) = F) (U : Nat) (hU : KraftMath.used l = U) (hUF : if U = 1 then F = 6 else F = 0) (hU1 : U = 1) :
    Calls Try.prog 4 #[.slice (some x) l.length cap0, .int .u8 a1, .int .u8 a2] w fun e w' => e = .returned (.bool true) ∧ Below w.heap.size w w' := by
  obtain ⟨obtI, hxb, hc⟩ : ∃ _ : True, x.block < w.heap.size ∧ ∀ i, i < l.length → w.cell? (x.add i) = some (.int .i64 (l.getD i 0)) := by
    obtain ⟨y, hy, h1, h2⟩ := ints_some hI (by rintro rfl; simp at hKl)
    cases hy
    exact ⟨trivial, h1, h2⟩
  have HC := Lib.hid (ints_cells hc)
  have HIs := Lib.hid hI
  have HP := Lib.hid (show l.set K (z + 1) ++ [z + 1] = KraftMath.parted l K by rw [← hzz]; exact set_parted l K hKl)
  have C1 := kCheck_any (some x) cap0 ((M : Int) + 1) l w hI
  rw [hR] at C1
  have C1 := Lib.hid C1
  have C2 := fun k => kCheck_any (some x) cap0 ((M : Int) + 1 + 1) l (w.drewN k) hI
  simp only [hR2 hMM] at C2
  have C2 := Lib.hid C2
  have HF := Lib.hid hF
  have HU := Lib.hid hU
  clear hI hR hR2 hc hF hU
  have e0 : (z == 0) = false := by rw [beq_eq_false_iff_ne]; exact z0
  have e1 : (z == (M : Int) + 1) = false := by rw [beq_eq_false_iff_ne]; exact z1
  obtain ⟨i0, hi, hi0, hi1, hi2⟩ : ∃ i, Try.prog.info? 3 = some i ∧ i.zero = some (.int .i64 0) ∧ i.size = 1 ∧ i.bytes = 8 := by
    have h := infoI
    rcases hq : Try.prog.info? 3 with _ | i
    · rw [hq] at h; simp at h
    · rw [hq] at h; simp at h; exact ⟨i, rfl, h.1, h.2.1, h.2.2⟩
  go_enter Try.func4, Try.ntmps4
  go_wp2_with fail
  refine C1.out.mono ?_; rintro e w1 ⟨rfl, k1, rfl⟩
  go_wp2_with fail
  refine (C2.out _).mono ?_; rintro e w1 ⟨rfl, k2, rfl⟩
  go_wp2_with (refine wpList_append_at _ rfl (.tmp 52) (.tmp 53) 22 rfl w.heap.size 3 i0 (.int .i64 0) 8 Try.underlying22 hi hi0 hi1 hi2 rfl (.slice none 0 0) 0 [] rfl (World.ownsRow_nil _ _ _ _) x l.length cap0 (intCells l) rfl ?_ ?_ ?_ ?_ ?_ (Nat.le_refl _) ?_ ?_)
  · unfold intCells; simp
  · exact HC.out
  · exact intCells_one l
  · unfold maxLen; omega
  · omega
  · omega
  intro k cap w2 hown hgrow hk
  have cx : w2.cell? (x.add K) = some (.int .i64 z) := hgrow.cell hz (by simp [Value.ownBlock])
  have hk : k = w.heap.size := by simpa [Value.ownBlock] using hk
  have HB := Lib.hid ((below_drewN (Below.refl w.heap.size w) (k1 + k2)).grown hgrow (Nat.le_refl _) (by simp [Value.ownBlock]))
  have HO := Lib.hid hown
  clear hown hgrow
  have cm := own_cell HO.out K z (by simp [intCells, hKl]; rw [← hzz]; simp [hKl])
  have fm := own_free HO.out K
  have hxne : ¬ (x.add K = ⟨k, K, none⟩) := ne_block x K k (by omega)
  have hxne2 : ¬ (⟨k, K, none⟩ = x.add K) := fun h => hxne h.symm
  have HK := Lib.hid hk
  clear hk
  have cx2 : ∀ u, (w2.setCell ⟨k, K, none⟩ u).cell? (x.add K) = some (.int .i64 z) := fun u => by
    rw [World.cell?_of_block (w := w2) (Below.heap_setCell _ _ _ _ (by rw [add_block]; have := HK.out; simp only; omega))]; exact cx
  go_wp2_with (refine wpList_append_at _ rfl (.tmp 63) (.tmp 69) 22 rfl w.heap.size 3 i0 (.int .i64 0) 8 Try.underlying22 hi hi0 hi1 hi2 rfl (.slice (some ⟨k, 0, none⟩) l.length cap) l.length ((intCells l).set K (.int .i64 (z + 1))) rfl ((HO.out.stored K (.int .i64 (z + 1))).1.alloc _) ⟨w2.heap.size, 0, none⟩ 1 1 [.int .i64 (z + 1)] rfl rfl ?_ ?_ ?_ ?_ ?_ ?_ ?_)
  · exact cell_new1 _ _ _ _ (by simp)
  · simp [Value.oneCell']
  · unfold maxLen; omega
  · omega
  · have := HB.out.size; simp; omega
  · decide
  have hkk := HK.out
  have HB2 := HB.out.setCell (p := ⟨k, K, none⟩) (by simp only; omega) (.int .i64 (z + 1))
  have hsz := HB.out.size
  intro g cap2 w3 hown3 hgrow3 hk3
  have HB3 := (HB2.alloc (by simpa using hsz) _).grown hgrow3 (by simp; omega) (by simp [Value.ownBlock]; omega)
  clear HB2 hgrow3 hk3 cx2 cx cm fm
  rw [intCells_set, intCells_snoc, HP.out] at hown3
  have hlen : (KraftMath.parted l K).length ≤ 1100 := by rw [← HP.out]; simp; omega
  have C3 := kUsed (some x) cap0 l w3 (ints_kept HIs.out HB3)
  rw [HU.out, hU1] at C3
  have C3 : Calls Try.prog 16 #[.slice (some x) l.length cap0] w3 fun e w' => e = .returned (.int .i64 1) ∧ w' = w3 := C3
  have C4 := check_own w3 _ _ g (l.length + 1) cap2 _ ((M : Int) + 1) 6 hown3 hlen (HF.out.trans (by rw [if_pos hU1] at hUF; exact hUF))
  have C3 := Lib.hid C3
  have C4 := Lib.hid C4
  have HB3 := Lib.hid HB3
  clear hown3 hkk hsz
  go_wp2_with fail
  refine C3.out.mono ?_; rintro e w4 ⟨rfl, rfl⟩
  go_wp2_with fail
  refine C4.out.mono ?_; rintro e w4 ⟨rfl, k4, rfl⟩
  go_wp2_with fail
  refine (awake06 _).mono ?_; rintro e w5 ⟨rfl, hb⟩
  go_wp2_with fail
  go_ret
  exact ⟨rfl, (below_drewN HB3.out _).trans (hb.mono (by have := HB3.out.size; simpa using this))⟩
set_option maxHeartbeats 6400000 in
theorem main_m0 (x : Addr) (cap0 : Nat) (l : List Int) (a1 a2 : Int) (w : World) (p0 : 0 ≤ a1) (p1 : a1 ≤ 255) (q0 : 0 ≤ a2) (q1 : a2 ≤ 255) (M : Nat) (hM : a1 % 16 = M) (hMM : M < 15) (hl : ¬ 200 < l.length) (hI : IsInts w (some x) l) (hR : KraftMath.check l ((M : Int) + 1) = 0) (hR2 : M < 15 → KraftMath.check l ((M : Int) + 1 + 1) = 0) (K : Nat) (hK : a2 % (l.length : Int) = K) (hKl : K < l.length) (z : Int) (hz : w.cell? (x.add K) = some (.int .i64 z)) (hzz : l.getD K 0 = z) (z0 : z ≠ 0) (z1 : z ≠ (M : Int) + 1) (zb : 0 ≤ z ∧ z ≤ 16) (F : Int) (hF : KraftMath.check (KraftMath.parted l K) ((M : Int) + 1) = F) (U : Nat) (hU : KraftMath.used l = U) (hUF : if U = 1 then F = 6 else F = 0) (hU1 : (U : Int) ≠ 1) :
    Calls Try.prog 4 #[.slice (some x) l.length cap0, .int .u8 a1, .int .u8 a2] w fun e w' => e = .returned (.bool true) ∧ Below w.heap.size w w' := by
  obtain ⟨obtI, hxb, hc⟩ : ∃ _ : True, x.block < w.heap.size ∧ ∀ i, i < l.length → w.cell? (x.add i) = some (.int .i64 (l.getD i 0)) := by
    obtain ⟨y, hy, h1, h2⟩ := ints_some hI (by rintro rfl; simp at hKl)
    cases hy
    exact ⟨trivial, h1, h2⟩
  have HC := Lib.hid (ints_cells hc)
  have HIs := Lib.hid hI
  have HP := Lib.hid (show l.set K (z + 1) ++ [z + 1] = KraftMath.parted l K by rw [← hzz]; exact set_parted l K hKl)
  have C1 := kCheck_any (some x) cap0 ((M : Int) + 1) l w hI
  rw [hR] at C1
  have C1 := Lib.hid C1
  have C2 := fun k => kCheck_any (some x) cap0 ((M : Int) + 1 + 1) l (w.drewN k) hI
  simp only [hR2 hMM] at C2
  have C2 := Lib.hid C2
  have HF := Lib.hid hF
  have HU := Lib.hid hU
  clear hI hR hR2 hc hF hU
  have e0 : (z == 0) = false := by rw [beq_eq_false_iff_ne]; exact z0
  have e1 : (z == (M : Int) + 1) = false := by rw [beq_eq_false_iff_ne]; exact z1
  obtain ⟨i0, hi, hi0, hi1, hi2⟩ : ∃ i, Try.prog.info? 3 = some i ∧ i.zero = some (.int .i64 0) ∧ i.size = 1 ∧ i.bytes = 8 := by
    have h := infoI
    rcases hq : Try.prog.info? 3 with _ | i
    · rw [hq] at h; simp at h
    · rw [hq] at h; simp at h; exact ⟨i, rfl, h.1, h.2.1, h.2.2⟩
  go_enter Try.func4, Try.ntmps4
  go_wp2_with fail
  refine C1.out.mono ?_; rintro e w1 ⟨rfl, k1, rfl⟩
  go_wp2_with fail
  refine (C2.out _).mono ?_; rintro e w1 ⟨rfl, k2, rfl⟩
  go_wp2_with (refine wpList_append_at _ rfl (.tmp 52) (.tmp 53) 22 rfl w.heap.size 3 i0 (.int .i64 0) 8 Try.underlying22 hi hi0 hi1 hi2 rfl (.slice none 0 0) 0 [] rfl (World.ownsRow_nil _ _ _ _) x l.length cap0 (intCells l) rfl ?_ ?_ ?_ ?_ ?_ (Nat.le_refl _) ?_ ?_)
  · unfold intCells; simp
  · exact HC.out
  · exact intCells_one l
  · unfold maxLen; omega
  · omega
  · omega
  intro k cap w2 hown hgrow hk
  have cx : w2.cell? (x.add K) = some (.int .i64 z) := hgrow.cell hz (by simp [Value.ownBlock])
  have hk : k = w.heap.size := by simpa [Value.ownBlock] using hk
  have HB := Lib.hid ((below_drewN (Below.refl w.heap.size w) (k1 + k2)).grown hgrow (Nat.le_refl _) (by simp [Value.ownBlock]))
  have HO := Lib.hid hown
  clear hown hgrow
  have cm := own_cell HO.out K z (by simp [intCells, hKl]; rw [← hzz]; simp [hKl])
  have fm := own_free HO.out K
  have hxne : ¬ (x.add K = ⟨k, K, none⟩) := ne_block x K k (by omega)
  have hxne2 : ¬ (⟨k, K, none⟩ = x.add K) := fun h => hxne h.symm
  have HK := Lib.hid hk
  clear hk
  have cx2 : ∀ u, (w2.setCell ⟨k, K, none⟩ u).cell? (x.add K) = some (.int .i64 z) := fun u => by
    rw [World.cell?_of_block (w := w2) (Below.heap_setCell _ _ _ _ (by rw [add_block]; have := HK.out; simp only; omega))]; exact cx
  go_wp2_with (refine wpList_append_at _ rfl (.tmp 63) (.tmp 69) 22 rfl w.heap.size 3 i0 (.int .i64 0) 8 Try.underlying22 hi hi0 hi1 hi2 rfl (.slice (some ⟨k, 0, none⟩) l.length cap) l.length ((intCells l).set K (.int .i64 (z + 1))) rfl ((HO.out.stored K (.int .i64 (z + 1))).1.alloc _) ⟨w2.heap.size, 0, none⟩ 1 1 [.int .i64 (z + 1)] rfl rfl ?_ ?_ ?_ ?_ ?_ ?_ ?_)
  · exact cell_new1 _ _ _ _ (by simp)
  · simp [Value.oneCell']
  · unfold maxLen; omega
  · omega
  · have := HB.out.size; simp; omega
  · decide
  have hkk := HK.out
  have HB2 := HB.out.setCell (p := ⟨k, K, none⟩) (by simp only; omega) (.int .i64 (z + 1))
  have hsz := HB.out.size
  intro g cap2 w3 hown3 hgrow3 hk3
  have HB3 := (HB2.alloc (by simpa using hsz) _).grown hgrow3 (by simp; omega) (by simp [Value.ownBlock]; omega)
  clear HB2 hgrow3 hk3 cx2 cx cm fm
  rw [intCells_set, intCells_snoc, HP.out] at hown3
  have hlen : (KraftMath.parted l K).length ≤ 1100 := by rw [← HP.out]; simp; omega
  have C3 := kUsed (some x) cap0 l w3 (ints_kept HIs.out HB3)
  rw [HU.out] at C3
  have C3 : Calls Try.prog 16 #[.slice (some x) l.length cap0] w3 fun e w' => e = .returned (.int .i64 (U : Int)) ∧ w' = w3 := C3
  have C4 := check_own w3 _ _ g (l.length + 1) cap2 _ ((M : Int) + 1) 0 hown3 hlen (HF.out.trans (by rw [if_neg (show ¬ U = 1 by omega)] at hUF; exact hUF))
  have C3 := Lib.hid C3
  have C4 := Lib.hid C4
  have HB3 := Lib.hid HB3
  clear hown3 hkk hsz
  have eU : ((U : Int) == 1) = false := by rw [beq_eq_false_iff_ne]; exact hU1
  go_wp2_with fail
  refine C3.out.mono ?_; rintro e w4 ⟨rfl, rfl⟩
  go_wp2_with fail
  refine C4.out.mono ?_; rintro e w4 ⟨rfl, k4, rfl⟩
  go_wp2_with fail
  refine (awake06 _).mono ?_; rintro e w5 ⟨rfl, hb⟩
  go_wp2_with fail
  go_ret
  exact ⟨rfl, (below_drewN HB3.out _).trans (hb.mono (by have := HB3.out.size; simpa using this))⟩
set_option maxHeartbeats 6400000 in
theorem main_l1 (x : Addr) (cap0 : Nat) (l : List Int) (a1 a2 : Int) (w : World) (p0 : 0 ≤ a1) (p1 : a1 ≤ 255) (q0 : 0 ≤ a2) (q1 : a2 ≤ 255) (M : Nat) (hM : a1 % 16 = M) (hMM : 15 ≤ M) (hl : ¬ 200 < l.length) (hI : IsInts w (some x) l) (hR : KraftMath.check l ((M : Int) + 1) = 0) (hR2 : M < 15 → KraftMath.check l ((M : Int) + 1 + 1) = 0) (K : Nat) (hK : a2 % (l.length : Int) = K) (hKl : K < l.length) (z : Int) (hz : w.cell? (x.add K) = some (.int .i64 z)) (hzz : l.getD K 0 = z) (z0 : z ≠ 0) (z1 : z ≠ (M : Int) + 1) (zb : 0 ≤ z ∧ z ≤ 16) (F : Int) (hF : KraftMath.check (KraftMath.parted l K) ((M : Int) + 1) = F) (U : Nat) (hU : KraftMath.used l = U) (hUF : if U = 1 then F = 6 else F = 0) (hU1 : U = 1) :
    Calls Try.prog 4 #[.slice (some x) l.length cap0, .int .u8 a1, .int .u8 a2] w fun e w' => e = .returned (.bool true) ∧ Below w.heap.size w w' := by
  obtain ⟨obtI, hxb, hc⟩ : ∃ _ : True, x.block < w.heap.size ∧ ∀ i, i < l.length → w.cell? (x.add i) = some (.int .i64 (l.getD i 0)) := by
    obtain ⟨y, hy, h1, h2⟩ := ints_some hI (by rintro rfl; simp at hKl)
    cases hy
    exact ⟨trivial, h1, h2⟩
  have HC := Lib.hid (ints_cells hc)
  have HIs := Lib.hid hI
  have HP := Lib.hid (show l.set K (z + 1) ++ [z + 1] = KraftMath.parted l K by rw [← hzz]; exact set_parted l K hKl)
  have C1 := kCheck_any (some x) cap0 ((M : Int) + 1) l w hI
  rw [hR] at C1
  have C1 := Lib.hid C1
  have HF := Lib.hid hF
  have HU := Lib.hid hU
  clear hI hR hR2 hc hF hU
  have e0 : (z == 0) = false := by rw [beq_eq_false_iff_ne]; exact z0
  have e1 : (z == (M : Int) + 1) = false := by rw [beq_eq_false_iff_ne]; exact z1
  obtain ⟨i0, hi, hi0, hi1, hi2⟩ : ∃ i, Try.prog.info? 3 = some i ∧ i.zero = some (.int .i64 0) ∧ i.size = 1 ∧ i.bytes = 8 := by
    have h := infoI
    rcases hq : Try.prog.info? 3 with _ | i
    · rw [hq] at h; simp at h
    · rw [hq] at h; simp at h; exact ⟨i, rfl, h.1, h.2.1, h.2.2⟩
  go_enter Try.func4, Try.ntmps4
  go_wp2_with fail
  refine C1.out.mono ?_; rintro e w1 ⟨rfl, k1, rfl⟩
  go_wp2_with (refine wpList_append_at _ rfl (.tmp 52) (.tmp 53) 22 rfl w.heap.size 3 i0 (.int .i64 0) 8 Try.underlying22 hi hi0 hi1 hi2 rfl (.slice none 0 0) 0 [] rfl (World.ownsRow_nil _ _ _ _) x l.length cap0 (intCells l) rfl ?_ ?_ ?_ ?_ ?_ (Nat.le_refl _) ?_ ?_)
  · unfold intCells; simp
  · exact HC.out
  · exact intCells_one l
  · unfold maxLen; omega
  · omega
  · omega
  intro k cap w2 hown hgrow hk
  have cx : w2.cell? (x.add K) = some (.int .i64 z) := hgrow.cell hz (by simp [Value.ownBlock])
  have hk : k = w.heap.size := by simpa [Value.ownBlock] using hk
  have HB := Lib.hid ((below_drewN (Below.refl w.heap.size w) k1).grown hgrow (Nat.le_refl _) (by simp [Value.ownBlock]))
  have HO := Lib.hid hown
  clear hown hgrow
  have cm := own_cell HO.out K z (by simp [intCells, hKl]; rw [← hzz]; simp [hKl])
  have fm := own_free HO.out K
  have hxne : ¬ (x.add K = ⟨k, K, none⟩) := ne_block x K k (by omega)
  have hxne2 : ¬ (⟨k, K, none⟩ = x.add K) := fun h => hxne h.symm
  have HK := Lib.hid hk
  clear hk
  have cx2 : ∀ u, (w2.setCell ⟨k, K, none⟩ u).cell? (x.add K) = some (.int .i64 z) := fun u => by
    rw [World.cell?_of_block (w := w2) (Below.heap_setCell _ _ _ _ (by rw [add_block]; have := HK.out; simp only; omega))]; exact cx
  go_wp2_with (refine wpList_append_at _ rfl (.tmp 63) (.tmp 69) 22 rfl w.heap.size 3 i0 (.int .i64 0) 8 Try.underlying22 hi hi0 hi1 hi2 rfl (.slice (some ⟨k, 0, none⟩) l.length cap) l.length ((intCells l).set K (.int .i64 (z + 1))) rfl ((HO.out.stored K (.int .i64 (z + 1))).1.alloc _) ⟨w2.heap.size, 0, none⟩ 1 1 [.int .i64 (z + 1)] rfl rfl ?_ ?_ ?_ ?_ ?_ ?_ ?_)
  · exact cell_new1 _ _ _ _ (by simp)
  · simp [Value.oneCell']
  · unfold maxLen; omega
  · omega
  · have := HB.out.size; simp; omega
  · decide
  have hkk := HK.out
  have HB2 := HB.out.setCell (p := ⟨k, K, none⟩) (by simp only; omega) (.int .i64 (z + 1))
  have hsz := HB.out.size
  intro g cap2 w3 hown3 hgrow3 hk3
  have HB3 := (HB2.alloc (by simpa using hsz) _).grown hgrow3 (by simp; omega) (by simp [Value.ownBlock]; omega)
  clear HB2 hgrow3 hk3 cx2 cx cm fm
  rw [intCells_set, intCells_snoc, HP.out] at hown3
  have hlen : (KraftMath.parted l K).length ≤ 1100 := by rw [← HP.out]; simp; omega
  have C3 := kUsed (some x) cap0 l w3 (ints_kept HIs.out HB3)
  rw [HU.out, hU1] at C3
  have C3 : Calls Try.prog 16 #[.slice (some x) l.length cap0] w3 fun e w' => e = .returned (.int .i64 1) ∧ w' = w3 := C3
  have C4 := check_own w3 _ _ g (l.length + 1) cap2 _ ((M : Int) + 1) 6 hown3 hlen (HF.out.trans (by rw [if_pos hU1] at hUF; exact hUF))
  have C3 := Lib.hid C3
  have C4 := Lib.hid C4
  have HB3 := Lib.hid HB3
  clear hown3 hkk hsz
  go_wp2_with fail
  refine C3.out.mono ?_; rintro e w4 ⟨rfl, rfl⟩
  go_wp2_with fail
  refine C4.out.mono ?_; rintro e w4 ⟨rfl, k4, rfl⟩
  go_wp2_with fail
  refine (awake06 _).mono ?_; rintro e w5 ⟨rfl, hb⟩
  go_wp2_with fail
  go_ret
  exact ⟨rfl, (below_drewN HB3.out _).trans (hb.mono (by have := HB3.out.size; simpa using this))⟩
set_option maxHeartbeats 6400000 in
theorem main_l0 (x : Addr) (cap0 : Nat) (l : List Int) (a1 a2 : Int) (w : World) (p0 : 0 ≤ a1) (p1 : a1 ≤ 255) (q0 : 0 ≤ a2) (q1 : a2 ≤ 255) (M : Nat) (hM : a1 % 16 = M) (hMM : 15 ≤ M) (hl : ¬ 200 < l.length) (hI : IsInts w (some x) l) (hR : KraftMath.check l ((M : Int) + 1) = 0) (hR2 : M < 15 → KraftMath.check l ((M : Int) + 1 + 1) = 0) (K : Nat) (hK : a2 % (l.length : Int) = K) (hKl : K < l.length) (z : Int) (hz : w.cell? (x.add K) = some (.int .i64 z)) (hzz : l.getD K 0 = z) (z0 : z ≠ 0) (z1 : z ≠ (M : Int) + 1) (zb : 0 ≤ z ∧ z ≤ 16) (F : Int) (hF : KraftMath.check (KraftMath.parted l K) ((M : Int) + 1) = F) (U : Nat) (hU : KraftMath.used l = U) (hUF : if U = 1 then F = 6 else F = 0) (hU1 : (U : Int) ≠ 1) :
    Calls Try.prog 4 #[.slice (some x) l.length cap0, .int .u8 a1, .int .u8 a2] w fun e w' => e = .returned (.bool true) ∧ Below w.heap.size w w' := by
  obtain ⟨obtI, hxb, hc⟩ : ∃ _ : True, x.block < w.heap.size ∧ ∀ i, i < l.length → w.cell? (x.add i) = some (.int .i64 (l.getD i 0)) := by
    obtain ⟨y, hy, h1, h2⟩ := ints_some hI (by rintro rfl; simp at hKl)
    cases hy
    exact ⟨trivial, h1, h2⟩
  have HC := Lib.hid (ints_cells hc)
  have HIs := Lib.hid hI
  have HP := Lib.hid (show l.set K (z + 1) ++ [z + 1] = KraftMath.parted l K by rw [← hzz]; exact set_parted l K hKl)
  have C1 := kCheck_any (some x) cap0 ((M : Int) + 1) l w hI
  rw [hR] at C1
  have C1 := Lib.hid C1
  have HF := Lib.hid hF
  have HU := Lib.hid hU
  clear hI hR hR2 hc hF hU
  have e0 : (z == 0) = false := by rw [beq_eq_false_iff_ne]; exact z0
  have e1 : (z == (M : Int) + 1) = false := by rw [beq_eq_false_iff_ne]; exact z1
  obtain ⟨i0, hi, hi0, hi1, hi2⟩ : ∃ i, Try.prog.info? 3 = some i ∧ i.zero = some (.int .i64 0) ∧ i.size = 1 ∧ i.bytes = 8 := by
    have h := infoI
    rcases hq : Try.prog.info? 3 with _ | i
    · rw [hq] at h; simp at h
    · rw [hq] at h; simp at h; exact ⟨i, rfl, h.1, h.2.1, h.2.2⟩
  go_enter Try.func4, Try.ntmps4
  go_wp2_with fail
  refine C1.out.mono ?_; rintro e w1 ⟨rfl, k1, rfl⟩
  go_wp2_with (refine wpList_append_at _ rfl (.tmp 52) (.tmp 53) 22 rfl w.heap.size 3 i0 (.int .i64 0) 8 Try.underlying22 hi hi0 hi1 hi2 rfl (.slice none 0 0) 0 [] rfl (World.ownsRow_nil _ _ _ _) x l.length cap0 (intCells l) rfl ?_ ?_ ?_ ?_ ?_ (Nat.le_refl _) ?_ ?_)
  · unfold intCells; simp
  · exact HC.out
  · exact intCells_one l
  · unfold maxLen; omega
  · omega
  · omega
  intro k cap w2 hown hgrow hk
  have cx : w2.cell? (x.add K) = some (.int .i64 z) := hgrow.cell hz (by simp [Value.ownBlock])
  have hk : k = w.heap.size := by simpa [Value.ownBlock] using hk
  have HB := Lib.hid ((below_drewN (Below.refl w.heap.size w) k1).grown hgrow (Nat.le_refl _) (by simp [Value.ownBlock]))
  have HO := Lib.hid hown
  clear hown hgrow
  have cm := own_cell HO.out K z (by simp [intCells, hKl]; rw [← hzz]; simp [hKl])
  have fm := own_free HO.out K
  have hxne : ¬ (x.add K = ⟨k, K, none⟩) := ne_block x K k (by omega)
  have hxne2 : ¬ (⟨k, K, none⟩ = x.add K) := fun h => hxne h.symm
  have HK := Lib.hid hk
  clear hk
  have cx2 : ∀ u, (w2.setCell ⟨k, K, none⟩ u).cell? (x.add K) = some (.int .i64 z) := fun u => by
    rw [World.cell?_of_block (w := w2) (Below.heap_setCell _ _ _ _ (by rw [add_block]; have := HK.out; simp only; omega))]; exact cx
  go_wp2_with (refine wpList_append_at _ rfl (.tmp 63) (.tmp 69) 22 rfl w.heap.size 3 i0 (.int .i64 0) 8 Try.underlying22 hi hi0 hi1 hi2 rfl (.slice (some ⟨k, 0, none⟩) l.length cap) l.length ((intCells l).set K (.int .i64 (z + 1))) rfl ((HO.out.stored K (.int .i64 (z + 1))).1.alloc _) ⟨w2.heap.size, 0, none⟩ 1 1 [.int .i64 (z + 1)] rfl rfl ?_ ?_ ?_ ?_ ?_ ?_ ?_)
  · exact cell_new1 _ _ _ _ (by simp)
  · simp [Value.oneCell']
  · unfold maxLen; omega
  · omega
  · have := HB.out.size; simp; omega
  · decide
  have hkk := HK.out
  have HB2 := HB.out.setCell (p := ⟨k, K, none⟩) (by simp only; omega) (.int .i64 (z + 1))
  have hsz := HB.out.size
  intro g cap2 w3 hown3 hgrow3 hk3
  have HB3 := (HB2.alloc (by simpa using hsz) _).grown hgrow3 (by simp; omega) (by simp [Value.ownBlock]; omega)
  clear HB2 hgrow3 hk3 cx2 cx cm fm
  rw [intCells_set, intCells_snoc, HP.out] at hown3
  have hlen : (KraftMath.parted l K).length ≤ 1100 := by rw [← HP.out]; simp; omega
  have C3 := kUsed (some x) cap0 l w3 (ints_kept HIs.out HB3)
  rw [HU.out] at C3
  have C3 : Calls Try.prog 16 #[.slice (some x) l.length cap0] w3 fun e w' => e = .returned (.int .i64 (U : Int)) ∧ w' = w3 := C3
  have C4 := check_own w3 _ _ g (l.length + 1) cap2 _ ((M : Int) + 1) 0 hown3 hlen (HF.out.trans (by rw [if_neg (show ¬ U = 1 by omega)] at hUF; exact hUF))
  have C3 := Lib.hid C3
  have C4 := Lib.hid C4
  have HB3 := Lib.hid HB3
  clear hown3 hkk hsz
  have eU : ((U : Int) == 1) = false := by rw [beq_eq_false_iff_ne]; exact hU1
  go_wp2_with fail
  refine C3.out.mono ?_; rintro e w4 ⟨rfl, rfl⟩
  go_wp2_with fail
  refine C4.out.mono ?_; rintro e w4 ⟨rfl, k4, rfl⟩
  go_wp2_with fail
  refine (awake06 _).mono ?_; rintro e w5 ⟨rfl, hb⟩
  go_wp2_with fail
  go_ret
  exact ⟨rfl, (below_drewN HB3.out _).trans (hb.mono (by have := HB3.out.size; simpa using this))⟩
end Go.Proofs.Ytmpmioffngonjaa
