import Derived.Test.YtedmnlfbmmlcbaaJ23
import Derived.ChangeKeysEq
/- Layer 48: Back of nothing, Back too far; the document's examples. -/
namespace Go.Proofs.Ytedmnlfbmmlcbaa
open Go.ChangeShapes Go.WideShapes Go.ChangeAt Go.RowKit
set_option linter.unusedVariables false
set_option linter.unusedSimpArgs false
set_option maxRecDepth 100000
theorem cBackFar (T : List UInt8) (at_ : Nat) (w : World) (ha : T.length < at_) :
    Calls Try.prog 44 #[.string (sM T), .int .i64 at_] w fun e w' => e = .returned (.tuple #[.string ⟨#[]⟩, .int .i64 2]) ∧ Below w.heap.size w w' := by
  have hS : (sM T).size = T.length := sM_size T
  have h1 : (T.length : Int) < at_ := by omega
  have h2 : ¬ (at_ : Int) < 0 := by omega
  go_enter Try.func44, Try.ntmps44
  go_wp2_with fail
  go_ret2
  exact ⟨rfl, Below.refl _ _⟩
set_option maxHeartbeats 3200000 in
theorem cBackNil (w : World) :
    Calls Try.prog 44 #[.string ⟨#[]⟩, .int .i64 0] w fun e w' => e = .returned (.tuple #[.string ⟨#[]⟩, .int .i64 0]) ∧ Below w.heap.size w w' := by
  have CA := Lib.hid (fun W => cAhead [] 0 W (by decide) (Nat.le_refl _))
  rw [show sM [] = (⟨#[]⟩ : ByteArray) from rfl] at CA
  go_enter Try.func44, Try.ntmps44
  go_wp2_with fail
  refine (CA.out _).mono ?_; rintro e w1 ⟨g, ah, rfl, ho, hol, hah, hb⟩
  have HB := Lib.hid hb
  clear ho hol hah hb CA
  go_wp2_with (refine make_u8 rfl _ _ rfl .i64 .i64 0 0 0 rfl rfl rfl rfl (by omega) ?_; intro w2 ho2 hb2 hs2)
  have HB := Lib.hid (HB.out.trans (hb2.mono HB.out.size))
  have hcv := (show OwnY w1.heap.size w2 (.slice (some ⟨w1.heap.size, 0, none⟩) 0 0) [] from ho2).convY
  clear ho2 hb2 hs2
  go_loopw [9] (fun kv wr => kv = .int .i64 (-1) ∧ wr = w2) (fun _ _ => 0)
  case atStart => exact ⟨rfl, rfl⟩
  case round =>
    obtain ⟨rfl, rfl⟩ := hrel
    go_wp2_with fail
    go_ret2
    exact ⟨rfl, HB.out⟩
theorem banana_turned (a : List Nat) (at_ : Nat) (hs : IsSuf [98, 97, 110, 97, 110, 97] a) (ha : at_ ≤ ([98, 97, 110, 97, 110, 97] : List UInt8).length) (h0 : Pr a ([98, 97, 110, 97, 110, 97] : List UInt8).length at_ = 0) : at_ = 4 ∧ tB [98, 97, 110, 97, 110, 97] a at_ = [97, 110, 110, 98, 97, 97] := by
  obtain rfl := hs.unique banana
  obtain rfl := Pr_inj banana at_ 4 ha (by decide) (by rw [h0]; decide)
  exact ⟨rfl, by decide⟩
end Go.Proofs.Ytedmnlfbmmlcbaa

/- Layer 48: the bytes of the turned text are the text's. -/
namespace Go.Proofs.Ytedmnlfbmmlcbaa
open Go.ChangeShapes Go.WideShapes Go.ChangeAt Go.RowKit
set_option linter.unusedVariables false
set_option linter.unusedSimpArgs false
set_option maxRecDepth 100000
theorem plB_nodup {L : List UInt8} {a : List Nat} (h : IsSuf L a) (at_ : Nat) (hat : at_ ≤ L.length) (h0 : Pr a L.length at_ = 0) : (plB a L.length at_).Nodup ∧ ∀ x ∈ plB a L.length at_, x < L.length := by
  have hrow : ∀ s, s < L.length → rwB at_ s ≤ L.length ∧ rwB at_ s ≠ at_ := fun s hs => by unfold rwB; split <;> omega
  have hpos : ∀ s, s < L.length → 1 ≤ Pr a L.length (rwB at_ s) := fun s hs => by
    obtain ⟨r1, r2⟩ := hrow s hs
    apply Classical.byContradiction
    intro hx
    exact r2 (Pr_inj h _ _ r1 hat (by omega))
  constructor
  · refine pw_of_getD (fun i j hij hj => ?_)
    rw [plB_len] at hj
    rw [plB_getD a _ at_ i (by omega), plB_getD a _ at_ j hj]
    have p1 := hpos i (by omega)
    have p2 := hpos j hj
    have hlt := Pr_lt h (rwB at_ i) (rwB at_ j) (by unfold rwB; split <;> split <;> omega) (hrow j hj).1
    intro e
    have : Pr a L.length (rwB at_ i) = Pr a L.length (rwB at_ j) := by omega
    rw [this] at hlt
    omega
  · intro x hx
    obtain ⟨s, hs, e⟩ := List.mem_map.1 hx
    have hs := List.mem_range.1 hs
    have h1 := Pr_in h (rwB at_ s) (hrow s hs).1
    have h2 := hpos s hs
    omega
theorem tB_perm {L : List UInt8} {a : List Nat} (h : IsSuf L a) (at_ : Nat) (hat : at_ ≤ L.length) (h0 : Pr a L.length at_ = 0) : (tB L a at_).Perm L := by
  obtain ⟨h1, h2⟩ := plB_nodup h at_ hat h0
  have hp : (plB a L.length at_).Perm (List.range L.length) := (List.perm_ext_iff_of_nodup h1 List.nodup_range).2 (fun x => by
    rw [List.mem_range]
    exact ⟨h2 x, (pig L.length _ h1 h2).2 (plB_len a _ at_) x⟩)
  have e : (List.range L.length).map (fun p => L.getD p 0) = L := by
    apply List.ext_getElem (by simp)
    intro i h1 h2
    simp [List.getD_eq_getElem?_getD, h2]
  unfold tB
  have := hp.map (fun p => L.getD p 0)
  rwa [e] at this
/-- How many more of a byte in the one than in the other, so far. -/
def cb (L : List UInt8) (k v : Nat) : Int := ((L.take k).countP (fun b => b.toNat == v) : Nat)
def bal (L T : List UInt8) (k v : Nat) : Int := cb L k v - cb T k v
theorem cb_step (L : List UInt8) (k v : Nat) (hk : k < L.length) : cb L (k + 1) v = cb L k v + if v = (L.getD k 0).toNat then 1 else 0 := by
  unfold cb
  rw [List.take_add_one, List.getElem?_eq_getElem hk, List.countP_append]
  simp only [Option.toList_some, List.countP_singleton, List.getD_eq_getElem?_getD, List.getElem?_eq_getElem hk, Option.getD_some]
  by_cases h : v = (L[k]).toNat
  · simp [h]
  · have h2 : ¬ (L[k]).toNat = v := fun e => h e.symm
    simp [h, h2]
theorem cb_le (L : List UInt8) (k v : Nat) : 0 ≤ cb L k v ∧ cb L k v ≤ k := by
  unfold cb
  have h1 := List.countP_le_length (l := L.take k) (p := fun b => b.toNat == v)
  rw [List.length_take] at h1
  omega
theorem bal_end {L T : List UInt8} (h : T.Perm L) (v : Nat) : bal L T L.length v = 0 := by
  unfold bal cb
  have hl := h.length_eq
  rw [List.take_length, ← hl, List.take_length, h.countP_eq]
  omega
def zA (f : Nat → Int) : Array Value := ((List.range 256).map (fun v => Value.int .i64 (f v))).toArray
theorem zA_size (f : Nat → Int) : (zA f).size = 256 := by simp [zA]
def IsZ (w : World) (g : Nat) (f : Nat → Int) : Prop := w.heap[g]? = some (.cells (zA f) 99 (0, 0))
theorem IsZ.cell {w : World} {g : Nat} {f : Nat → Int} (h : IsZ w g f) (j : Nat) (hj : j < 256) : w.cell? ⟨g, j, none⟩ = some (.int .i64 (f j)) := by
  refine cell_lit h j _ ?_
  unfold zA
  simp [hj]
theorem IsZ.free {w : World} {g : Nat} {f : Nat → Int} (h : IsZ w g f) (j : Nat) : w.frozen? ⟨g, j, none⟩ = false := free_in h j
theorem IsZ.set {w : World} {g : Nat} {f : Nat → Int} (h : IsZ w g f) (j : Nat) (x : Int) (f' : Nat → Int) (hf : ∀ v, f' v = if v = j then x else f v) : IsZ (w.setCell ⟨g, j, none⟩ (.int .i64 x)) g f' := by
  have := block_set h j (.int .i64 x)
  unfold IsZ
  rw [this]
  congr 2
  unfold zA
  apply Array.ext (by simp)
  intro i h1 h2
  simp only [Array.getElem_setIfInBounds, List.getElem_toArray, List.getElem_map, List.getElem_range, hf]
  by_cases e : j = i
  · subst e; simp
  · have e2 : ¬ i = j := fun x => e x.symm
    simp [e, e2]
theorem IsZ.away {w : World} {g k j : Nat} {f : Nat → Int} {u : Value} (h : IsZ w g f) (hk : g ≠ k) : IsZ (w.setCell ⟨k, j, none⟩ u) g f := (Below.heap_setCell _ _ _ _ hk).trans h
theorem IsZ.kept {w w' : World} {g : Nat} {f : Nat → Int} (h : IsZ w g f) (hb : Below w.heap.size w w') : IsZ w' g f := (hb.block _ (block_lt h)).trans h
theorem IsZ.load {w : World} {g : Nat} {f : Nat → Int} (h : IsZ w g f) : (loadVar 99 ⟨g, 0, none⟩).run Try.prog w = .ok (.agg (zA f)) w :=
  run_loadVar_row w g _ 99 _ _ _ h Try.underlying99 rfl (by rw [zA_size]; kernel_rfl)
theorem zA_part (f : Nat → Int) (i : Nat) (hi : i < 256) (w : World) : (part 3 (zA f) i).run Try.prog w = .ok (.int .i64 (f i)) w := by
  have hz : (sizeOf 3).run Try.prog w = .ok 1 w := by kernel_rfl
  have hag : (isAgg 3).run Try.prog w = .ok false w := by kernel_rfl
  have e : (zA f)[i]? = some (.int .i64 (f i)) := by unfold zA; simp [hi]
  simp [part, hz, hag, e, go_sem]
theorem eq_items (f h : Nat → Int) (d : Nat) (w : World) : ∀ (is : List Nat), (∀ i ∈ is, i < 256) → (Op.eqItems (d + 1) 3 1 (zA f) (zA h) is).run Try.prog w = .ok (is.all (fun i => f i == h i)) w
  | [], _ => rfl
  | i :: is, hi => by
    have h1 := hi i (List.mem_cons_self ..)
    rw [Op.eqItems]
    simp only [Sem.run_bind, Nat.mul_one, zA_part f i h1, zA_part h i h1, Result.andThen_ok, run_equalIn_int _ _ _ _ _ _ _ (show Try.prog.underlying 3 = some (.int .i64) from by kernel_rfl)]
    by_cases e : f i = h i
    · simp only [e, beq_self_eq_true, Bool.not_true, Bool.false_eq_true, if_false, List.all_cons, Bool.true_and]
      exact eq_items f h d w is (fun j hj => hi j (List.mem_cons_of_mem _ hj))
    · have : (f i == h i) = false := by rw [beq_eq_false_iff_ne]; exact e
      simp [this]
theorem eql_zA (f h : Nat → Int) (hfh : ∀ i, i < 256 → f i = h i) (w : World) : (Op.equalIn 10000 99 (.agg (zA f)) (.agg (zA h))).run Try.prog w = .ok true w := by
  have hc : Try.prog.cellsOf 3 = 1 := by kernel_rfl
  obtain ⟨i, hi⟩ : ∃ i, Try.prog.info? 3 = some i := ⟨_, rfl⟩
  rw [run_equalIn_array w 9999 (e := 3) (n := 256) _ _ Try.underlying99 hi, hc, eq_items f h 9998 w _ (fun i hi => List.mem_range.1 hi)]
  have : (List.range 256).all (fun i => f i == h i) = true := List.all_eq_true.2 (fun i hi => by rw [beq_iff_eq]; exact hfh i (List.mem_range.1 hi))
  rw [this]
theorem zero_zA : Try.zeroCells99 = zA (fun _ => 0) := by kernel_rfl
end Go.Proofs.Ytedmnlfbmmlcbaa

/- Layer 48: BwtBack's walk. -/
namespace Go.Proofs.Ytedmnlfbmmlcbaa
open Go.ChangeShapes Go.WideShapes Go.ChangeAt Go.RowKit
set_option linter.unusedVariables false
set_option linter.unusedSimpArgs false
set_option maxRecDepth 100000
set_option maxHeartbeats 3200000 in
theorem back_any (L : List UInt8) (a : List Nat) (at_ : Nat) (hs : IsSuf L a) (ha : at_ ≤ L.length) (h0 : Pr a L.length at_ = 0) (hL : L.length ≤ 10000) (w : World) :
    Calls Try.prog 44 #[.string (sM (tB L a at_)), .int .i64 at_] w fun e w' => e = .returned (.tuple #[.string (sM L), .int .i64 0]) ∧ Below w.heap.size w w' := by
  have hl := tB_len L a at_
  by_cases hz : at_ = 0
  · subst hz
    by_cases hn : L = []
    · subst hn
      rw [List.eq_nil_of_length_eq_zero hl]
      exact cBackNil w
    · exfalso
      have : 0 < L.length := List.length_pos_iff.2 hn
      unfold Pr at h0
      rw [if_pos rfl] at h0
      omega
  · have := cBackB (tB L a at_) at_ w (by omega) (by omega) (by omega) (some L) (by
      have := bk_ok hs at_ ha h0 L.length 0 (Nat.le_refl _) (Nat.zero_le _) rfl
      rw [hl]
      rwa [List.drop_length] at this)
    exact this
end Go.Proofs.Ytedmnlfbmmlcbaa
