import Derived.Test.YtmhjmoeeahepaaaGreatPP15
import Derived.Deep.CutRange
/- Layer 8: the order of symbols. -/
namespace Go.Proofs.YtmhjmoeeahepaaaGreat
open Go.ChangeShapes Go.WideShapes Go.ChangeAt Go.RowKit
set_option linter.unusedVariables false
set_option maxRecDepth 100000
open KraftMath CanonMath

end Go.Proofs.YtmhjmoeeahepaaaGreat

/- Layer 8: the document's codes. -/
namespace Go.Proofs.YtmhjmoeeahepaaaGreat
open Go.ChangeShapes Go.WideShapes Go.ChangeAt Go.RowKit
set_option linter.unusedVariables false
set_option maxRecDepth 100000
open KraftMath CanonMath

/-- The codes of the first i symbols in order. -/
def codeO (l : List Int) (i : Nat) : List Int := (List.range l.length).map (fun s => if s ∈ (ord l).take i then (code l s : Int) else 0)
theorem codeO_len (l : List Int) (k : Nat) : (codeO l k).length = l.length := by simp [codeO]
theorem codeO_get (l : List Int) (k n : Nat) (h : n < l.length) : (codeO l k).getD n 0 = if n ∈ (ord l).take k then (code l n : Int) else 0 := by
  simp [codeO, List.getD_eq_getElem?_getD, h]
theorem codeO_start (l : List Int) : codeO l 0 = List.replicate l.length 0 := by
  refine getD_ext _ _ (by rw [codeO_len, List.length_replicate]) (fun i hi => ?_)
  rw [codeO_len] at hi
  rw [codeO_get _ _ _ hi, List.getD_eq_getElem?_getD, List.getElem?_replicate, if_pos hi]
  simp
theorem codeO_step (l : List Int) (i s : Nat) (h : (ord l)[i]? = some s) : (codeO l i).set s (code l s) = codeO l (i + 1) := by
  obtain ⟨hi, e⟩ := List.getElem?_eq_some_iff.1 h
  have hs := ((mem_ord l s).1 (List.mem_of_getElem? h)).1
  refine getD_ext _ _ (by rw [List.length_set, codeO_len, codeO_len]) (fun j hj => ?_)
  rw [List.length_set, codeO_len] at hj
  rw [set_getD, codeO_len, codeO_get _ _ _ hj, codeO_get _ _ _ hj, List.take_succ_eq_append_getElem hi, e]
  by_cases h1 : s = j
  · subst h1; rw [if_pos ⟨rfl, hs⟩, if_pos (by simp)]
  · rw [if_neg (by omega)]
    by_cases h2 : j ∈ (ord l).take i
    · rw [if_pos h2, if_pos (by simp [h2])]
    · rw [if_neg h2, if_neg (by simp [h2]; omega)]
theorem codeO_end (l : List Int) (hb : ∀ n ∈ l, 0 ≤ n ∧ n ≤ 16) : codeO l (ord l).length = codeTo l l.length := by
  refine getD_ext _ _ (by rw [codeO_len, codeTo_len]) (fun j hj => ?_)
  rw [codeO_len] at hj
  rw [codeO_get _ _ _ hj, codeTo_get _ _ _ hj, List.take_length, if_pos hj]
  by_cases h : j ∈ ord l
  · rw [if_pos h]
  · rw [if_neg h]
    have hg := hb (l.getD j 0) (by simp [List.getD_eq_getElem?_getD, hj])
    have : len l j = 0 := by
      rcases Nat.eq_zero_or_pos (len l j) with h0 | h0
      · exact h0
      · exact absurd ((mem_ord l j).2 ⟨hj, h0, by unfold len at *; omega, by unfold len at *; omega⟩) h
    unfold code; rw [if_pos this]; rfl
/-- The code behind i symbols. -/
def lastC (l : List Int) (i : Nat) : Nat := if i = 0 then 0 else match (ord l)[i - 1]? with | some s => code l s | none => 0
theorem ordNat_get (l : List Int) (i s : Nat) (h : (ord l)[i]? = some s) : ((ord l).map (fun s : Nat => (s : Int))).getD i 0 = s := by
  simp [List.getD_eq_getElem?_getD, h]
set_option maxHeartbeats 3200000 in
theorem rCodes (a : Option Addr) (c : Nat) (l : List Int) (w : World) (h : IsInts w a l) (hl : l.length ≤ 1100) :
    Calls Tryz.prog 49 #[.slice a l.length c] w (Tells (fun v => .tuple #[v, .int .i64 (check l 16)]) (codesL l) w) := by
  have C := rCheck_any a c 16 l w h
  by_cases hE : check l 16 = 0
  · have hok := (check_ok l 16).1 hE
    have hO : codesL l = codeO l (ord l).length := by unfold codesL; rw [if_pos hE, codeO_end l hok.2.2.2.1]
    have hOL := orderL_eq l hE
    have hll := hok.2.2.1
    have hg := fun k (hk : k < l.length) => hok.2.2.2.1 (l.getD k 0) (by simp [List.getD_eq_getElem?_getD, hk])
    have CO := fun W (h : IsInts W a l) => rOrder a c l W h hl
    rw [hOL] at CO
    have hks : ksum 16 l ≤ 65536 := by rcases hok.2.2.2.2 with h | h <;> rw [h.2] <;> decide
    have hon : (ord l).length ≤ 1024 := by rw [ord_length l hok.2.2.2.1]; have := used_le l; omega
    rw [hE] at C ⊢
    rw [hO]
    have HLl := Lib.hid (show l.length ≤ 1099511627776 by omega)
    have hbnd := fun s (hs : s < l.length) => code_fits l s hs (hg s hs).1 (by have := hg s hs; unfold len; omega) hks
    have C_ := Lib.hid C
    have CO_ := Lib.hid CO
    have h_ := Lib.hid h
    have hg_ := Lib.hid hg
    have hbnd_ := Lib.hid hbnd
    clear C CO h hg hbnd
    clear hok hE hO hOL hks
    go_enter Tryz.func49, Tryz.ntmps49
    go_wp2_with fail
    refine C_.out.mono ?_; rintro e w2 ⟨rfl, rfl⟩
    go_wp2_with (refine make_int rfl (.tmp 15) (.tmp 15) rfl .i64 .i64 _ _ l.length rfl rfl rfl rfl HLl.out ?_; intro w3 hown hb3 hsz3)
    have HI3 : Hid (IsInts w3 a l) := h_.out.kept hb3
    have hown_ := Lib.hid hown
    clear hown
    go_wp2_with fail
    refine (CO_.out w3 HI3.out).mono ?_; rintro e w4 ⟨v4, rfl, hv4, hb4⟩
    have HI4 : Hid (IsInts w4 a l) := HI3.out.kept hb4
    have hown := hown_.out.kept hb4
    rw [← codeO_start] at hown
    have hbel : Below w2.heap.size w2 w4 := hb3.trans (hb4.mono hb3.size)
    obtain ⟨p4, q4, hv⟩ := hv4.slice
    subst hv
    rw [List.length_map] at hv4 ⊢
    obtain ⟨N, hN⟩ : ∃ N, (ord l).length = N := ⟨_, rfl⟩
    rw [hN] at hv4 hon ⊢
    have hs4 : w2.heap.size < w4.heap.size := Nat.lt_of_lt_of_le hsz3 hb4.size
    have hord : ∀ i, i < N → ∃ s, (ord l)[i]? = some s := fun i hi => ⟨_, List.getElem?_eq_getElem (by rw [hN]; exact hi)⟩
    have hfrm : 0 < N → ∃ g, p4 = some ⟨g, 0, none⟩ ∧ w3.heap.size ≤ g ∧ g < w4.heap.size ∧ ∀ (i s : Nat), (ord l)[i]? = some s → w4.cell? ⟨g, i, none⟩ = some (.int .i64 s) := by
      intro h0
      obtain ⟨g, cap, e, h1, h2⟩ := hv4.form (by rw [List.length_map, hN]; exact h0) (by decide)
      rw [List.length_map, hN] at e
      injection e with e1 e2 e3
      subst e1
      refine ⟨g, rfl, h1, h2, fun i s hi => ?_⟩
      have := hv4.int_cell i (by rw [List.length_map]; exact (List.getElem?_eq_some_iff.1 hi).1)
      rw [this, ordNat_get l i s hi]
    have hls : ∀ i s, (ord l)[i]? = some s → lastC l (i + 1) = code l s := by
      intro i s hi
      unfold lastC; rw [if_neg (by omega), Nat.add_sub_cancel, hi]
    clear hown_
    have hown_ := Lib.hid hown
    have hN_ := Lib.hid hN
    have hord_ := Lib.hid hord
    have hfrm_ := Lib.hid hfrm
    have hls_ := Lib.hid hls
    clear hown hN hord hfrm hls
    clear hv4 hb3 hb4 HI3
    go_wp2
    go_loopw [7, 8] (fun c i wr => ∃ k : Nat, k ≤ N ∧ i = .int .i64 k ∧ c = .int .i64 (lastC l k : Nat) ∧ OwnI w2.heap.size wr (.slice (some ⟨w2.heap.size, 0, none⟩) l.length l.length) (codeO l k) ∧ Hid (∀ p : Addr, p.block < w4.heap.size → p.block ≠ w2.heap.size → wr.cell? p = w4.cell? p) ∧ Below w2.heap.size w2 wr) (fun _ i _ => N - (intOf i).toNat)
    case atStart => exact ⟨0, Nat.zero_le _, rfl, rfl, hown_.out, Lib.hid (fun _ _ _ => rfl), hbel⟩
    case round =>
      clear hbel
      obtain ⟨k, hk, rfl, rfl, hown, HF, hbel⟩ := hrel
      by_cases hlt : k < N
      · obtain ⟨s, hs⟩ := hord_.out k hlt
        obtain ⟨g, hp4, hg1, hg2, hgc⟩ := hfrm_.out (by omega)
        subst hp4
        have hms := (mem_ord l s).1 (List.mem_of_getElem? hs)
        obtain ⟨x, rfl, hxb, hx⟩ := h_.out.at s hms.1
        have co : wr.cell? ⟨g, k, none⟩ = some (.int .i64 s) := by rw [HF.out ⟨g, k, none⟩ hg2 (by show g ≠ _; omega)]; exact hgc k s hs
        have cx : wr.cell? (x.add s) = some (.int .i64 (l.getD s 0)) := by rw [hbel.cell (by rw [add_block]; exact hxb)]; exact hx s hms.1
        have hgs := hg_.out s hms.1
        have hq := hown.int_cell s (by rw [codeO_len]; exact hms.1)
        have hfr := hown.free s
        have hlc := hls_.out k s hs
        have hcl := hbnd_.out s hms.1
        have hp16 : 2 ^ len l s ≤ 2 ^ 16 := Nat.pow_le_pow_right (by decide) (by omega)
        have HO := Lib.hid (hown.set_int s (code l s) (by rw [codeO_len]; exact hms.1))
        rw [codeO_step l k s hs] at HO
        have HFn : Hid (∀ p : Addr, p.block < w4.heap.size → p.block ≠ w2.heap.size → (wr.setCell ⟨w2.heap.size, s, none⟩ (.int .i64 (code l s))).cell? p = w4.cell? p) := by
          intro p h1 h2
          rw [World.cell?_setCell_other _ _ _ _ (fun e => h2 (by rw [← e]))]; exact HF.out p h1 h2
        have hbn := Lib.hid (hbel.setCell (p := ⟨w2.heap.size, s, none⟩) (Nat.le_refl _) (.int .i64 (code l s)))
        obtain ⟨LC, hLC⟩ : ∃ LC, lastC l k = LC := ⟨_, rfl⟩
        rw [hLC]
        obtain ⟨NC, hNC⟩ : ∃ NC, code l s = NC := ⟨_, rfl⟩
        rw [hNC] at HO HFn hlc hbn hcl
        have HLC := Lib.hid hlc
        have hslt := hms.1
        by_cases hk0 : k = 0
        · have h1 : LC = 0 := by rw [← hLC, hk0]; rfl
          have h2 : NC = 0 := by rw [← hNC]; exact code_first l s (by rw [← hk0]; exact hs)
          subst h1; subst h2
          have hk0' : ¬ 0 < k := by omega
          clear hlc hx hgc hms hs hcl hp16 hk0 hLC hNC
          have hown_ := Lib.hid hown
          clear hown
          go_wp2
          go_roundw
          case rel => exact ⟨k + 1, by omega, by go_num, by rw [HLC.out], HO.out, HFn.out, hbn.out⟩
          case measure => simp [intOf]; omega
        · obtain ⟨t, ht⟩ := hord_.out (k - 1) (by omega)
          have hmt := (mem_ord l t).1 (List.mem_of_getElem? ht)
          have co2 : wr.cell? ⟨g, k - 1, none⟩ = some (.int .i64 t) := by rw [HF.out ⟨g, k - 1, none⟩ hg2 (by show g ≠ _; omega)]; exact hgc (k - 1) t ht
          have cx2 : wr.cell? (x.add t) = some (.int .i64 (l.getD t 0)) := by rw [hbel.cell (by rw [add_block]; exact hxb)]; exact hx t hmt.1
          have hgt := hg_.out t hmt.1
          have hct := hbnd_.out t hmt.1
          have hpt : 2 ^ len l t ≤ 2 ^ 16 := Nat.pow_le_pow_right (by decide) (by omega)
          have hnx := code_next l (k - 1) t s ht (by rw [show k - 1 + 1 = k by omega]; exact hs)
          have hl2 := hls_.out (k - 1) t ht
          rw [show k - 1 + 1 = k by omega, hLC] at hl2
          rw [← hl2] at hct hnx
          rw [hNC] at hnx
          obtain ⟨ls, hls⟩ : ∃ ls : Nat, l.getD s 0 = ls := ⟨(l.getD s 0).toNat, by omega⟩
          obtain ⟨lt, hlt2⟩ : ∃ lt : Nat, l.getD t 0 = lt := ⟨(l.getD t 0).toNat, by omega⟩
          rw [hls] at cx hgs
          rw [hlt2] at cx2 hgt
          have e1 : len l s = ls := by unfold len; rw [hls]; rfl
          have e2 : len l t = lt := by unfold len; rw [hlt2]; rfl
          rw [e1] at hcl hp16
          rw [e2] at hct hpt
          rw [e1, e2] at hnx
          have hle := hnx.1
          have HNC := Lib.hid hnx.2
          have hkk : ((k : Int) - 1).toNat = k - 1 := by omega
          have hk1 : 0 < k := by omega
          have htlt := hmt.1
          have hLb : LC < 65536 := by omega
          have hNb : NC < 65536 := by omega
          clear hlc hx hgc hms hs hk0 hLC hNC hnx hl2 hls hlt2 e1 e2 ht hmt hcl hct hp16 hpt
          have hown_ := Lib.hid hown
          clear hown
          go_wp2
          go_quiet (fail)
          have hw : wrap64 (((LC : Int) + 1) * 2 ^ (ls - lt)) = NC := by
            have e : (((LC : Int) + 1) * 2 ^ (ls - lt)) = (((LC + 1) * 2 ^ (ls - lt) : Nat) : Int) := by simp
            rw [e, ← HNC.out]; unfold wrap64; omega
          rw [hw]
          clear hw
          go_wp2
          go_roundw
          case rel => exact ⟨k + 1, by omega, by go_num, by rw [HLC.out], HO.out.drewN _, HFn.out, below_dn hbn.out _⟩
          case measure => simp [intOf]; omega
      · obtain rfl : k = N := by omega
        rw [← hN_.out] at hown
        have HV := Lib.hid (hown.isL (by rw [codeO_len]; omega))
        clear hown
        go_wp2
        go_ret2
        exact ⟨_, rfl, HV.out, hbel⟩
  · have hO : codesL l = [] := by unfold codesL; rw [if_neg hE]
    rw [hO]
    obtain ⟨E, hEE⟩ : ∃ E, check l 16 = E := ⟨_, rfl⟩
    rw [hEE] at C hE ⊢
    have e1 : (E == 0) = false := by rw [beq_eq_false_iff_ne]; exact hE
    have e2 : (E != 0) = true := by rw [bne, e1]; rfl
    have C_ := Lib.hid C
    clear C
    clear hE hEE hO
    go_enter Tryz.func49, Tryz.ntmps49
    go_wp2_with fail
    refine C_.out.mono ?_; rintro e w0 ⟨rfl, rfl⟩
    go_wp2_with fail
    go_ret2
    exact ⟨_, rfl, IsL.nil _, Below.refl _ _⟩
end Go.Proofs.YtmhjmoeeahepaaaGreat

/- Layer 9: the document's Decode. -/
namespace Go.Proofs.YtmhjmoeeahepaaaGreat
open Go.ChangeShapes Go.WideShapes Go.ChangeAt Go.RowKit
set_option linter.unusedVariables false
set_option linter.unusedSimpArgs false
set_option maxRecDepth 100000
open KraftMath CanonMath
def hitAt (l : List Int) (row : List Bool) (s : Nat) : Bool := decide (len l s ≠ 0) && begL row (msb (code l s) (len l s))
def shortAt (l : List Int) (row : List Bool) (s : Nat) : Bool := decide (len l s ≠ 0) && begL (msb (code l s) (len l s)) row
def decL (l : List Int) (row : List Bool) : Int × Int × Int :=
  if check l 16 ≠ 0 then (0, 0, check l 16) else
  match (List.range l.length).find? (hitAt l row) with
  | some s => (((s : Nat) : Int), ((len l s : Nat) : Int), 0)
  | none => if (List.range l.length).any (shortAt l row) then (0, 0, 3) else (0, 0, 4)
theorem hitAt_iff {l : List Int} {row : List Bool} {s : Nat} (hs : s < l.length) : hitAt l row s = true ↔ Hit l row s := by
  unfold hitAt Hit
  rw [Bool.and_eq_true, decide_eq_true_iff]
  exact ⟨fun h => ⟨hs, h⟩, fun h => h.2⟩
theorem decL_hit {l : List Int} {row : List Bool} {s : Nat} (h : check l 16 = 0) (hh : Hit l row s) : decL l row = (((s : Nat) : Int), ((len l s : Nat) : Int), 0) := by
  unfold decL
  rw [if_neg (by simp [h])]
  cases hf : (List.range l.length).find? (hitAt l row) with
  | none =>
    rw [List.find?_eq_none] at hf
    exact absurd ((hitAt_iff hh.1).2 hh) (by simpa using hf s (List.mem_range.2 hh.1))
  | some t =>
    have h1 := List.find?_some hf
    have h2 := List.mem_range.1 (List.mem_of_find?_eq_some hf)
    have : t = s := hit_one h ((hitAt_iff h2).1 h1) hh
    rw [this]
theorem decL_none {l : List Int} {row : List Bool} (h : check l 16 = 0) (hh : ∀ s, ¬ Hit l row s) : decL l row = if (List.range l.length).any (shortAt l row) then (0, 0, 3) else (0, 0, 4) := by
  unfold decL
  rw [if_neg (by simp [h])]
  cases hf : (List.range l.length).find? (hitAt l row) with
  | none => rfl
  | some t =>
    have h1 := List.find?_some hf
    have h2 := List.mem_range.1 (List.mem_of_find?_eq_some hf)
    exact absurd ((hitAt_iff h2).1 h1) (hh t)
theorem codes_at {l : List Int} (h : check l 16 = 0) {s : Nat} (hs : s < l.length) : (codesL l).getD s 0 = (code l s : Nat) := by
  unfold codesL
  rw [if_pos h, codeTo_get l _ s hs, if_pos hs]
theorem codes_len {l : List Int} (h : check l 16 = 0) : (codesL l).length = l.length := by
  unfold codesL
  rw [if_pos h, codeTo_len]
theorem lenI {l : List Int} (h : check l 16 = 0) {s : Nat} (hs : s < l.length) : l.getD s 0 = (len l s : Nat) := by
  have := (ok_b h s hs).1
  unfold len; omega
end Go.Proofs.YtmhjmoeeahepaaaGreat

/- Layer 9: the greatest of a row. -/
namespace Go.Proofs.YtmhjmoeeahepaaaGreat
open Go.ChangeShapes Go.WideShapes Go.ChangeAt Go.RowKit
set_option linter.unusedVariables false
set_option linter.unusedSimpArgs false
set_option maxRecDepth 100000
theorem maxs_step (l : List Int) (k : Nat) (hk : k < l.length) (M : Int) (h1 : ∀ x ∈ l.take k, x ≤ M) (h2 : M ∈ l.take k) : (∀ x ∈ l.take (k + 1), x ≤ max M (l.getD k 0)) ∧ max M (l.getD k 0) ∈ l.take (k + 1) := by
  rw [take_getD l k hk]
  constructor
  · intro x hx
    rcases List.mem_append.1 hx with hx | hx
    · have := h1 x hx; omega
    · rw [List.mem_singleton] at hx; omega
  · rcases Int.le_total M (l.getD k 0) with h | h
    · rw [Int.max_eq_right h]; simp
    · rw [Int.max_eq_left h]; exact List.mem_append_left _ h2
end Go.Proofs.YtmhjmoeeahepaaaGreat
