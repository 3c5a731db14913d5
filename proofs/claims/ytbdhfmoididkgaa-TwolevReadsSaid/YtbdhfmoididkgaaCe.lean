/- Layer 8: the codes. -/
import Derived.Test.YtbdhfmoididkgaaCd
import Derived.Test.YtbdhfmoididkgaaCa
namespace Go.Proofs.Ytbdhfmoididkgaa
open Go.ChangeShapes Go.WideShapes Go.ChangeAt Go.RowKit
set_option linter.unusedVariables false
set_option maxRecDepth 100000
open KraftMath CanonMath

/-- The next code of each length behind k symbols. -/
def nxtA (l : List Int) (k : Nat) : List Int := (List.range 17).map (fun n => if n = 0 then 0 else ((first l n + cnt (l.take k) n : Nat) : Int))
theorem nxtA_len (l : List Int) (k : Nat) : (nxtA l k).length = 17 := by simp [nxtA]
theorem nxtA_get (l : List Int) (k n : Nat) (h : n < 17) : (nxtA l k).getD n 0 = if n = 0 then 0 else ((first l n + cnt (l.take k) n : Nat) : Int) := by
  simp [nxtA, List.getD_eq_getElem?_getD, h]
theorem nxtA_start (l : List Int) : fstA l 16 = nxtA l 0 := by
  refine getD_ext _ _ (by rw [fstA_len, nxtA_len]) (fun i hi => ?_)
  rw [fstA_len] at hi
  rw [fstA_get _ _ _ hi, nxtA_get _ _ _ hi, if_pos (by omega)]
  by_cases h : i = 0
  · subst h; rfl
  · rw [if_neg h]; simp [cnt]
theorem nxtA_zero (l : List Int) (k : Nat) (h : k < l.length) (h0 : l.getD k 0 = 0) : nxtA l (k + 1) = nxtA l k := by
  refine getD_ext _ _ (by rw [nxtA_len, nxtA_len]) (fun i hi => ?_)
  rw [nxtA_len] at hi
  rw [nxtA_get _ _ _ hi, nxtA_get _ _ _ hi, cnt_take_succ l k i h]
  by_cases hi0 : i = 0
  · rw [if_pos hi0, if_pos hi0]
  · rw [if_neg hi0, if_neg hi0, if_neg (by omega)]; rfl
theorem nxtA_one (l : List Int) (k m : Nat) (h : k < l.length) (h0 : l.getD k 0 = m) (h1 : 1 ≤ m) (h16 : m ≤ 16) : (nxtA l k).set m ((nxtA l k).getD m 0 + 1) = nxtA l (k + 1) := by
  refine getD_ext _ _ (by rw [List.length_set, nxtA_len, nxtA_len]) (fun i hi => ?_)
  rw [List.length_set, nxtA_len] at hi
  rw [set_getD, nxtA_len, nxtA_get _ _ i hi, nxtA_get _ _ i hi, nxtA_get _ _ m (by omega), if_neg (by omega : ¬ m = 0), cnt_take_succ l k i h]
  by_cases hm : m = i
  · subst hm; rw [if_pos ⟨rfl, by omega⟩, if_neg (by omega), if_pos h0]; omega
  · rw [if_neg (by omega)]
    by_cases hi0 : i = 0
    · rw [if_pos hi0, if_pos hi0]
    · rw [if_neg hi0, if_neg hi0, if_neg (by omega)]; rfl
/-- The codes of the first k symbols. -/
def codeTo (l : List Int) (k : Nat) : List Int := (List.range l.length).map (fun s => if s < k then (code l s : Int) else 0)
theorem codeTo_len (l : List Int) (k : Nat) : (codeTo l k).length = l.length := by simp [codeTo]
theorem codeTo_get (l : List Int) (k n : Nat) (h : n < l.length) : (codeTo l k).getD n 0 = if n < k then (code l n : Int) else 0 := by
  simp [codeTo, List.getD_eq_getElem?_getD, h]
theorem codeTo_zero (l : List Int) : codeTo l 0 = List.replicate l.length 0 := by
  refine getD_ext _ _ (by rw [codeTo_len, List.length_replicate]) (fun i hi => ?_)
  rw [codeTo_len] at hi
  rw [codeTo_get _ _ _ hi, if_neg (by omega)]
  simp [List.getD_eq_getElem?_getD, hi]
theorem codeTo_skip (l : List Int) (k : Nat) (h : k < l.length) (h0 : l.getD k 0 = 0) : codeTo l (k + 1) = codeTo l k := by
  refine getD_ext _ _ (by rw [codeTo_len, codeTo_len]) (fun i hi => ?_)
  rw [codeTo_len] at hi
  rw [codeTo_get _ _ _ hi, codeTo_get _ _ _ hi]
  by_cases h1 : i < k
  · rw [if_pos h1, if_pos (by omega)]
  · by_cases h2 : i = k
    · subst h2
      rw [if_pos (by omega), if_neg h1]
      have : len l i = 0 := by unfold len; omega
      unfold code; rw [if_pos this]; rfl
    · rw [if_neg h1, if_neg (by omega)]
theorem codeTo_one (l : List Int) (k m : Nat) (h : k < l.length) (h0 : l.getD k 0 = m) (h1 : 1 ≤ m) (h16 : m ≤ 16) : (codeTo l k).set k ((nxtA l k).getD m 0) = codeTo l (k + 1) := by
  refine getD_ext _ _ (by rw [List.length_set, codeTo_len, codeTo_len]) (fun i hi => ?_)
  rw [List.length_set, codeTo_len] at hi
  rw [set_getD, codeTo_len, codeTo_get _ _ _ hi, codeTo_get _ _ _ hi, nxtA_get _ _ _ (by omega), if_neg (by omega : ¬ m = 0)]
  by_cases h2 : k = i
  · subst h2
    rw [if_pos ⟨rfl, h⟩, if_pos (by omega)]
    have : len l k = m := by unfold len; omega
    unfold code; rw [this, if_neg (by omega)]
  · rw [if_neg (by omega)]
    by_cases h1 : i < k
    · rw [if_pos h1, if_pos (by omega)]
    · rw [if_neg h1, if_neg (by omega)]
def codesL (l : List Int) : List Int := if check l 16 = 0 then codeTo l l.length else []
def Tells (v0 : Value → Value) (r : List Int) (w : World) (e : Ending) (w' : World) : Prop := ∃ v', e = .returned (v0 v') ∧ IsL w' v' r ∧ Below w.heap.size w w'
set_option maxHeartbeats 3200000 in
theorem cCodes (a : Option Addr) (c : Nat) (l : List Int) (w : World) (h : IsInts w a l) :
    Calls Try.prog 16 #[.slice a l.length c] w (Tells (fun v => .tuple #[v, .int .i64 (check l 16)]) (codesL l) w) := by
  have C := kCheck_any a c 16 l w h
  by_cases hE : check l 16 = 0
  · have hok := (check_ok l 16).1 hE
    have hO : codesL l = codeTo l l.length := by unfold codesL; rw [if_pos hE]
    have hll := hok.2.2.1
    have hg := fun k (hk : k < l.length) => hok.2.2.2.1 (l.getD k 0) (by simp [List.getD_eq_getElem?_getD, hk])
    have C2 := fun n => cCounts a c l (w.drewN n) h hok.2.2.2.1
    have C3 := cFirsts l _ rfl (by omega)
    rw [nxtA_start] at C3
    rw [hE] at C ⊢
    rw [hO]
    obtain ⟨hz, hi⟩ := arr_zero
    have HSZ : Hid ((Try.prog.info? 74).map (·.size) = some (arrI (nxtA l 0)).size) := by show _ = _; rw [hi, arrI_size, nxtA_len]
    have HZS : Hid ((arrI (List.replicate 17 0)).size = (arrI (nxtA l 0)).size) := by show _ = _; rw [arrI_size, arrI_size, nxtA_len, List.length_replicate]
    have HONE := Lib.hid (arrI_one (nxtA l 0))
    have HAN := Lib.hid (fun X => ArrAt.new X (nxtA l 0))
    obtain ⟨Z, hZ⟩ : ∃ Z, arrI (List.replicate 17 (0 : Int)) = Z := ⟨_, rfl⟩
    rw [hZ] at hz HZS
    have C_ := Lib.hid C
    have C2_ := Lib.hid C2
    have C3_ := Lib.hid C3
    have h_ := Lib.hid h
    have hg_ := Lib.hid hg
    clear C C2 C3 h hg
    clear hZ hi hok hE hO
    go_enter Try.func16, Try.ntmps16
    go_wp2_with fail
    refine C_.out.mono ?_; rintro e w0 ⟨rfl, n0, rfl⟩
    go_wp2_with fail
    refine (C2_.out n0).mono ?_; rintro e w1 ⟨rfl, hb1⟩
    have hb1 : Below w.heap.size w w1 := (below_dn (Below.refl _ w) n0).trans hb1
    go_wp2_with fail
    refine (C3_.out w1).mono ?_; rintro e w2 ⟨rfl, hb2⟩
    have hb2 : Below w.heap.size w w2 := hb1.trans (hb2.mono hb1.size)
    clear hb1
    have hnew : Hid ((w2.alloc (.cells Z 74)).heap[w2.heap.size]? = some (.cells Z 74 (0, 0))) := heap_alloc_new w2 _
    have HT := Lib.hid (HAN.out w2)
    obtain ⟨T, hT⟩ : ∃ T, arrI (nxtA l 0) = T := ⟨_, rfl⟩
    rw [hT] at HSZ HZS HONE
    have HTT := Lib.hid hT
    rw [hT]
    clear hT
    have HLl := Lib.hid (show l.length ≤ 1099511627776 by omega)
    go_wp2_with (first | (refine wpList_store_row rfl 74 (.tmp 5) (.tmp 16) rfl w2.heap.size T rfl rfl 74 Z hnew.out HSZ.out HZS.out HONE.out ?_; rw [setRow_last]) | (refine make_int rfl (.tmp 18) (.tmp 18) rfl .i64 .i64 _ _ l.length rfl rfl rfl rfl HLl.out ?_; intro w3 hown hb3 hsz3))
    rw [HTT.out] at HT
    have HA3 := Lib.hid (HT.out.kept hb3)
    have hbs2 := hb2.size
    have hb3 : Below w.heap.size w w3 := (hb2.alloc hb2.size _).trans (hb3.mono (by simp; omega))
    simp only [World.size_alloc] at hown hsz3
    rw [← codeTo_zero] at hown
    have hown_ := Lib.hid hown
    clear hown
    clear hz C_ C2_ C3_ hnew HAN HZS HONE HSZ HT HTT hb2
    go_wp2
    go_loopw [22] (fun i wr => ∃ k : Nat, k ≤ l.length ∧ i = .int .i64 k ∧ ArrAt wr w2.heap.size (nxtA l k) ∧ OwnI (w2.heap.size + 1) wr (.slice (some ⟨w2.heap.size + 1, 0, none⟩) l.length l.length) (codeTo l k) ∧ Below w.heap.size w wr) (fun i _ => l.length - (intOf i).toNat)
    case atStart => exact ⟨0, Nat.zero_le _, rfl, HA3.out, hown_.out, hb3⟩
    case round =>
      clear hb3
      obtain ⟨k, hk, rfl, hA, hown, hbel⟩ := hrel
      by_cases hlt : k < l.length
      · obtain ⟨x, rfl, hxb, hx⟩ := h_.out.at k hlt
        have cx := hx k hlt
        have cx : wr.cell? (x.add k) = some (.int .i64 (l.getD k 0)) := by rw [hbel.cell (by rw [add_block]; exact hxb)]; exact cx
        obtain ⟨g0, g1⟩ := hg_.out k hlt
        have Z0 := Lib.hid (fun e => And.intro (nxtA_zero l k hlt e) (codeTo_skip l k hlt e))
        have Z1 := Lib.hid (fun m a b c => And.intro (nxtA_one l k m hlt a b c) (codeTo_one l k m hlt a b c))
        obtain ⟨X, hX⟩ : ∃ X, l.getD k 0 = X := ⟨_, rfl⟩
        rw [hX] at cx g0 g1 Z0 Z1
        clear hX hx
        obtain ⟨m, rfl⟩ : ∃ m : Nat, X = m := ⟨X.toNat, by omega⟩
        by_cases h0 : m = 0
        · subst h0
          have HE := Lib.hid (Z0.out rfl)
          have hA_ := Lib.hid hA
          have hown_ := Lib.hid hown
          clear hA hown
          go_wp2
          go_roundw
          case rel => exact ⟨k + 1, by omega, by go_num, by rw [HE.out.1]; exact hA_.out, by rw [HE.out.2]; exact hown_.out, hbel⟩
          case measure => simp [intOf]; omega
        · have HE := Lib.hid (Z1.out m rfl (by omega) (by omega))
          have hc := hA.cell m (by rw [nxtA_len]; omega)
          have hfr := hA.free m
          have hfo := hown.free k
          have hcv : 0 ≤ (nxtA l k).getD m 0 ∧ (nxtA l k).getD m 0 ≤ 70368744177664 := by
            rw [nxtA_get _ _ _ (by omega), if_neg h0]
            have := cnt_le (l.take k) m
            have := first_bd l m (by omega)
            rw [List.length_take] at *
            omega
          have hq := hown.int_cell k (by rw [codeTo_len]; exact hlt)
          obtain ⟨C, hC⟩ : ∃ C, (nxtA l k).getD m 0 = C := ⟨_, rfl⟩
          have hc2 := hA.far (b := w2.heap.size + 1) (i := k) (by omega) (.int .i64 C)
          have HS := Lib.hid (hc2.set m (C + 1))
          have HO := Lib.hid (OwnS.grown (hown.set_int k C (by rw [codeTo_len]; exact hlt)) (World.grownBy_setCell ⟨w2.heap.size, m, none⟩ (.int .i64 (C + 1))) (.inr (by simp [Value.ownBlock])))
          rw [hC] at hc hcv HE
          rw [HE.out.1] at HS
          rw [HE.out.2] at HO
          have hA_ := Lib.hid hA
          have hown_ := Lib.hid hown
          have hc2_ := Lib.hid hc2
          clear hA hown hc2
          clear hC HE
          go_wp2
          go_roundw
          case rel => exact ⟨k + 1, by omega, by go_num, HS.out, HO.out, (hbel.setCell (by simp; omega) _).setCell (by simp; omega) _⟩
          case measure => simp [intOf]; omega
      · obtain rfl : k = l.length := by omega
        have HV := Lib.hid (hown.isL (by rw [codeTo_len]; omega))
        clear hown hA
        go_wp2
        go_ret2
        exact ⟨_, rfl, HV.out, hbel⟩
  · have hO : codesL l = [] := by unfold codesL; rw [if_neg hE]
    rw [hO]
    obtain ⟨E, hEE⟩ : ∃ E, check l 16 = E := ⟨_, rfl⟩
    rw [hEE] at C hE ⊢
    have e1 : (E == 0) = false := by rw [beq_eq_false_iff_ne]; exact hE
    have e2 : (E != 0) = true := by rw [bne, e1]; rfl
    have C_ := Lib.hid C
    clear C
    clear hE hEE hO
    go_enter Try.func16, Try.ntmps16
    go_wp2_with fail
    refine C_.out.mono ?_; rintro e w0 ⟨rfl, n0, rfl⟩
    go_wp2_with fail
    go_ret2
    exact ⟨_, rfl, IsL.nil _, below_dn (Below.refl _ _) n0⟩
/-- What stands where symbols are laid: the first of each length, behind k symbols. -/
def plcA (l : List Int) (k : Nat) : List Int := (List.range 17).map (fun n => if n = 0 then 0 else ((tot l (n - 1) + cnt (l.take k) n : Nat) : Int))
theorem plcA_len (l : List Int) (k : Nat) : (plcA l k).length = 17 := by simp [plcA]
theorem plcA_get (l : List Int) (k n : Nat) (h : n < 17) : (plcA l k).getD n 0 = if n = 0 then 0 else ((tot l (n - 1) + cnt (l.take k) n : Nat) : Int) := by
  simp [plcA, List.getD_eq_getElem?_getD, h]
/-- Of 1 to k lengths where their symbols begin. -/
def begA (l : List Int) (k : Nat) : List Int := (List.range 17).map (fun n => if n ≤ k ∧ n ≠ 0 then (tot l (n - 1) : Int) else 0)
theorem begA_len (l : List Int) (k : Nat) : (begA l k).length = 17 := by simp [begA]
theorem begA_get (l : List Int) (k n : Nat) (h : n < 17) : (begA l k).getD n 0 = if n ≤ k ∧ n ≠ 0 then (tot l (n - 1) : Int) else 0 := by
  simp [begA, List.getD_eq_getElem?_getD, h]
theorem begA_start (l : List Int) : List.replicate 17 0 = begA l 1 := by
  refine getD_ext _ _ (by rw [begA_len, List.length_replicate]) (fun i hi => ?_)
  rw [List.length_replicate] at hi
  rw [begA_get _ _ _ hi]
  by_cases h : i ≤ 1 ∧ i ≠ 0
  · rw [if_pos h, show i = 1 by omega]; simp [tot, List.getD_eq_getElem?_getD]
  · rw [if_neg h, List.getD_eq_getElem?_getD, List.getElem?_replicate, if_pos hi]; rfl
theorem begA_end (l : List Int) : begA l 16 = plcA l 0 := by
  refine getD_ext _ _ (by rw [begA_len, plcA_len]) (fun i hi => ?_)
  rw [begA_len] at hi
  rw [begA_get _ _ _ hi, plcA_get _ _ _ hi]
  by_cases h : i = 0
  · rw [if_neg (by omega), if_pos h]
  · rw [if_pos ⟨by omega, h⟩, if_neg h]; simp [cnt]
theorem begA_step (l : List Int) (k : Nat) (hk : 1 ≤ k) (hk16 : k < 16) : (begA l k).set (k + 1) ((begA l k).getD k 0 + (cntA l).getD k 0) = begA l (k + 1) := by
  refine getD_ext _ _ (by rw [List.length_set, begA_len, begA_len]) (fun i hi => ?_)
  rw [List.length_set, begA_len] at hi
  rw [set_getD, begA_len, begA_get _ _ i hi, begA_get _ (k + 1) i hi, begA_get _ _ k (by omega), cntA_get _ k (by omega), if_pos (show k ≤ k ∧ k ≠ 0 by omega), if_neg (by omega : ¬ k = 0)]
  by_cases h : k + 1 = i
  · subst h
    rw [if_pos ⟨rfl, by omega⟩, if_pos ⟨Nat.le_refl _, by omega⟩, Nat.add_sub_cancel]
    have e : tot l k = tot l (k - 1) + cnt l k := by
      obtain ⟨j, rfl⟩ : ∃ j, k = j + 1 := ⟨k - 1, by omega⟩
      simp [tot]
    rw [e]; omega
  · rw [if_neg (by omega)]
    by_cases h1 : i ≤ k ∧ i ≠ 0
    · rw [if_pos h1, if_pos ⟨by omega, h1.2⟩]
    · rw [if_neg h1, if_neg (by omega)]
theorem plcA_zero (l : List Int) (k : Nat) (h : k < l.length) (h0 : l.getD k 0 = 0) : plcA l (k + 1) = plcA l k := by
  refine getD_ext _ _ (by rw [plcA_len, plcA_len]) (fun i hi => ?_)
  rw [plcA_len] at hi
  rw [plcA_get _ _ _ hi, plcA_get _ _ _ hi, cnt_take_succ l k i h]
  by_cases hi0 : i = 0
  · rw [if_pos hi0, if_pos hi0]
  · rw [if_neg hi0, if_neg hi0, if_neg (by omega)]; rfl
theorem plcA_one (l : List Int) (k m : Nat) (h : k < l.length) (h0 : l.getD k 0 = m) (h1 : 1 ≤ m) (h16 : m ≤ 16) : (plcA l k).set m ((plcA l k).getD m 0 + 1) = plcA l (k + 1) ∧ (plcA l k).getD m 0 = pos l k := by
  refine ⟨getD_ext _ _ (by rw [List.length_set, plcA_len, plcA_len]) (fun i hi => ?_), ?_⟩
  · rw [List.length_set, plcA_len] at hi
    rw [set_getD, plcA_len, plcA_get _ _ i hi, plcA_get _ _ i hi, plcA_get _ _ m (by omega), if_neg (by omega : ¬ m = 0), cnt_take_succ l k i h]
    by_cases hm : m = i
    · subst hm; rw [if_pos ⟨rfl, by omega⟩, if_neg (by omega), if_pos h0]; omega
    · rw [if_neg (by omega)]
      by_cases hi0 : i = 0
      · rw [if_pos hi0, if_pos hi0]
      · rw [if_neg hi0, if_neg hi0, if_neg (by omega)]; rfl
  · rw [plcA_get _ _ _ (by omega), if_neg (by omega)]
    have : len l k = m := by unfold len; omega
    unfold pos; rw [this]
theorem tot_le (l : List Int) (n : Nat) : tot l n ≤ n * l.length := by
  induction n with
  | zero => simp [tot]
  | succ n ih => simp only [tot, Nat.add_mul]; have := cnt_le l (n + 1); omega
/-- The order as far as the first k symbols are laid; noughts where none is yet. -/
def ordK (l : List Int) (k : Nat) : List Int := (ord l).map (fun s => if s < k then (s : Int) else 0)
theorem ordK_len (l : List Int) (k : Nat) : (ordK l k).length = (ord l).length := by simp [ordK]
theorem ordK_start (l : List Int) : ordK l 0 = List.replicate (ord l).length 0 := by
  unfold ordK
  rw [List.eq_replicate_iff]
  refine ⟨by simp, fun x hx => ?_⟩
  obtain ⟨s, -, rfl⟩ := List.mem_map.1 hx
  simp
theorem ordK_end (l : List Int) : ordK l l.length = (ord l).map (fun s : Nat => (s : Int)) := by
  unfold ordK
  refine List.map_congr_left (fun s hs => ?_)
  rw [if_pos ((mem_ord l s).1 hs).1]
theorem ordK_skip (l : List Int) (k : Nat) (h0 : l.getD k 0 = 0) : ordK l (k + 1) = ordK l k := by
  unfold ordK
  refine List.map_congr_left (fun s hs => ?_)
  have := (mem_ord l s).1 hs
  have hne : s ≠ k := by rintro rfl; omega
  by_cases h : s < k
  · rw [if_pos h, if_pos (by omega)]
  · rw [if_neg h, if_neg (by omega)]
theorem ordK_one (l : List Int) (k : Nat) (h : k < l.length) (h1 : 1 ≤ len l k) (h16 : len l k ≤ 16) : (ordK l k).set (pos l k) k = ordK l (k + 1) ∧ pos l k < (ord l).length := by
  have hp := ord_pos l k h h1 h16
  have hlt : pos l k < (ord l).length := (List.getElem?_eq_some_iff.1 hp).1
  refine ⟨?_, hlt⟩
  apply List.ext_getElem?
  intro i
  unfold ordK
  rw [List.getElem?_set, List.getElem?_map, List.getElem?_map, List.length_map]
  by_cases hi : pos l k = i
  · subst hi
    rw [if_pos rfl, if_pos hlt, hp]; simp
  · rw [if_neg hi]
    rcases hq : (ord l)[i]? with _ | s
    · rfl
    · have hne : s ≠ k := by
        rintro rfl
        obtain ⟨_, _, _, _, e⟩ := pos_of_get l i s hq
        exact hi e
      simp only [Option.map_some, Option.some.injEq]
      by_cases h : s < k
      · rw [if_pos h, if_pos (by omega)]
      · rw [if_neg h, if_neg (by omega)]
theorem pickTo_eq (l : List Int) (n : Nat) (k : Nat) : pickTo l (n : Int) k = ((List.range k).filter (fun s => l.getD s 0 == (n : Int))).map (fun s : Nat => (s : Int)) := by
  induction k with
  | zero => rfl
  | succ k ih =>
    rw [List.range_succ, List.filter_append, List.map_append, pickTo, ih, List.filter_cons]
    by_cases h : l.getD k 0 = n
    · rw [if_pos h, if_pos (by rw [h]; exact beq_self_eq_true _)]; simp
    · rw [if_neg h, if_neg (by rw [beq_iff_eq]; exact h)]; simp
theorem ordTo_eq (l : List Int) (n : Nat) : ordTo l n = (upto l n).map (fun s : Nat => (s : Int)) := by
  induction n with
  | zero => rfl
  | succ n ih =>
    rw [ordTo, upto, List.map_append, ih]
    congr 1
    have := pickTo_eq l (n + 1) l.length
    simpa [ordN] using this
theorem orderL_eq (l : List Int) (h : check l 16 = 0) : orderL l = (ord l).map (fun s : Nat => (s : Int)) := by
  unfold orderL; rw [if_pos h]; exact ordTo_eq l 16
end Go.Proofs.Ytbdhfmoididkgaa
