import Derived.Test.YtipcdkemokkdfaaGreatK34
import Derived.Test.YtipcdkemokkdfaaGreatK33
import Derived.Defers
import Derived.Recover
/- Layer 12: Unpack, of the program and of the document. -/
namespace Go.Proofs.YtipcdkemokkdfaaGreat
open Go.ChangeShapes Go.WideShapes Go.ChangeAt Go.RowKit
set_option linter.unusedVariables false
set_option maxRecDepth 100000
open RunsMath
def UnpPost (r : Int × List Int) (w : World) (e : Ending) (w' : World) : Prop := ∃ v', e = .returned (.tuple #[v', .int .i64 r.1]) ∧ OwnI w.heap.size w' v' r.2 ∧ Below w.heap.size w w'
theorem unp_in (N : Nat) (h : N ≤ 1024) (l : List Run) : unpack l N = unp N [] 0 l := by unfold unpack; rw [if_neg (by omega), Int.toNat_natCast]
theorem drop_getDR (l : List Run) (k : Nat) (h : k < l.length) : l.drop k = l.getD k (0, 0) :: l.drop (k + 1) := by
  rw [List.drop_eq_getElem_cons h]; simp [List.getD_eq_getElem?_getD, h]
theorem fine_more (s m : Int) (h : fine (s, m) = true) : 0 ≤ m ∧ m ≤ 127 := by
  rcases fine_cases s m true h with ⟨_, h⟩ | ⟨_, _, h⟩ | ⟨_, _, _, h⟩ | ⟨_, _, h0, hb⟩
  · cases h
  · cases h
  · cases h
  · have := of_decide_eq_true hb.symm
    have hp : 2 ^ extra s ≤ 2 ^ 7 := Nat.pow_le_pow_right (by decide) (extra_le s)
    have e : ((2 ^ extra s : Nat) : Int) = (2 : Int) ^ extra s := by simp
    have hp2 : 2 ^ extra s ≤ 128 := hp
    generalize 2 ^ extra s = P at e hp2
    omega
theorem many_le (s m : Int) (h : 0 ≤ m ∧ m ≤ 127) : 1 ≤ many (s, m) ∧ many (s, m) ≤ 138 := by
  unfold many; simp only; split; omega; split <;> omega
set_option maxHeartbeats 6400000 in
theorem rUnpack (a : Option Addr) (c : Nat) (l : List Run) (N : Nat) (hN : N ≤ 1024) (hl : l.length ≤ 2000) (w : World) (h : IsRuns w a l) :
    Calls Tryz.prog 112 #[.slice a l.length c, .int .i64 N] w (UnpPost (unpack l N) w) := by
  rw [unp_in N hN l]
  obtain ⟨R, hR⟩ : ∃ R, unp N [] 0 l = R := ⟨_, rfl⟩
  rw [hR]
  have h_ := Lib.hid h
  clear h
  go_enter Tryz.func112, Tryz.ntmps112
  go_wp2
  go_loopw [6, 7, 20] (fun u v i wr => ∃ (k : Nat) (out : List Int) (x : Int), k ≤ l.length ∧ i = .int .i64 k ∧ v = .int .i64 x ∧ out.length ≤ N ∧ OwnI w.heap.size wr u out ∧ Below w.heap.size w wr ∧ Hid (unp N out x (l.drop k) = R)) (fun _ _ i _ => l.length - (intOf i).toNat)
  case atStart => exact ⟨0, [], 0, Nat.zero_le _, rfl, rfl, by simp, OwnS.nil, Below.refl _ _, Lib.hid hR⟩
  case round =>
    clear hR
    obtain ⟨k, out, x0, hk, rfl, rfl, hon, hown, hb, hp⟩ := hrel
    have hbs := hb.size
    by_cases hlt : k < l.length
    · obtain ⟨x, rfl, hxb, hx⟩ := h_.out.at k hlt
      obtain ⟨cx, cx2⟩ := hx k hlt
      have cx : wr.cell? (x.add (k * 2)) = _ := (hb.cell (by rw [add_block]; exact hxb)).trans cx
      have cx2 : wr.cell? ⟨(x.add (k * 2)).block, (x.add (k * 2)).off + 1, none⟩ = _ := (hb.cell (by show (x.add (k * 2)).block < _; rw [add_block]; exact hxb)).trans cx2
      have hp2 := hp.out
      rw [drop_getDR l k hlt, unp] at hp2
      obtain ⟨X, hX⟩ : ∃ X, l.getD k (0, 0) = X := ⟨_, rfl⟩
      rw [hX] at cx cx2 hp2
      obtain ⟨s, m⟩ := X
      simp only at cx cx2
      clear hX hp hx
      have cz0 : (wr.alloc (.cells #[.int .i64 s, .int .i64 m] 97)).cell? ⟨wr.heap.size, 0, none⟩ = some (.int .i64 s) := cell_lit (heap_alloc_new wr _) 0 _ rfl
      have cz1 : (wr.alloc (.cells #[.int .i64 s, .int .i64 m] 97)).cell? ⟨wr.heap.size, 1, none⟩ = some (.int .i64 m) := cell_lit (heap_alloc_new wr _) 1 _ rfl
      have CZ0 := Lib.hid cz0; have CZ1 := Lib.hid cz1
      clear cz0 cz1
      rcases hF : fine (s, m) with _ | _
      · rw [if_pos hF] at hp2
        have C := Lib.hid (rMayBe s m false hF (wr.alloc (.cells #[.int .i64 s, .int .i64 m] 97)))
        have HR := Lib.hid hp2
        clear hF hp2
        go_wp2_with fail
        refine C.out.mono ?_; rintro e w1 ⟨rfl, hb1⟩
        go_wp2_with fail
        go_ret2
        rw [← HR.out]
        exact ⟨_, rfl, OwnS.nil, (hb.alloc hbs _).trans (hb1.mono (by simp; omega))⟩
      · rw [if_neg (by rw [hF]; decide)] at hp2
        have C := Lib.hid (rMayBe s m true hF (wr.alloc (.cells #[.int .i64 s, .int .i64 m] 97)))
        have hm := fine_more s m hF
        have ht := many_le s m hm
        have CM := fun W => rMeaning s m x0 (what x0 (s, m)) (many (s, m)) rfl rfl (by omega) W
        obtain ⟨Y, hY⟩ : ∃ Y, what x0 (s, m) = Y := ⟨_, rfl⟩
        obtain ⟨t, htt⟩ : ∃ t, many (s, m) = t := ⟨_, rfl⟩
        rw [hY, htt] at CM hp2
        rw [htt] at ht
        have HOX := Lib.hid (hown.alloc (.cells #[.int .i64 s, .int .i64 m] 97))
        have CM_ := Lib.hid CM
        clear CM
        clear hF hY htt
        go_wp2_with fail
        refine C.out.mono ?_; rintro e w1 ⟨rfl, hb1⟩
        have cy0 : w1.cell? ⟨wr.heap.size, 0, none⟩ = some (.int .i64 s) := (hb1.cell (by simp)).trans CZ0.out
        have cy1 : w1.cell? ⟨wr.heap.size, 1, none⟩ = some (.int .i64 m) := (hb1.cell (by simp)).trans CZ1.out
        have hown1 := HOX.out.kept hb1
        have hb1 : Below w.heap.size w w1 := (hb.alloc hbs _).trans (hb1.mono (by simp; omega))
        have hown1_ := Lib.hid hown1
        clear hown1
        clear hown HOX
        go_wp2_with fail
        refine (CM_.out w1).mono ?_; rintro e w2 ⟨rfl, hb2⟩
        have hown2 := hown1_.out.kept hb2
        have hb2 : Below w.heap.size w w2 := hb1.trans (hb2.mono hb1.size)
        obtain ⟨pu, pc, hpu⟩ := hown2.slice
        subst hpu
        clear hown1_ cy0 cy1 CZ0 CZ1 hb1 cx cx2 hb hbs
        by_cases hfit : N < out.length + t
        · rw [if_pos hfit] at hp2
          have HR := Lib.hid hp2
          have hfi : (N : Int) < (out.length : Int) + (t : Int) := by omega
          have hown2_ := Lib.hid hown2
          clear hown2
          clear hp2 hfit
          go_wp2_with fail
          go_ret2
          rw [← HR.out]
          exact ⟨_, rfl, OwnS.nil, hb2⟩
        · rw [if_neg hfit] at hp2
          have HR := Lib.hid hp2
          have hfi : ¬ (N : Int) < (out.length : Int) + (t : Int) := by omega
          have hown2_ := Lib.hid hown2
          clear hown2
          clear hp2
          go_wp2_with fail
          go_loopw [6, 40] (fun u i wr => ∃ j : Nat, j ≤ t ∧ i = .int .i64 j ∧ OwnI w.heap.size wr u (out ++ List.replicate j Y) ∧ Below w.heap.size w wr) (fun _ i _ => t - (intOf i).toNat)
          case atStart => exact ⟨0, Nat.zero_le _, rfl, by simpa using hown2_.out, hb2⟩
          case round =>
            clear hb2
            obtain ⟨j, hj, rfl, hown, hb⟩ := hrel
            have hbs := hb.size
            by_cases hjt : j < t
            · have HL := Lib.hid (show (out ++ List.replicate j Y).length ≤ 1099511627776 by simp; omega)
              have HE := Lib.hid (show (out ++ List.replicate j Y) ++ [Y] = out ++ List.replicate (j + 1) Y by rw [List.append_assoc, List.replicate_succ'])
              have HB := Lib.hid hbs
              go_wp2_with (at_builtin; refine app_int rfl (.tmp 42) (.tmp 44) rfl _ _ _ _ Y rfl hown wr.heap.size 1 rfl rfl HL.out HB.out ?_; intro v3 w3 hown3 hb3 _)
              rw [HE.out] at hown3
              have hown3_ := Lib.hid hown3
              clear hown3
              go_wp2
              go_roundw
              case rel => exact ⟨j + 1, by omega, by go_num, hown3_.out, hb.trans hb3⟩
              case measure => simp [intOf]; omega
            · obtain rfl : j = t := by omega
              have hln : (out ++ List.replicate j Y).length ≤ N := by simp; omega
              have hown_ := Lib.hid hown
              clear hown
              go_wp2
              go_roundw
              case rel => exact ⟨k + 1, _, Y, by omega, by go_num, rfl, hln, hown_.out, hb, HR⟩
              case measure => simp [intOf]; omega
    · have hp2 := hp.out
      rw [List.drop_of_length_le (by omega), unp] at hp2
      obtain ⟨pu, pc, hpu⟩ := hown.slice
      subst hpu
      by_cases hsh : out.length < N
      · rw [if_pos hsh] at hp2
        have HR := Lib.hid hp2
        have hsi : (out.length : Int) < (N : Int) := by omega
        clear hp2 hp
        have hown_ := Lib.hid hown
        clear hown
        go_wp2
        go_ret2
        rw [← HR.out]
        exact ⟨_, rfl, OwnS.nil, hb⟩
      · rw [if_neg hsh] at hp2
        have HR := Lib.hid hp2
        have hsi : ¬ (out.length : Int) < (N : Int) := by omega
        clear hp2 hp
        have hown_ := Lib.hid hown
        clear hown
        go_wp2
        go_ret2
        rw [← HR.out]
        exact ⟨_, rfl, hown_.out, hb⟩
end Go.Proofs.YtipcdkemokkdfaaGreat

/- Layer 13: lengths are read. -/
namespace Go.Proofs.YtipcdkemokkdfaaGreat
open Go.ChangeShapes Go.WideShapes Go.ChangeAt Go.RowKit
set_option linter.unusedVariables false
set_option linter.unusedSimpArgs false
set_option maxRecDepth 100000
open Bits hiding packF pack_length
open RunsMath KraftMath CanonMath TurnMath Pm
theorem far_any {w1 : World} {g a : Nat} {s : List UInt8} (h : IsReader w1 g s a) : Far w1 g w1.heap.size := by
  obtain ⟨p, L, C, hg, h1, h2, h3, h4, h5, h6⟩ := h
  refine ⟨block_lt hg, fun p' L' C' u' t' e h0 => ?_⟩
  rw [hg] at e
  injection e with e
  injection e with e _ _
  have h7 := congrArg Array.toList e
  simp at h7
  obtain ⟨⟨rfl, rfl, rfl⟩, -, -⟩ := h7
  obtain ⟨b, o, rfl, -, hbl, -⟩ := h6 h0
  exact ⟨b, o, rfl, hbl⟩
/-- A reader under way. -/
structure Rs (w0 w : World) (g : Nat) (s : List UInt8) (t : Nat) : Prop where
  rd : IsReader w g s t
  keep : Keeps (fun k => k = g) w0 w
  far : Far w g w0.heap.size
theorem Rs.start {w : World} {g t : Nat} {s : List UInt8} (h : IsReader w g s t) : Rs w w g s t := ⟨h, Keeps.refl _ _, far_any h⟩
theorem Rs.below {w0 w w' : World} {g t : Nat} {s : List UInt8} (h : Rs w0 w g s t) (hb : Below w0.heap.size w w') : Rs w0 w' g s t :=
  ⟨(reader_low h.rd h.far hb).1, ⟨hb.os.trans h.keep.os, hb.tape.trans h.keep.tape, hb.output.trans h.keep.output, Nat.le_trans h.keep.size hb.size, fun k hk hn => (hb.block k hk).trans (h.keep.block k hk hn)⟩, (reader_low h.rd h.far hb).2⟩
theorem Rs.step {w0 w w' : World} {g t t' : Nat} {s : List UInt8} (h : Rs w0 w g s t) (hr : IsReader w' g s t') (hk : Keeps (fun k => k = g) w w') (hF : ∀ B, Far w g B → Far w' g B) : Rs w0 w' g s t' :=
  ⟨hr, h.keep.trans' hk (fun _ _ e => e), hF _ h.far⟩
theorem own_keeps {α : Type} {f : α → List Value} {E sz B g : Nat} {w w' : World} {v : Value} {l : List α} (h : OwnS f E sz B w v l) (hk : Keeps (fun k => k = g) w w') (hB : g < B) : OwnS f E sz B w' v l :=
  hk.ownsRow h (fun j hj e => by have := (OwnS.lt h j hj).1; have e' : j = g := e; omega)
theorem tab_low {w w' : World} {B gt ge L N M : Nat} {tab : List (Int × Int)} (h : IsTab w B gt ge L N tab) (hb : Below M w w') (h1 : gt < M) (h2 : ge < M) : IsTab w' B gt ge L N tab := by
  refine ⟨(hb.block _ h1).trans h.tb, h.row.1, ?_⟩
  rcases h.row.2 with hn | ⟨g, cap, cur, e1, hbb, hgg, rest⟩
  · exact .inl hn
  · have : ge = g := by injection e1 with e1 _ _; injection e1 with e1; injection e1
    subst this
    exact .inr ⟨ge, cap, cur, e1, hbb, (hb.block ge h2).trans hgg, rest⟩
theorem Tb13.low {w w' : World} {B gt ge g M : Nat} {o : List Int} (h : Tb13 w B gt ge g o) (hb : Below M w w') (h1 : gt < M) (h2 : ge < M) : Tb13 w' B gt ge g o := ⟨tab_low h.tab hb h1 h2, h.far1, h.far2⟩
/-- The runs' lengths of k places. -/
def headO (L : List Bool) : Nat → List Int
  | 0 => List.replicate 19 0
  | j + 1 => (headO L j).set (placesN.getD j 0) ((peek (L.drop (3 * j)) 3 : Nat) : Int)
theorem headO_len (L : List Bool) : ∀ j, (headO L j).length = 19
  | 0 => by simp [headO]
  | j + 1 => by rw [headO, List.length_set, headO_len L j]
inductive RdR where
  | bad (E : Int)
  | good (r : List Run) (t : Nat)
def rdR (o : List Int) (L : List Bool) (n : Nat) : Nat → Nat → Nat → List Run → RdR
  | 0, _, _, _ => .bad 0
  | f + 1, t, m, a =>
    if n ≤ m then .good a t
    else if (nextL o 7 (L.drop t)).2.2 ≠ 0 then .bad (nextL o 7 (L.drop t)).2.2
    else if L.length < t + (nextL o 7 (L.drop t)).2.1.toNat + extra (nextL o 7 (L.drop t)).1 then .bad 3
    else
      let r : Run := ((nextL o 7 (L.drop t)).1, ((peek (L.drop (t + (nextL o 7 (L.drop t)).2.1.toNat)) (extra (nextL o 7 (L.drop t)).1) : Nat) : Int))
      if r.1 = 16 ∧ a = [] then .bad 4
      else if n < m + many r then .bad 4
      else rdR o L n f (t + (nextL o 7 (L.drop t)).2.1.toNat + extra (nextL o 7 (L.drop t)).1) (m + many r) (a ++ [r])
theorem rdR_step (o : List Int) (L : List Bool) (n f t m : Nat) (a : List Run) (hm : ¬ n ≤ m) (X Y E : Int) (hX : nextL o 7 (L.drop t) = (X, Y, E)) :
    rdR o L n (f + 1) t m a = if E ≠ 0 then .bad E else if L.length < t + Y.toNat + extra X then .bad 3 else
      if X = 16 ∧ a = [] then .bad 4 else if n < m + many (X, ((peek (L.drop (t + Y.toNat)) (extra X) : Nat) : Int)) then .bad 4 else
      rdR o L n f (t + Y.toNat + extra X) (m + many (X, ((peek (L.drop (t + Y.toNat)) (extra X) : Nat) : Int))) (a ++ [(X, ((peek (L.drop (t + Y.toNat)) (extra X) : Nat) : Int))]) := by
  rw [rdR, if_neg hm, hX]
/-- How a reading ends. -/
def EndR (R : RdR) (w0 : World) (g : Nat) (s : List UInt8) (n : Nat) (e : Ending) (w' : World) : Prop :=
  match R with
  | .bad E => e = .panicked [flt E] ∧ Keeps (fun k => k = g) w0 w'
  | .good r t => ∃ v, e = .returned v ∧ OwnI w0.heap.size w' v (unpack r n).2 ∧ Rs w0 w' g s t
set_option maxHeartbeats 6400000 in
theorem cRead (w0 : World) (g t0 : Nat) (s : List UInt8) (hr : IsReader w0 g s t0) (n : Nat) (hn1 : 1 ≤ n) (hn : n ≤ 1024) (k : Nat) (hk : peek ((spread s).drop t0) 4 + 4 = k) (hlen : t0 + 4 + 3 * k ≤ 8 * s.length) (o : List Int) (ho : headO ((spread s).drop (t0 + 4)) k = o) (hc : check o 7 = 0) (R : RdR) (hR : rdR o (spread s) n (n + 1) (t0 + 4 + 3 * k) 0 [] = R) (hU : ∀ r t, R = .good r t → r.length ≤ 1024 → (unpack r n).1 = 0) :
    Calls Tryz.prog 96 #[.pointer (some ⟨g, 0, none⟩), .int .i64 n] w0 (EndR R w0 g s n) := by
  obtain ⟨Z, hZs, hz, hi⟩ := arr19
  have HSZ : Hid ((Tryz.prog.info? 136).map (·.size) = some (arrI placesI).size) := by show _ = _; rw [hi, placesA_size]
  have HZS : Hid (Z.size = (arrI placesI).size) := by show _ = _; rw [hZs, placesA_size]
  have HONE := Lib.hid (arrI_one placesI)
  have HPC := Lib.hid (fun W gs (h : PlAt W gs) i hi => h.cell i hi)
  have HPK := Lib.hid (fun (W : World) => show PlAt (W.alloc (.cells (arrI placesI) 136)) W.heap.size from heap_alloc_new W _)
  have CO := Lib.hid (fun W => cOrder13 W)
  obtain ⟨T, hTT⟩ : ∃ T, arrI placesI = T := ⟨_, rfl⟩
  rw [hTT] at HSZ HZS HONE HPK CO
  have hpk := peek_lt ((spread s).drop t0) 4
  have hk4 : 4 ≤ k := by omega
  have hk19 : k ≤ 19 := by omega
  have HS0 := Lib.hid (Rs.start hr)
  have hgl : g < w0.heap.size := hr.lt
  have HR := Lib.hid hR
  have HU := Lib.hid hU
  have HC := Lib.hid hc
  have HO := Lib.hid ho
  have CT4 := Lib.hid (fun W (h : IsReader W g s t0) => show Calls Tryz.prog 107 #[.pointer (some ⟨g, 0, none⟩), .int .i64 4] W _ from (tTakeIn W g t0 4 s h (by decide) (by omega)))
  obtain ⟨K4, hK4⟩ : ∃ K4, peek ((spread s).drop t0) 4 = K4 := ⟨_, rfl⟩
  rw [hK4] at CT4 hk hpk
  have hkI : (K4 : Int) + 4 = (k : Int) := by omega
  clear hi hZs hTT hr hR hU hc ho hK4 hk
  go_enter Tryz.func96, Tryz.ntmps96
  go_wp2_with fail
  refine (CO.out _).mono ?_; rintro e w1 ⟨rfl, hb1⟩
  have HS1 := Lib.hid (HS0.out.below hb1)
  have hsz1 := hb1.size
  clear hb1 CO HS0
  go_wp2_with (first
    | (refine wpList_store_row rfl 136 (.tmp 5) (.tmp 16) rfl w1.heap.size T rfl rfl 136 Z (heap_alloc_new w1 _) HSZ.out HZS.out HONE.out ?_; rw [setRow_last])
    | fail)
  obtain ⟨gs, hgs⟩ : ∃ gs, w1.heap.size = gs := ⟨_, rfl⟩
  obtain ⟨w2, hw2⟩ : ∃ w2, w1.alloc (.cells T 136) = w2 := ⟨_, rfl⟩
  have HS2 := Lib.hid (show Rs w0 w2 g s t0 by rw [← hw2]; exact HS1.out.below ((Below.refl _ _).alloc hsz1 _))
  have HP2 := Lib.hid (show PlAt w2 gs by rw [← hw2, ← hgs]; exact HPK.out w1)
  have hgs0 : w0.heap.size ≤ gs := by omega
  rw [hw2]
  rw [hgs]
  have C2 := Lib.hid (CT4.out w2 HS2.out.rd)
  clear HS1 hw2 hgs hsz1 HPK CT4 HSZ HZS HONE
  refine C2.out.mono ?_; rintro e w3 ⟨rfl, hr3, hk3, hF3⟩
  have HS3 := Lib.hid (HS2.out.step hr3 hk3 hF3)
  have HP3 := Lib.hid (show PlAt w3 gs from (hk3.block gs (block_lt HP2.out) (by show ¬ gs = g; omega)).trans HP2.out)
  clear hr3 hk3 hF3 HS2 HP2 C2
  have hk19i : (k : Int) ≤ 19 := by omega
  have hk0i : (0 : Int) ≤ (k : Int) := by omega
  have hsl := fun W => slA k gs hk19 W
  have hkw : IntKind.i64.wrap ((K4 : Int) + 4) = (k : Int) := by rw [IntKind.wrap_i64]; omega
  go_wp2_with (first
    | (refine make_int rfl (.const (.int .i64 19)) (.const (.int .i64 19)) rfl .i64 .i64 _ _ 19 rfl rfl rfl rfl (by omega) ?_; intro w4 ho4 hb4 hz4)
    | fail)
  obtain ⟨gf, hgf⟩ : ∃ gf, w3.heap.size = gf := ⟨_, rfl⟩
  rw [hgf] at ho4 hb4 hz4 ⊢
  have hgf0 : w0.heap.size ≤ gf := by rw [← hgf]; exact HS3.out.keep.size
  have HS4 := Lib.hid (HS3.out.below (hb4.mono hgf0))
  have HP4 := Lib.hid (show PlAt w4 gs from HP3.out.kept (by rw [hgf]; exact hb4))
  have hgsf : gs < gf := by rw [← hgf]; exact block_lt HP3.out
  have HO4 := Lib.hid (show OwnI gf w4 (.slice (some ⟨gf, 0, none⟩) 19 19) (headO ((spread s).drop (t0 + 4)) 0) from ho4)
  clear ho4 hb4 hz4 HS3 HP3 hgf
  go_wp2_with fail
  go_loopw [24] (fun iv wr => ∃ j : Nat, iv = .int .i64 j ∧ j ≤ k ∧ Hid (Rs w0 wr g s (t0 + 4 + 3 * j)) ∧ Hid (PlAt wr gs) ∧ Hid (OwnI gf wr (.slice (some ⟨gf, 0, none⟩) 19 19) (headO ((spread s).drop (t0 + 4)) j))) (fun iv _ => k - (intOf iv).toNat)
  case atStart => exact ⟨0, rfl, Nat.zero_le _, HS4, HP4, HO4⟩
  case round =>
    clear HS4 HP4 HO4
    obtain ⟨j, rfl, hj, hs, hp, ho⟩ := hrel
    by_cases hlt : j < k
    · have hp19 := places_lt j (by omega)
      have cp := HPC.out _ _ hp.out j (by omega)
      obtain ⟨p, hpp⟩ : ∃ p, placesN.getD j 0 = p := ⟨_, rfl⟩
      have hnx : headO ((spread s).drop (t0 + 4)) (j + 1) = (headO ((spread s).drop (t0 + 4)) j).set p ((peek ((spread s).drop (t0 + 4 + 3 * j)) 3 : Nat) : Int) := by
        rw [headO, hpp, List.drop_drop]
      have CT := Lib.hid (show Calls Tryz.prog 107 #[.pointer (some ⟨g, 0, none⟩), .int .i64 3] wr _ from (tTakeIn wr g (t0 + 4 + 3 * j) 3 s hs.out.rd (by decide) (by omega)))
      obtain ⟨V, hV⟩ : ∃ V, peek ((spread s).drop (t0 + 4 + 3 * j)) 3 = V := ⟨_, rfl⟩
      rw [hV] at CT hnx
      rw [hpp] at hp19 cp
      have HNX := Lib.hid hnx
      have hji : (j : Int) < (k : Int) := by omega
      have hpi : (p : Int) < 19 := by omega
      have hj0 : (0 : Int) ≤ (j : Int) := by omega
      have hp0 : (0 : Int) ≤ (p : Int) := by omega
      clear hpp hnx hV
      go_wp2_with fail
      refine CT.out.mono ?_; rintro e w5 ⟨rfl, hr5, hk5, hF5⟩
      have HS5 := Lib.hid (hs.out.step hr5 hk5 hF5)
      have HP5 := Lib.hid (show PlAt w5 gs from (hk5.block gs (block_lt hp.out) (by show ¬ gs = g; omega)).trans hp.out)
      have ho5 := own_keeps ho.out hk5 (by omega)
      have cf := OwnS.int_cell ho5 p (by rw [headO_len]; exact hp19)
      have ff := ho5.free p
      have hgw := (OwnS.lt ho5 gf rfl).2
      have HO6 := Lib.hid (show OwnI gf (w5.setCell ⟨gf, p, none⟩ (.int .i64 (V : Int))) (.slice (some ⟨gf, 0, none⟩) 19 19) (headO ((spread s).drop (t0 + 4)) (j + 1)) by
        rw [HNX.out]; exact OwnS.set_int ho5 p (V : Int) (by rw [headO_len]; exact hp19))
      have HS6 := Lib.hid (show Rs w0 (w5.setCell ⟨gf, p, none⟩ (.int .i64 (V : Int))) g s (t0 + 4 + 3 * (j + 1)) from HS5.out.below ((Below.refl _ w5).setCell (p := ⟨gf, p, none⟩) hgf0 _))
      have HP6 := Lib.hid (show PlAt (w5.setCell ⟨gf, p, none⟩ (.int .i64 (V : Int))) gs from ((Below.heap_setCell w5 ⟨gf, p, none⟩ _ gs (by show gs ≠ gf; omega))).trans HP5.out)
      clear hr5 hk5 hF5 ho5 HNX CT hs hp ho HS5 HP5
      go_wp2_with fail
      go_roundw
      case rel => exact ⟨j + 1, by go_num, by omega, HS6, HP6, HO6⟩
      case measure => simp [intOf]; omega
    · obtain rfl : j = k := by omega
      have hji : ¬ (j : Int) < (j : Int) := by omega
      have HS7 := hs
      have HO7 := Lib.hid (show OwnI gf wr (.slice (some ⟨gf, 0, none⟩) 19 19) o by rw [← HO.out]; exact ho.out)
      have HL := Lib.hid (show o.length = 19 by rw [← HO.out]; exact headO_len _ _)
      clear hs hp ho
      go_wp2_with fail
      have hc16 := check_16 HC.out
      have HOI := Lib.hid (own_ints HO7.out (by rw [HL.out]; decide))
      have CK := Lib.hid (show Calls Tryz.prog 62 #[.slice (some ⟨gf, 0, none⟩) 19 19, .int .i64 7] wr fun e w' => e = .returned (.int .i64 0) ∧ ∃ k, w' = wr.drewN k by
        have := kCheck_any (some ⟨gf, 0, none⟩) 19 7 o wr HOI.out
        rw [HL.out, show check o 7 = 0 from HC.out] at this
        exact this)
      have CF := Lib.hid (fun W (h : IsInts W (some ⟨gf, 0, none⟩) o) => show Calls Tryz.prog 109 #[.slice (some ⟨gf, 0, none⟩) 19 19, .int .i64 7] W fun e w' => ∃ gt ge, e = .returned (.tuple #[.pointer (some ⟨gt, 0, none⟩), .int .i64 0]) ∧ IsTab w' W.heap.size gt ge 7 128 (tabK o 7 o.length) ∧ W.heap.size ≤ gt ∧ Below W.heap.size W w' by
        have := fNew (some ⟨gf, 0, none⟩) 19 o 7 (by decide) (by decide) HC.out W h
        rw [HL.out] at this ⊢
        exact this)
      have CM := Lib.hid mOk
      refine CK.out.mono ?_; rintro e w5 ⟨rfl, kd, rfl⟩
      have HS7 := Lib.hid (HS7.out.below (below_dn (Below.refl w0.heap.size wr) kd))
      have HOI := Lib.hid (HOI.out.kept (below_dn (Below.refl wr.heap.size wr) kd))
      obtain ⟨wk, hwk⟩ : ∃ wk, wr.drewN kd = wk := ⟨_, rfl⟩
      rw [hwk] at HS7 HOI ⊢
      clear hwk
      have HOF := Lib.hid (show Of13 o from ⟨hc16.2.1, by rw [HL.out]; decide⟩)
      clear hc16 CK HO7
      go_wp2_with fail
      refine (CM.out _).mono ?_; rintro e w6 ⟨rfl, h6⟩; rw [h6]; clear h6 w6
      go_wp2_with fail
      refine (CF.out _ HOI.out).mono ?_; rintro e w7 ⟨gt, ge, rfl, ht7, hgt, hb7⟩
      have hge := (World.ownsRow.lt ht7.row ge rfl).1
      have HS8 := Lib.hid (show Rs w0 w7 g s (t0 + 4 + 3 * j) from HS7.out.below (hb7.mono HS7.out.keep.size))
      have hszr := HS7.out.keep.size
      have HT8 := Lib.hid (show Tb13 w7 wk.heap.size gt ge g o from ⟨ht7, by have : wk.heap.size ≤ gt := hgt; omega, by have : wk.heap.size ≤ ge := hge; omega⟩)
      have hgt7 := block_lt ht7.tb
      have hge7 := (World.ownsRow.lt ht7.row ge rfl).2
      clear ht7 hb7 HS7 HOI CF hgt hge HL
      go_wp2_with fail
      refine (CM.out _).mono ?_; rintro e w8 ⟨rfl, h8⟩; rw [h8]; clear h8 w8
      obtain ⟨wt, hwt⟩ : ∃ wt, w7 = wt := ⟨_, rfl⟩
      obtain ⟨D, hD⟩ : ∃ D, wt.heap.size = D := ⟨_, rfl⟩
      rw [hwt] at HS8 HT8 hgt7 hge7 ⊢
      rw [hD] at hgt7 hge7
      have hD0 : w0.heap.size ≤ D := by rw [← hD]; exact HS8.out.keep.size
      have HD := Lib.hid hD
      clear hwt hD
      have HR8 := Lib.hid (show rdR o (spread s) n (n + 1) (t0 + 4 + 3 * j) 0 [] = R from HR.out)
      clear HR
      go_wp2_with fail
      go_loopw [12, 13] (fun rv iv wr => ∃ (m t f : Nat) (a : List Run), iv = .int .i64 m ∧ m ≤ n ∧ Hid (rdR o (spread s) n f t m a = R) ∧ n < m + f ∧ a.length ≤ m ∧ D ≤ wr.heap.size ∧ Hid (Rs w0 wr g s t) ∧ Hid (∃ B, Tb13 wr B gt ge g o) ∧ Hid (OwnR D wr rv a)) (fun _ iv _ => n - (intOf iv).toNat)
      case atStart => exact ⟨0, _, _, [], rfl, by omega, HR8, by omega, by simp, by rw [HD.out]; exact Nat.le_refl _, HS8, Lib.hid ⟨_, HT8.out⟩, Lib.hid OwnS.nil⟩
      case round =>
        clear HS8 HT8 HR8 HD
        obtain ⟨m, t, f, a, rfl, hm, hrd, hf, ham, hDs, hs, ht, ho⟩ := hrel
        obtain ⟨f, rfl⟩ : ∃ f', f = f' + 1 := ⟨f - 1, by omega⟩
        by_cases hlt : m < n
        · have hmi : (m : Int) < (n : Int) := by omega
          obtain ⟨q, hq⟩ : ∃ q, nextL o 7 ((spread s).drop t) = q := ⟨_, rfl⟩
          obtain ⟨X, Y, E⟩ := q
          have hst := rdR_step o (spread s) n f t m a (by omega) X Y E hq
          rw [hst] at hrd
          obtain ⟨B, htb⟩ := ht.out
          by_cases hE : E = 0
          · subst hE
            rw [if_neg (by simp)] at hrd
            by_cases hsh : 8 * s.length < t + Y.toNat + extra X
            · rw [if_pos (by rw [spread_length]; exact hsh)] at hrd
              have CR := Lib.hid (tRunShort wr g t B gt ge s o hs.out.rd htb HOF.out X Y hq (extra X) rfl hsh)
              have HEN := Lib.hid hrd.out
              have HKs := hs.out.keep
              clear hq hst hrd hs ht htb ho
              go_wp2_with fail
              refine CR.out.mono ?_; rintro e w9 ⟨rfl, hk9⟩
              go_wp2_with fail
              exact ⟨rfl, by rw [← HEN.out]; exact ⟨rfl, HKs.trans' hk9 (fun _ _ e => e)⟩⟩
            · rw [if_neg (by rw [spread_length]; exact hsh)] at hrd
              have CR := Lib.hid (tRunOk wr g t B gt ge s o hs.out.rd htb HOF.out X Y hq (extra X) rfl (by omega))
              have hpk := peek_lt ((spread s).drop (t + Y.toNat)) (extra X)
              have hx7 := extra7 X
              obtain ⟨K, hK⟩ : ∃ K, peek ((spread s).drop (t + Y.toNat)) (extra X) = K := ⟨_, rfl⟩
              rw [hK] at CR hpk hrd
              obtain ⟨xx, hxx⟩ : ∃ xx, extra X = xx := ⟨_, rfl⟩
              rw [hxx] at CR hrd hpk hx7
              have hK128 : K < 128 := Nat.lt_of_lt_of_le hpk (Nat.le_trans (Nat.pow_le_pow_right (by decide) hx7) (by decide))
              obtain ⟨t2, ht2⟩ : ∃ t2, t + Y.toNat + xx = t2 := ⟨_, rfl⟩
              rw [ht2] at CR hrd
              have HRD := hrd
              have hml := many_le X K (by omega)
              obtain ⟨N, hN⟩ : ∃ N, many (X, (K : Int)) = N := ⟨_, rfl⟩
              rw [hN] at HRD hml
              have CTM := Lib.hid (fun W => tTimes X K N hN (by omega) W)
              have CM4 := Lib.hid (fun W => mNo 4 (by decide) W)
              obtain ⟨p, c, hrv⟩ := OwnS.slice ho.out
              subst hrv
              have hgw : g < wr.heap.size := hs.out.rd.lt
              clear hq hst hrd hpk hx7 hK hxx ht2 hN
              go_wp2_with fail
              refine CR.out.mono ?_; rintro e w9 ⟨rfl, hr9, hk9, hF9⟩
              have HS9 := Lib.hid (hs.out.step hr9 hk9 hF9)
              have HT9 := Lib.hid (htb.keeps hk9)
              have ho9 := own_keeps ho.out hk9 (by omega)
              obtain ⟨gx, hgx⟩ : ∃ gx, w9.heap.size = gx := ⟨_, rfl⟩
              have hgxD : D ≤ gx := by have := hk9.size; omega
              have HBX := Lib.hid (heap_alloc_new w9 (.cells #[.int .i64 X, .int .i64 (K : Int)] 97))
              have b0 := cell_lit HBX.out 0 (.int .i64 X) rfl
              have b1 := cell_lit HBX.out 1 (.int .i64 (K : Int)) rfl
              have HGX := Lib.hid hgx
              have hap := (OwnS.lt ho9)
              have HAP := Lib.hid hap
              rw [hgx] at b0 b1
              clear hr9 hk9 hF9 hs htb ho ht CR hap
              by_cases h16 : X = 16
              · subst h16
                by_cases ha : a = []
                · subst ha
                  have HEN := Lib.hid (HRD.out.symm.trans (by rw [if_pos ⟨rfl, rfl⟩]))
                  have HKs := HS9.out.keep
                  clear HRD HS9 HT9 ho9 HAP
                  go_wp2_with fail
                  refine (CM4.out _).mono ?_; rintro e w12 ⟨rfl, h12⟩; rw [h12]; clear h12 w12
                  go_wp2_with fail
                  exact ⟨rfl, by rw [HEN.out]; exact ⟨rfl, HKs.alloc _⟩⟩
                · have hab : ((a.length : Int) == 0) = false := by
                    rw [beq_eq_false_iff_ne]; intro e; exact ha (List.length_eq_zero_iff.1 (by omega))
                  have hrd := HRD.out
                  clear HRD
                  rw [if_neg (show ¬ ((16 : Int) = 16 ∧ a = []) from fun e => ha e.2)] at hrd
                  have HRD := Lib.hid hrd
                  clear hrd
                  have HXO := Lib.hid (ho9.alloc (.cells #[.int .i64 16, .int .i64 (K : Int)] 97))
                  have HG : Hid ((w9.alloc (.cells #[.int .i64 16, .int .i64 (K : Int)] 97)).heap.size = gx + 1) := by show _ = _; rw [← HGX.out]; simp
                  have HL : Hid (a.length ≤ 1099511627776) := by show _ ≤ _; omega
                  have HBZ : Hid (D ≤ (w9.alloc (.cells #[.int .i64 16, .int .i64 (K : Int)] 97)).heap.size) := by show _ ≤ _; rw [HG.out]; omega
                  have hwN : IntKind.i64.wrap ((m : Int) + (N : Int)) = (m : Int) + N := by rw [IntKind.wrap_i64]; omega
                  have HQ := Lib.hid (fun (w10 : World) (h : (w9.alloc (.cells #[.int .i64 16, .int .i64 (K : Int)] 97)).grownBy w10 (Value.slice p a.length c).ownBlock) => show w10.cell? ⟨gx, 0, none⟩ = some (.int .i64 16) ∧ w10.cell? ⟨gx, 1, none⟩ = some (.int .i64 (K : Int)) from by
                    have hbk := h.block gx (by rw [HG.out]; omega) (fun e => by have := (HAP.out gx e.symm).2; have := HGX.out; omega)
                    exact ⟨(World.cell?_of_block (a := ⟨gx, 0, none⟩) hbk).trans b0, (World.cell?_of_block (a := ⟨gx, 1, none⟩) hbk).trans b1⟩)
                  have HSB := Lib.hid (HS9.out.below ((Below.refl w0.heap.size w9).alloc HS9.out.keep.size (.cells #[.int .i64 16, .int .i64 (K : Int)] 97)))
                  have HTB := Lib.hid (HT9.out.keeps (keeps_new (w := w9) (S := fun k => k = g) (.cells #[.int .i64 16, .int .i64 (K : Int)] 97)))
                  clear ho9 HS9 HT9 HAP
                  go_wp2_with (at_builtin; refine app_run rfl (.tmp 59) (.tmp 61) rfl _ _ _ a 16 (K : Int) rfl HXO.out (gx + 1) 1 HG.out rfl HL.out HBZ.out ?_; intro v2 w10 hown2 hb2 hgr2; obtain ⟨q0, q1⟩ := HQ.out w10 hgr2)
                  have HO2 := Lib.hid hown2
                  have HS2 := Lib.hid (HSB.out.below (hb2.mono hD0))
                  have HT2 := Lib.hid (HTB.out.low hb2 hgt7 hge7)
                  have hsz2 := hb2.size
                  have hD10 : D ≤ w10.heap.size := by have := HBZ.out; omega
                  clear hown2 hb2 hgr2 HXO HBX HBZ HL HQ HSB HTB HG b0 b1 q0 q1 hsz2
                  refine (CTM.out _).mono ?_; rintro e w11 ⟨rfl, hb11⟩
                  have HO3 := Lib.hid (OwnS.kept HO2.out hb11)
                  have HS3 := Lib.hid (HS2.out.below (hb11.mono HS2.out.keep.size))
                  have HT3 := Lib.hid (HT2.out.low (hb11.mono hD10) hgt7 hge7)
                  have hD11 : D ≤ w11.heap.size := Nat.le_trans hD10 hb11.size
                  clear HO2 HS2 HT2 hb11 CTM
                  by_cases hov : n < m + N
                  · have hovi : (n : Int) < (m : Int) + (N : Int) := by omega
                    have HEN := Lib.hid (HRD.out.symm.trans (by rw [if_pos hov]))
                    have HKs := HS3.out.keep
                    clear HRD HS3 HT3 HO3
                    go_wp2_with fail
                    refine (CM4.out _).mono ?_; rintro e w12 ⟨rfl, h12⟩; rw [h12]; clear h12 w12
                    go_wp2_with fail
                    exact ⟨rfl, by rw [HEN.out]; exact ⟨rfl, HKs⟩⟩
                  · have hovi : ¬ (n : Int) < (m : Int) + (N : Int) := by omega
                    have hrd2 := HRD.out
                    rw [if_neg hov] at hrd2
                    have HRE := Lib.hid hrd2
                    clear hrd2 HRD
                    go_wp2_with fail
                    go_roundw
                    case rel => exact ⟨m + N, t2, f, _, by go_num, by omega, HRE, by omega, by rw [List.length_append, List.length_singleton]; omega, hD11, HS3, Lib.hid ⟨B, HT3.out⟩, HO3⟩
                    case measure => simp [intOf]; omega
              · have h16b : (X == 16) = false := by rw [beq_eq_false_iff_ne]; exact h16
                have hrd := HRD.out
                clear HRD
                rw [if_neg (fun e => h16 e.1)] at hrd
                have HRD := Lib.hid hrd
                clear hrd
                have HXO := Lib.hid (ho9.alloc (.cells #[.int .i64 X, .int .i64 (K : Int)] 97))
                have HG : Hid ((w9.alloc (.cells #[.int .i64 X, .int .i64 (K : Int)] 97)).heap.size = gx + 1) := by show _ = _; rw [← HGX.out]; simp
                have HL : Hid (a.length ≤ 1099511627776) := by show _ ≤ _; omega
                have HBZ : Hid (D ≤ (w9.alloc (.cells #[.int .i64 X, .int .i64 (K : Int)] 97)).heap.size) := by show _ ≤ _; rw [HG.out]; omega
                have hwN : IntKind.i64.wrap ((m : Int) + (N : Int)) = (m : Int) + N := by rw [IntKind.wrap_i64]; omega
                have HQ := Lib.hid (fun (w10 : World) (h : (w9.alloc (.cells #[.int .i64 X, .int .i64 (K : Int)] 97)).grownBy w10 (Value.slice p a.length c).ownBlock) => show w10.cell? ⟨gx, 0, none⟩ = some (.int .i64 X) ∧ w10.cell? ⟨gx, 1, none⟩ = some (.int .i64 (K : Int)) from by
                  have hbk := h.block gx (by rw [HG.out]; omega) (fun e => by have := (HAP.out gx e.symm).2; have := HGX.out; omega)
                  exact ⟨(World.cell?_of_block (a := ⟨gx, 0, none⟩) hbk).trans b0, (World.cell?_of_block (a := ⟨gx, 1, none⟩) hbk).trans b1⟩)
                have HSB := Lib.hid (HS9.out.below ((Below.refl w0.heap.size w9).alloc HS9.out.keep.size (.cells #[.int .i64 X, .int .i64 (K : Int)] 97)))
                have HTB := Lib.hid (HT9.out.keeps (keeps_new (w := w9) (S := fun k => k = g) (.cells #[.int .i64 X, .int .i64 (K : Int)] 97)))
                clear ho9 HS9 HT9 HAP
                go_wp2_with (at_builtin; refine app_run rfl (.tmp 59) (.tmp 61) rfl _ _ _ a X (K : Int) rfl HXO.out (gx + 1) 1 HG.out rfl HL.out HBZ.out ?_; intro v2 w10 hown2 hb2 hgr2; obtain ⟨q0, q1⟩ := HQ.out w10 hgr2)
                have HO2 := Lib.hid hown2
                have HS2 := Lib.hid (HSB.out.below (hb2.mono hD0))
                have HT2 := Lib.hid (HTB.out.low hb2 hgt7 hge7)
                have hsz2 := hb2.size
                have hD10 : D ≤ w10.heap.size := by have := HBZ.out; omega
                clear hown2 hb2 hgr2 HXO HBX HBZ HL HQ HSB HTB HG b0 b1 q0 q1 hsz2
                refine (CTM.out _).mono ?_; rintro e w11 ⟨rfl, hb11⟩
                have HO3 := Lib.hid (OwnS.kept HO2.out hb11)
                have HS3 := Lib.hid (HS2.out.below (hb11.mono HS2.out.keep.size))
                have HT3 := Lib.hid (HT2.out.low (hb11.mono hD10) hgt7 hge7)
                have hD11 : D ≤ w11.heap.size := Nat.le_trans hD10 hb11.size
                clear HO2 HS2 HT2 hb11 CTM
                by_cases hov : n < m + N
                · have hovi : (n : Int) < (m : Int) + (N : Int) := by omega
                  have HEN := Lib.hid (HRD.out.symm.trans (by rw [if_pos hov]))
                  have HKs := HS3.out.keep
                  clear HRD HS3 HT3 HO3
                  go_wp2_with fail
                  refine (CM4.out _).mono ?_; rintro e w12 ⟨rfl, h12⟩; rw [h12]; clear h12 w12
                  go_wp2_with fail
                  exact ⟨rfl, by rw [HEN.out]; exact ⟨rfl, HKs⟩⟩
                · have hovi : ¬ (n : Int) < (m : Int) + (N : Int) := by omega
                  have hrd2 := HRD.out
                  rw [if_neg hov] at hrd2
                  have HRE := Lib.hid hrd2
                  clear hrd2 HRD
                  go_wp2_with fail
                  go_roundw
                  case rel => exact ⟨m + N, t2, f, _, by go_num, by omega, HRE, by omega, by rw [List.length_append, List.length_singleton]; omega, hD11, HS3, Lib.hid ⟨B, HT3.out⟩, HO3⟩
                  case measure => simp [intOf]; omega
          · rw [if_pos hE] at hrd
            have CR := Lib.hid (tRunNo wr g t B gt ge s o hs.out.rd htb HOF.out X Y E hq hE)
            have HEN := Lib.hid hrd.out
            have HKs := hs.out.keep
            clear hq hst hrd hs ht htb ho
            go_wp2_with fail
            refine CR.out.mono ?_; rintro e w9 ⟨rfl, hk9⟩
            go_wp2_with fail
            exact ⟨rfl, by rw [← HEN.out]; exact ⟨rfl, HKs.trans' hk9 (fun _ _ e => e)⟩⟩
        · have hmi : ¬ (m : Int) < (n : Int) := by omega
          have hrd := hrd.out
          rw [rdR, if_pos (by omega)] at hrd
          have hun : (unpack a n).1 = 0 := HU.out a t hrd.symm (by omega)
          have CU := Lib.hid (fun A c W (h : IsRuns W A a) => rUnpack A c a n hn (by omega) W h)
          have HEN := Lib.hid hrd
          obtain ⟨p, c, hrv, hir⟩ := OwnS.isR ho.out (by omega)
          subst hrv
          have C := Lib.hid (CU.out p c wr hir)
          have HSs := hs
          clear hrd CU hir ho hs ht HU
          go_wp2_with fail
          refine C.out.mono ?_; rintro e w9 ⟨v9, rfl, ho9, hb9⟩
          rw [hun]
          have HO9 := Lib.hid (ho9.base HSs.out.keep.size)
          have HS9 := Lib.hid (HSs.out.below (hb9.mono HSs.out.keep.size))
          clear hun ho9 hb9 C
          go_wp2_with fail
          refine (CM.out _).mono ?_; rintro e w10 ⟨rfl, h10⟩; rw [h10]; clear h10 w10
          go_wp2_with fail
          go_ret
          rw [← HEN.out]
          exact ⟨_, rfl, HO9.out, HS9.out⟩
end Go.Proofs.YtipcdkemokkdfaaGreat

/- Layer 13: what is written is read back: mathematics. -/
namespace Go.Proofs.YtipcdkemokkdfaaGreat
set_option linter.unusedVariables false
set_option maxRecDepth 100000
open Bits hiding packF pack_length
open RunsMath KraftMath CanonMath TurnMath Pm
theorem peek_put (x n : Nat) (l : List Bool) (h : x < 2 ^ n) : peek (bitsOf x n ++ l) n = x := by
  unfold peek
  rw [List.take_append_of_le_length (by rw [bitsOf_length]; omega), List.take_of_length_le (by rw [bitsOf_length]; omega), wordOf_bitsOf, Nat.mod_eq_of_lt h]
theorem drop_len {α : Type} (a b : List α) (n : Nat) (h : a.length = n) : (a ++ b).drop n = b := by rw [← h, List.drop_left]
theorem len_7 {r : List Run} (h : RunsOk r) (i : Nat) : len (ofR r) i < 2 ^ 3 := by
  have := h.of_bd i
  show ((ofR r).getD i 0).toNat < 8
  omega
theorem head_peek {r : List Run} (h : RunsOk r) (N : Nat) (rest : List Bool) : ∀ k j, j < k → peek (((List.range k).flatMap (lenB (ofR r)) ++ rest).drop (3 * j)) 3 = len (ofR r) (placesN.getD j 0)
  | 0, j, hj => by omega
  | k + 1, j, hj => by
    rw [List.range_succ, List.flatMap_append, List.append_assoc]
    by_cases hk : j < k
    · exact head_peek h N _ k j hk
    · obtain rfl : j = k := by omega
      rw [drop_len _ _ (3 * j) (by
        have := headTo_len (ofR r) 4 j
        unfold headTo at this
        rw [List.length_append, bitsOf_length] at this
        omega)]
      show peek (([j].flatMap (lenB (ofR r))) ++ rest) 3 = _
      rw [List.flatMap_singleton]
      unfold lenB
      exact peek_put _ 3 _ (len_7 h _)
theorem places_all : ∀ x, x < 19 → ∃ i, i < 19 ∧ placesN.getD i 0 = x := by decide
theorem places_inj : ∀ i, i < 19 → ∀ j, j < 19 → placesN.getD i 0 = placesN.getD j 0 → i = j := by decide
theorem headO_at (L : List Bool) : ∀ k, k ≤ 19 → ∀ i, i < 19 → (headO L k).getD (placesN.getD i 0) 0 = if i < k then ((peek (L.drop (3 * i)) 3 : Nat) : Int) else 0
  | 0, _, i, hi => by
    rw [if_neg (by omega), headO, List.getD_eq_getElem?_getD, List.getElem?_replicate]
    split <;> rfl
  | k + 1, hk, i, hi => by
    rw [headO, getD_set _ _ _ _ (by rw [headO_len]; exact places_lt k (by omega))]
    by_cases h : k = i
    · subst h
      rw [if_pos rfl, if_pos (by omega)]
    · rw [if_neg (fun e => h (places_inj k (by omega) i hi e)), headO_at L k (by omega) i hi]
      by_cases h2 : i < k
      · rw [if_pos h2, if_pos (by omega)]
      · rw [if_neg h2, if_neg (by omega)]
theorem headN_zero (o : List Int) : ∀ k i, headN o k ≤ i → i < k → o.getD (placesN.getD i 0) 0 = 0
  | 0, i, _, h => by omega
  | k + 1, i, h1, h2 => by
    unfold headN at h1
    split at h1
    · rename_i hc
      by_cases h : i < k
      · exact headN_zero o k i h1 h
      · obtain rfl : i = k := by omega
        exact hc.2
    · omega
theorem headO_of {r : List Run} (h : RunsOk r) (rest : List Bool) : headO ((List.range (headN (ofR r) 19)).flatMap (lenB (ofR r)) ++ rest) (headN (ofR r) 19) = ofR r := by
  have hk := headN_le (ofR r) 19
  apply List.ext_getElem
  · rw [headO_len, ofR_len]
  · intro x h1 h2
    rw [headO_len] at h1
    obtain ⟨i, hi, hx⟩ := places_all x h1
    rw [← idx_get _ _ (by rw [headO_len]; exact h1), ← idx_get _ _ h2, ← hx, headO_at _ _ hk i hi]
    have hb := h.of_bd (placesN.getD i 0)
    by_cases hlt : i < headN (ofR r) 19
    · rw [if_pos hlt, head_peek h 0 rest _ i hlt]
      show (((((ofR r).getD (placesN.getD i 0) 0).toNat) : Nat) : Int) = _
      omega
    · rw [if_neg hlt, headN_zero (ofR r) 19 i (by omega) hi]
theorem next_run {r : List Run} (h : RunsOk r) {x : Run} (hx : x ∈ r) (rest : List Bool) : nextL (ofR r) 7 (runB (ofR r) x ++ rest) = (x.1, ((len (ofR r) x.1.toNat : Nat) : Int), 0) := by
  obtain ⟨s, hs, hs19, h1, h7, -⟩ := h.sym hx
  have hc := h.chk16
  rw [next_dec hc.1 hc.2 (by decide) (by decide) _ (fun _ _ => trivial)]
  have hh : Hit (ofR r) (runB (ofR r) x ++ rest) s := by
    refine ⟨by rw [ofR_len]; exact hs19, by omega, ?_⟩
    unfold runB bitsS begL
    rw [hs, Int.toNat_natCast, List.append_assoc]
    have e : (msb (code (ofR r) s) (len (ofR r) s) ++ (bitsOf x.2.toNat (extra (s : Int)) ++ rest)).take (msb (code (ofR r) s) (len (ofR r) s)).length = msb (code (ofR r) s) (len (ofR r) s) := List.take_left' rfl
    rw [e, decide_eq_true rfl, decide_eq_true (by rw [List.length_append]; omega)]
    rfl
  rw [decL_hit hc.1 hh, hs, Int.toNat_natCast]
def sumM (q : List Run) : Nat := (q.map many).sum
theorem sumM_cons (x : Run) (q : List Run) : sumM (x :: q) = many x + sumM q := by simp [sumM]
theorem unp_sum (n : Nat) : ∀ (q : List Run) (out : List Int) (a : Int) (l : List Int), unp n out a q = (0, l) → out.length ≤ n → out.length + sumM q = n
  | [], out, a, l, h, ho => by
    unfold unp at h
    split at h
    · injection h with h _; omega
    · simp [sumM]; omega
  | x :: q, out, a, l, h, ho => by
    unfold unp at h
    split at h
    · injection h with h _; omega
    · split at h
      · injection h with h _; omega
      · have := unp_sum n q _ _ _ h (by rw [List.length_append, List.length_replicate]; omega)
        rw [List.length_append, List.length_replicate] at this
        rw [sumM_cons]; omega
theorem run_len {r : List Run} (h : RunsOk r) {x : Run} (hx : x ∈ r) : (runB (ofR r) x).length = len (ofR r) x.1.toNat + extra x.1 := by
  unfold runB bitsS
  rw [List.length_append, bitsOf_length, msb_len]
theorem many_1 {r : List Run} (h : RunsOk r) {x : Run} (hx : x ∈ r) : 1 ≤ many x := by
  unfold many
  split
  · omega
  · split <;> omega
set_option maxHeartbeats 1600000 in
theorem rd_runs {r : List Run} (h : RunsOk r) (n : Nat) (rest : List Bool) : ∀ (q p : List Run) (A : List Bool) (m f : Nat), p ++ q = r → m + sumM q = n → q.length < f → (p = [] → ∀ x ∈ q.head?, x.1 ≠ 16) →
    rdR (ofR r) (A ++ q.flatMap (runB (ofR r)) ++ rest) n f A.length m p = .good r (A.length + (q.flatMap (runB (ofR r))).length) := by
  intro q
  induction q with
  | nil =>
    intro p A m f hp hm hf h16
    obtain ⟨f, rfl⟩ : ∃ f', f = f' + 1 := ⟨f - 1, by simp at hf; omega⟩
    rw [rdR, if_pos (by simp [sumM] at hm; omega)]
    simp at hp
    simp [hp]
  | cons x q ih =>
    intro p A m f hp hm hf h16
    obtain ⟨f, rfl⟩ : ∃ f', f = f' + 1 := ⟨f - 1, by simp at hf; omega⟩
    have hx : x ∈ r := by rw [← hp]; simp
    have h1 := many_1 h hx
    rw [sumM_cons] at hm
    obtain ⟨s, hs, hs19, hl1, hl7, k, hk, hkE, -⟩ := h.sym hx
    have hL : (A ++ (x :: q).flatMap (runB (ofR r)) ++ rest) = A ++ (runB (ofR r) x ++ (q.flatMap (runB (ofR r)) ++ rest)) := by simp [List.append_assoc]
    have hN := next_run h hx (q.flatMap (runB (ofR r)) ++ rest)
    have hd : nextL (ofR r) 7 ((A ++ (x :: q).flatMap (runB (ofR r)) ++ rest).drop A.length) = (x.1, ((len (ofR r) x.1.toNat : Nat) : Int), 0) := by
      rw [hL, List.drop_left]; exact hN
    have hrl := run_len h hx
    have hpk : ((peek ((A ++ (x :: q).flatMap (runB (ofR r)) ++ rest).drop (A.length + ((len (ofR r) x.1.toNat : Nat) : Int).toNat)) (extra x.1) : Nat) : Int) = x.2 := by
      rw [hL, Int.toNat_natCast, ← List.drop_drop, List.drop_left]
      unfold runB bitsS
      rw [List.append_assoc, drop_len _ _ _ (msb_len _ _), peek_put _ _ _ (by rw [hk, Int.toNat_natCast]; exact hkE), hk, Int.toNat_natCast]
    rw [rdR_step _ _ _ _ _ _ _ (by omega) _ _ _ hd, if_neg (by simp), hpk, if_neg (by
      rw [hL, List.length_append, List.length_append, hrl, Int.toNat_natCast]; omega), if_neg (by
      rintro ⟨e1, e2⟩
      exact h16 e2 x (by simp) e1), if_neg (by show ¬ n < m + many x; omega)]
    have ih := ih (p ++ [x]) (A ++ runB (ofR r) x) (m + many x) f (by simpa using hp) (by omega) (by simp at hf; omega) (fun e => by simp at e)
    rw [List.length_append, hrl] at ih
    have e1 : A.length + ((len (ofR r) x.1.toNat : Nat) : Int).toNat + extra x.1 = A.length + (len (ofR r) x.1.toNat + extra x.1) := by rw [Int.toNat_natCast]; omega
    rw [e1]
    have e2 : (A ++ (x :: q).flatMap (runB (ofR r)) ++ rest) = A ++ runB (ofR r) x ++ q.flatMap (runB (ofR r)) ++ rest := by simp [List.append_assoc]
    rw [e2]
    refine ih.trans ?_
    rw [List.flatMap_cons, List.length_append, hrl]
    congr 1
    omega
theorem pack_head {l : List Int} (hl : ∀ x ∈ l, 0 ≤ x ∧ x ≤ 15) : ∀ x ∈ (packF l.length (-1) l).head?, x.1 ≠ 16 := by
  intro x hx
  cases l with
  | nil => simp [packF] at hx
  | cons y l =>
    have hy := hl y List.mem_cons_self
    have hx : firstRun (-1) y (same y (y :: l)) = x := by simpa [packF] using hx
    rw [← hx]
    unfold firstRun
    split
    · simp
    · split
      · simp
      · rw [if_neg (fun e => by have := e.2.1; omega)]
        show y ≠ 16
        omega
end Go.Proofs.YtipcdkemokkdfaaGreat

/- Layer 13: lengths are read, faults caught. -/
namespace Go.Proofs.YtipcdkemokkdfaaGreat
open Go.ChangeShapes Go.WideShapes Go.ChangeAt Go.RowKit
set_option linter.unusedVariables false
set_option linter.unusedSimpArgs false
set_option maxRecDepth 100000
open Bits hiding packF pack_length
open RunsMath KraftMath CanonMath TurnMath Pm
theorem catch_no (p q : Addr) (w : World) :
    CallsD Tryz.prog 94 #[.pointer (some p), .pointer (some q)] .returning w fun e u' w' => e = .returned (.tuple #[]) ∧ u' = .returning ∧ w' = w := by
  refine callsD_of_wpS Tryz.func94 rfl fun c₀ cs hu => ?_
  apply wpS_seq
  apply wpS_region
  simp [wpOpsS, go_sem, recoverD, hu, Tryz.ntmps94, Exit.thenS]
  refine wpS_of_wp ?_
  go_wp2_with fail
  cases c₀
  simp_all [bodyPostS, results, Tryz.results94]
theorem catch_yes (gl ge : Nat) (x y : Value) (E : Int) (older : List PanicEntry) (w : World) (tl te : TypeId) (hl : w.heap[gl]? = some (.cells #[x] tl (0, 0))) (he : w.heap[ge]? = some (.cells #[y] te (0, 0))) (hne : gl ≠ ge) :
    CallsD Tryz.prog 94 #[.pointer (some ⟨gl, 0, none⟩), .pointer (some ⟨ge, 0, none⟩)] (.panicking (flt E :: older)) w fun e u' w' =>
      e = .returned (.tuple #[]) ∧ u' = .panicking ({ flt E with recovered := true } :: older) ∧ ∃ wz, Below w.heap.size w wz ∧ w' = (wz.setCell ⟨gl, 0, none⟩ (.slice none 0 0)).setCell ⟨ge, 0, none⟩ (.int .i64 E) := by
  refine callsD_of_wpS Tryz.func94 rfl fun c₀ cs hu => ?_
  apply wpS_seq
  apply wpS_region
  unfold flt at hu
  simp [wpOpsS, go_sem, recoverD, hu, Tryz.ntmps94, Exit.thenS, flt]
  refine wpS_of_wp ?_
  have CT := Lib.hid (fun W => tTold E W)
  go_wp2_with fail
  refine (CT.out _).mono ?_; rintro e w1 ⟨rfl, hb1⟩
  have h1 := (hb1.block gl (block_lt hl)).trans hl
  have h2 := (hb1.block ge (block_lt he)).trans he
  have c0 := cell_in h1 0
  have c1 := cell_in h2 0
  have f0 := free_in h1 0
  have f1 := free_in h2 0
  have hne' : ¬ ge = gl := fun e => hne e.symm
  simp only [List.getElem?_toArray, List.getElem?_cons_zero] at c0 c1
  have HB := Lib.hid hb1
  clear hb1 h1 h2 hl he CT
  go_wp2_with fail
  refine ⟨rfl, _, rfl, .tuple #[], ?_, rfl, rfl, w1, HB.out, rfl⟩
  simp [results, Tryz.results94, go_sem]
def EndRd (R : RdR) (w0 : World) (g : Nat) (s : List UInt8) (n : Nat) (v : Value) (E : Int) (w' : World) : Prop :=
  match R with
  | .bad F => v = .slice none 0 0 ∧ E = F
  | .good r t => E = 0 ∧ OwnI w0.heap.size w' v (unpack r n).2 ∧ IsReader w' g s t
set_option maxHeartbeats 3200000 in
theorem cReadAll (w0 : World) (g t0 : Nat) (s : List UInt8) (hr : IsReader w0 g s t0) (n : Nat) (hn1 : 1 ≤ n) (hn : n ≤ 1024) (R : RdR)
    (C : ∀ W, IsReader W g s t0 → Calls Tryz.prog 96 #[.pointer (some ⟨g, 0, none⟩), .int .i64 n] W (EndR R W g s n)) :
    Calls Tryz.prog 72 #[.pointer (some ⟨g, 0, none⟩), .int .i64 n] w0 fun e w' => ∃ v E, e = .returned (.tuple #[v, .int .i64 E]) ∧ Keeps (fun k => k = g) w0 w' ∧ EndRd R w0 g s n v E w' := by
  have hmf : ∀ (fn : Fn) (first cap : Array Value) (w : World), (Instr.makeFunc fn first cap).run Tryz.prog w = .ok (.func fn first cap) w := fun _ _ _ _ => rfl
  have HC := Lib.hid C
  have HR := Lib.hid hr
  have h1 : ¬ (n : Int) < 1 := by omega
  have h2 : ¬ (1024 : Int) < (n : Int) := by omega
  clear C hr
  go_enter_defers Tryz.func72, Tryz.ntmps72
  go_wp2_with fail
  have hx := heap_two_first w0 (.cells #[.slice none 0 0] 65) (.cells #[.int .i64 0] 29)
  have hy := heap_two_last w0 (.cells #[.slice none 0 0] 65) (.cells #[.int .i64 0] 29)
  have hb1 : Below w0.heap.size w0 ((w0.alloc (.cells #[.slice none 0 0] 65)).alloc (.cells #[.int .i64 0] 29)) := ((Below.refl _ w0).alloc (Nat.le_refl _) _).alloc (by simp) _
  obtain ⟨w1, hw1⟩ : ∃ w1, (w0.alloc (.cells #[.slice none 0 0] 65)).alloc (.cells #[.int .i64 0] 29) = w1 := ⟨_, rfl⟩
  have hgl : g < w0.heap.size := HR.out.lt
  rw [hw1] at hx hy hb1 ⊢
  obtain ⟨gl, hgl2⟩ : ∃ gl, w0.heap.size = gl := ⟨_, rfl⟩
  have hy2 := hy
  rw [hgl2] at hx hy2 hgl ⊢
  have HB1 := Lib.hid hb1
  have C1 := Lib.hid (HC.out w1 (HR.out.kept hb1))
  have HGL := Lib.hid hgl2
  clear hw1 hy hb1 hgl2 HC HR
  cases R with
  | bad F =>
    refine C1.out.mono ?_; rintro e w2 ⟨rfl, hk2⟩
    have hx2 := (hk2.block gl (block_lt hx) (by show ¬ gl = g; omega)).trans hx
    have hy3 := (hk2.block (gl + 1) (block_lt hy2) (by show ¬ gl + 1 = g; omega)).trans hy2
    have HK := Lib.hid hk2
    have HX2 := Lib.hid hx2
    have HY2 := Lib.hid hy3
    clear hx2 hy3 hk2 C1 hx hy2
    go_wp2_with fail
    refine leaves_cons (f := 94) (args := #[.pointer (some ⟨gl, 0, none⟩), .pointer (some ⟨gl + 1, 0, none⟩)]) (by simp) (by simp [go_sem]) ?_
    refine (catch_yes gl (gl + 1) _ _ F [] w2 _ _ HX2.out HY2.out (by omega)).mono ?_
    rintro e u' w3 ⟨rfl, rfl, wz, hbz, rfl⟩
    have hxz := (hbz.block gl (block_lt HX2.out)).trans HX2.out
    have hyz := (hbz.block (gl + 1) (block_lt HY2.out)).trans HY2.out
    have hx4 := (heap_setCell_other (wz.setCell ⟨gl, 0, none⟩ (.slice none 0 0)) ⟨gl + 1, 0, none⟩ gl (.int .i64 F) (by show gl ≠ gl + 1; omega)).trans (block_set hxz 0 (.slice none 0 0))
    have hy4 := block_set ((heap_setCell_other wz ⟨gl, 0, none⟩ (gl + 1) (.slice none 0 0) (by show gl + 1 ≠ gl; omega)).trans hyz) 0 (.int .i64 F)
    have q0 : ((wz.setCell ⟨gl, 0, none⟩ (.slice none 0 0)).setCell ⟨gl + 1, 0, none⟩ (.int .i64 F)).cell? ⟨gl, 0, none⟩ = some (.slice none 0 0) := cell_in hx4 0
    have q1 : ((wz.setCell ⟨gl, 0, none⟩ (.slice none 0 0)).setCell ⟨gl + 1, 0, none⟩ (.int .i64 F)).cell? ⟨gl + 1, 0, none⟩ = some (.int .i64 F) := cell_in hy4 0
    have HKE := Lib.hid (show Keeps (fun k => k = g) w0 ((wz.setCell ⟨gl, 0, none⟩ (.slice none 0 0)).setCell ⟨gl + 1, 0, none⟩ (.int .i64 F)) from
      (((Keeps.of_below (S := fun k => k = g) HB1.out).trans' HK.out (fun _ _ e => e)).trans' (Keeps.of_below (S := fun k => k = g) hbz) (fun _ _ e => e)).setCell (.inl (by show w0.heap.size ≤ gl; have := HGL.out; omega)) _ |>.setCell (.inl (by show w0.heap.size ≤ gl + 1; have := HGL.out; omega)) _)
    clear hxz hyz hx4 hy4
    simp [Leaves, settle, results, Tryz.results72, go_sem, q0, q1, flt]
    exact ⟨_, _, ⟨rfl, rfl⟩, HKE.out, rfl, rfl⟩
  | good r t =>
    refine C1.out.mono ?_; rintro e w2 ⟨v, rfl, ho2, hs2⟩
    obtain ⟨pv, cv, hv⟩ := OwnS.slice ho2
    obtain ⟨lv, hlv⟩ : ∃ lv, (unpack r n).2.length = lv := ⟨_, rfl⟩
    rw [hlv] at hv
    subst hv
    clear hlv
    have hk2 := hs2.keep
    have hx2 := (hk2.block gl (block_lt hx) (by show ¬ gl = g; omega)).trans hx
    have hy3 := (hk2.block (gl + 1) (block_lt hy2) (by show ¬ gl + 1 = g; omega)).trans hy2
    have c0 := cell_in hx2 0
    have c1 := cell_in hy3 0
    have f0 := free_in hx2 0
    have f1 := free_in hy3 0
    simp only [List.getElem?_toArray, List.getElem?_cons_zero] at c0 c1
    have hx4 := (heap_setCell_other (w2.setCell ⟨gl, 0, none⟩ (.slice pv lv cv)) ⟨gl + 1, 0, none⟩ gl (.int .i64 0) (by show gl ≠ gl + 1; omega)).trans (block_set hx2 0 (.slice pv lv cv))
    have hy4 := block_set ((heap_setCell_other w2 ⟨gl, 0, none⟩ (gl + 1) (.slice pv lv cv) (by show gl + 1 ≠ gl; omega)).trans hy3) 0 (.int .i64 0)
    have q0 : ((w2.setCell ⟨gl, 0, none⟩ (.slice pv lv cv)).setCell ⟨gl + 1, 0, none⟩ (.int .i64 0)).cell? ⟨gl, 0, none⟩ = some (.slice pv lv cv) := cell_in hx4 0
    have q1 : ((w2.setCell ⟨gl, 0, none⟩ (.slice pv lv cv)).setCell ⟨gl + 1, 0, none⟩ (.int .i64 0)).cell? ⟨gl + 1, 0, none⟩ = some (.int .i64 0) := cell_in hy4 0
    have HKE := Lib.hid (show Keeps (fun k => k = g) w0 ((w2.setCell ⟨gl, 0, none⟩ (.slice pv lv cv)).setCell ⟨gl + 1, 0, none⟩ (.int .i64 0)) from
      ((Keeps.of_below (S := fun k => k = g) HB1.out).trans' hk2 (fun _ _ e => e)).setCell (.inl (by show w0.heap.size ≤ gl; have := HGL.out; omega)) _ |>.setCell (.inl (by show w0.heap.size ≤ gl + 1; have := HGL.out; omega)) _)
    have hlo := block_lt hy2
    have HO5 := Lib.hid (show OwnI w0.heap.size ((w2.setCell ⟨gl, 0, none⟩ (.slice pv lv cv)).setCell ⟨gl + 1, 0, none⟩ (.int .i64 0)) (.slice pv lv cv) (unpack r n).2 from ((ho2.setLow (p := ⟨gl, 0, none⟩) (by show gl < w1.heap.size; omega) (.slice pv lv cv)).setLow (p := ⟨gl + 1, 0, none⟩) (by show gl + 1 < w1.heap.size; omega) _).base HB1.out.size)
    have HR5 := Lib.hid (show IsReader ((w2.setCell ⟨gl, 0, none⟩ (.slice pv lv cv)).setCell ⟨gl + 1, 0, none⟩ (.int .i64 0)) g s t from by
      refine reader_away (reader_away hs2.rd (k := gl) (fun j x e => ?_) (by omega) ((Keeps.refl (fun b => b = gl) w2).setCell (p := ⟨gl, 0, none⟩) (.inr rfl) (.slice pv lv cv))) (k := gl + 1) (fun j x e => ?_) (by omega) ((Keeps.refl (fun b => b = gl + 1) (w2.setCell ⟨gl, 0, none⟩ (.slice pv lv cv))).setCell (p := ⟨gl + 1, 0, none⟩) (.inr rfl) _)
      · rw [cell_in hx2 j] at e
        rcases j with _ | j <;> simp at e
      · rw [cell_in ((heap_setCell_other w2 ⟨gl, 0, none⟩ (gl + 1) (.slice pv lv cv) (by show gl + 1 ≠ gl; omega)).trans hy3) j] at e
        rcases j with _ | j <;> simp at e)
    clear hx4 hy4 hx2 hy3 hk2 ho2 hs2 C1 hx hy2
    go_wp2_with fail
    refine leaves_cons (f := 94) (args := #[.pointer (some ⟨gl, 0, none⟩), .pointer (some ⟨gl + 1, 0, none⟩)]) (by simp) (by simp [go_sem]) ?_
    refine (catch_no ⟨gl, 0, none⟩ ⟨gl + 1, 0, none⟩ _).mono ?_
    rintro e u' w3 ⟨rfl, rfl, rfl⟩
    simp [Leaves, settle, results, Tryz.results72, go_sem, q0, q1]
    exact ⟨_, _, ⟨rfl, rfl⟩, HKE.out, rfl, HO5.out, HR5.out⟩
end Go.Proofs.YtipcdkemokkdfaaGreat

/- Layer 13: the chapter's example: values. -/
namespace Go.Proofs.YtipcdkemokkdfaaGreat
set_option linter.unusedVariables false
set_option maxRecDepth 100000
open Bits hiding packF pack_length
open RunsMath KraftMath CanonMath TurnMath Pm
deriving instance DecidableEq for RdR
def O11 : List Int := [0, 1, 0, 0, 0, 0, 0, 0, 0, 0, 0, 0, 0, 0, 0, 0, 0, 0, 0]
theorem w11 : (writeB [(1, 0), (1, 0)] O11).length = 60 := by decide +kernel
theorem h11 : headO ((spread (pack (writeB [(1, 0), (1, 0)] O11))).drop (0 + 4)) 18 = O11 := by decide +kernel
theorem c11 : check O11 7 = 0 := by decide +kernel
end Go.Proofs.YtipcdkemokkdfaaGreat
