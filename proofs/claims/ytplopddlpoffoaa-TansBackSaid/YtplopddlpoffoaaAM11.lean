/- Layer 59: Decode. -/
import Derived.Test.YtplopddlpoffoaaAM10
namespace Go.Proofs.Ytplopddlpoffoaa
open Go.ChangeShapes Go.WideShapes Go.ChangeAt Go.RowKit
set_option linter.unusedVariables false
set_option linter.unusedSimpArgs false
set_option maxRecDepth 100000
open Bits
theorem cell_vals59 {w : World} {a : Addr} {v : Value} {cs : Array Value} {ty : TypeId} (h : w.cell? a = some v) (hg : w.heap[a.block]? = some (.cells cs ty (0, 0))) : ∃ o : Nat, cs[o]? = some v := by
  unfold World.cell? at h
  rw [hg] at h
  simp only at h
  split at h
  · cases h
  · exact ⟨_, h⟩
theorem own_full {B g n : Nat} {w : World} {l : List Int} (h : OwnI B w (.slice (some ⟨g, 0, none⟩) n n) l) (hn : n = l.length) : w.heap[g]? = some (.cells (intCells l).toArray 3 (0, 0)) := by
  subst hn
  have hfl : l.flatMap fI = intCells l := flatMap_fI l
  rcases h.2 with ⟨h1, -⟩ | ⟨g', cap, cur, h1, -, h3, -, -, h5, h6⟩
  · simp at h1
  · injection h1 with e1 e2 e3
    injection e1 with e1
    injection e1 with e1
    subst e1 e3
    rw [h3]
    have hl : (intCells l).length = l.length := intCells_len l
    have : cur.toList = intCells l := by
      rw [← hfl, ← h6, List.take_of_length_le]
      rw [Array.length_toList, h5]; exact Nat.le_refl _
    rw [← this]
theorem reader_away {w : World} {g t go n i B : Nat} {s : List UInt8} {l : List Int} {v : Value} (h : IsReader w g s t) (ho : OwnI B w (.slice (some ⟨go, 0, none⟩) n n) l) (hn : n = l.length) : IsReader (w.setCell ⟨go, i, none⟩ v) g s t := by
  obtain ⟨p, L, C, hg1, h1, h2, h3, h4, h5, h6⟩ := h
  have hfu := own_full ho hn
  have hne : g ≠ go := fun e => own_ne ho hg1 (by decide) (by rw [e]; rfl)
  have hk : Keeps (fun q => q = go) w (w.setCell ⟨go, i, none⟩ v) := (Keeps.refl (fun j => j = go) w).setCell (p := ⟨go, i, none⟩) (.inr rfl) v
  refine ⟨p, L, C, hk.heap hg1 hne, h1, h2, h3, h4, h5, fun h0 => ?_⟩
  obtain ⟨b, o, e, hn2, hlt, hc⟩ := h6 h0
  have hb : ¬ b = go := by
    intro e2
    subst e2
    obtain ⟨q, hq⟩ := cell_vals59 (hc 0 h0) hfu
    rw [List.getElem?_toArray] at hq
    unfold intCells at hq
    rw [List.getElem?_map] at hq
    cases hx : l[q]? with
    | none => rw [hx] at hq; simp at hq
    | some y => rw [hx] at hq; simp at hq
  exact ⟨b, o, e, hn2, Nat.lt_of_lt_of_le hlt hk.size, fun j hj => (hk.cell (p := ⟨b, o + j, none⟩) hlt hb).trans (hc j hj)⟩
theorem own_reader {B g n c gr t : Nat} {w w' : World} {l : List Int} {s : List UInt8} (h : OwnI B w (.slice (some ⟨g, 0, none⟩) n c) l) (hr : IsReader w gr s t) (hk : Keeps (fun j => j = gr) w w') : OwnI B w' (.slice (some ⟨g, 0, none⟩) n c) l := by
  obtain ⟨p, L, C, hg1, -⟩ := hr
  exact hk.ownsRow h (fun j hj e => own_ne h hg1 (by decide) (by
    have e1 : g = j := by simpa [Value.ownBlock] using hj
    have e2 : j = gr := e
    rw [e1, e2]; rfl))
theorem box_reader {gb gr t : Nat} {w w' : World} {cs : Array Value} {s : List UInt8} (h : w.heap[gb]? = some (.cells cs 55 (0, 0))) (hr : IsReader w gr s t) (hk : Keeps (fun j => j = gr) w w') : w'.heap[gb]? = some (.cells cs 55 (0, 0)) := by
  obtain ⟨p, L, C, hg1, -⟩ := hr
  refine hk.heap h (fun e => ?_)
  have e : gb = gr := e
  rw [e, hg1] at h
  injection h with h
  injection h with h1 h2
  exact absurd h2 (by decide)
theorem box_away {B g n i gb : Nat} {w : World} {cs : Array Value} {l : List Int} {v : Value} (h : w.heap[gb]? = some (.cells cs 55 (0, 0))) (ho : OwnI B w (.slice (some ⟨g, 0, none⟩) n n) l) : (w.setCell ⟨g, i, none⟩ v).heap[gb]? = some (.cells cs 55 (0, 0)) :=
  (Below.heap_setCell _ _ _ _ (fun e => own_ne ho h (by decide) (by rw [e]; rfl))).trans h
theorem cDecMany (s : ByteArray) (many : Int) (a : Option Addr) (c : Nat) (l : List Int) (m q : Nat) (w : World) (h : IsInts w a l) (hm5 : 5 ≤ m) (hm12 : m ≤ 12) (hq : 2 ^ m = q) (hv : norV l (q : Int) = true) (hmany : many < 0 ∨ 1048576 < many) : Calls Try.prog 15 #[.string s, .int .i64 many, .slice a l.length c, .int .i64 m] w fun e w' => e = .returned (.tuple #[.slice none 0 0, .int .i64 1]) ∧ Below w.heap.size w w' := by
  have CT := Lib.hid (cTab a c l m q w h hm5 hm12 hq hv)
  clear hq hv h
  by_cases h1 : many < 0
  · have d1 : decide (many < 0) = true := by simpa using h1
    go_enter Try.func15, Try.ntmps15
    go_wp2_with fail
    refine CT.out.mono ?_; rintro e w1 ⟨gs, cs, gm, rfl, -, -, -, hb⟩
    go_wp2_with fail
    go_ret2
    exact ⟨rfl, hb.alloc hb.size _⟩
  · have d1 : decide (many < 0) = false := by simpa using h1
    have d2 : decide (1048576 < many) = true := by simp; omega
    go_enter Try.func15, Try.ntmps15
    go_wp2_with fail
    refine CT.out.mono ?_; rintro e w1 ⟨gs, cs, gm, rfl, -, -, -, hb⟩
    go_wp2_with fail
    go_ret2
    exact ⟨rfl, hb.alloc hb.size _⟩
theorem cDecBad (s : ByteArray) (many : Int) (a : Option Addr) (c : Nat) (l : List Int) (n : Int) (w : World) (h : IsInts w a l) (hE : (sprV l n).2 ≠ 0) : Calls Try.prog 15 #[.string s, .int .i64 many, .slice a l.length c, .int .i64 n] w fun e w' => e = .returned (.tuple #[.slice none 0 0, .int .i64 (sprV l n).2]) ∧ Below w.heap.size w w' := by
  have CT := Lib.hid (cTabBad a c l n w h hE)
  obtain ⟨E, hEe⟩ : ∃ E, (sprV l n).2 = E := ⟨_, rfl⟩
  rw [hEe] at CT hE ⊢
  have hne : (E != 0) = true := by rw [bne_iff_ne]; exact hE
  clear h hEe
  go_enter Try.func15, Try.ntmps15
  go_wp2_with fail
  refine CT.out.mono ?_; rintro e w1 ⟨rfl, hb⟩
  go_wp2_with fail
  go_ret2
  exact ⟨rfl, hb.alloc hb.size _⟩
theorem dec_x {m q y W K : Nat} (hm : m ≤ 12) (hq : 2 ^ m = q) (h0 : 1 ≤ y) (h1 : y < 2 * q) (hK : movN m y = K) (hW : W < 2 ^ K) : q ≤ y * 2 ^ K + W ∧ y * 2 ^ K + W - q < q ∧ y * 2 ^ K ≤ 2 * q ∧ 2 ^ K ≤ q := by
  have h := mov_facts hm hq h0 h1
  rw [hK] at h
  have h3 := h.2.2.1
  rw [Nat.add_mul, Nat.one_mul] at h3
  have h4 := h.2.1
  exact ⟨by omega, by omega, by omega, h.2.2.2.2.1⟩
set_option maxHeartbeats 6400000 in
theorem cDec (s : ByteArray) (hs : s.size ≤ 1000) (many : Nat) (a : Option Addr) (c : Nat) (l : List Int) (m q : Nat) (w : World) (h : IsInts w a l) (hm5 : 5 ≤ m) (hm12 : m ≤ 12) (hq : 2 ^ m = q) (hv : norV l (q : Int) = true) (hmany : many ≤ 1048576) (out : List Int) (E : Int) (hD : decV l m q (spread s.data.toList) many = (out, E)) : Calls Try.prog 15 #[.string s, .int .i64 many, .slice a l.length c, .int .i64 m] w fun e w' => ∃ v, e = .returned (.tuple #[v, .int .i64 E]) ∧ OwnI w.heap.size w' v out ∧ Below w.heap.size w w' := by
  have CT := Lib.hid (cTab a c l m q w h hm5 hm12 hq hv)
  have hS : Sp l q := by rw [← hq]; exact sp_of hm5 (by rw [hq]; exact hv)
  have hq4 : q ≤ 4096 := by rw [← hq]; exact Nat.pow_le_pow_right (by decide) hm12
  have hq32 : 32 ≤ q := by rw [← hq]; exact Nat.le_trans (show 32 ≤ 2 ^ 5 by decide) (Nat.pow_le_pow_right (by decide) hm5)
  obtain ⟨h256, hf, -⟩ := norV_facts hv
  have HNB := Lib.hid (fun x hx => num_bd hS hf x hx)
  have HNG := Lib.hid (fun x hx => numsL_get (sprL l q) l x hx)
  have HMV := Lib.hid (fun y h0 h1 W => cMoves y m q hm12 hq h0 h1 W)
  have HDX := Lib.hid (fun y W K h0 h1 hK hW => dec_x (y := y) (W := W) (K := K) hm12 hq h0 h1 hK hW)
  have CR := Lib.hid (fun W => rNew s (by unfold maxLen; omega) W)
  obtain ⟨bits, hbits⟩ : ∃ bits, spread s.data.toList = bits := ⟨_, rfl⟩
  rw [hbits] at hD
  have hbl : bits.length ≤ 8000 := by rw [← hbits, spread_length, Array.length_toList]; have : s.data.size = s.size := rfl; omega
  have HBITS := Lib.hid hbits
  obtain ⟨L, hL⟩ : ∃ L, sprL l q = L := ⟨_, rfl⟩
  unfold decV at hD
  rw [hL] at hD CT HNB HNG
  have hLlen : L.length = q := by rw [← hL]; exact hS.len
  obtain ⟨NM, hNM⟩ : ∃ NM, numsL L l = NM := ⟨_, rfl⟩
  have hNMl : NM.length = q := by rw [← hNM]; simp [numsL, hLlen]
  rw [hNM] at CT HNG
  have HTK := Lib.hid (fun W g t n (h : IsReader W g s.data.toList t) t' X E2 hS2 => rTakeU W g t s.data.toList n h t' X E2 hS2)
  have HPK := Lib.hid (fun W g t n (h : IsReader W g s.data.toList t) X hS2 => rPeekU W g t s.data.toList n h X hS2)
  have HLF := Lib.hid (fun W g t (h : IsReader W g s.data.toList t) => rLeft W g t s.data.toList h)
  rw [hbits] at HTK HPK
  have hb8 : 8 * s.data.toList.length = bits.length := by rw [← hbits, spread_length]
  have HQ := Lib.hid hq
  have d1 : decide ((many : Int) < 0) = false := by simp
  have d2 : decide ((1048576 : Int) < (many : Int)) = false := by simp; omega
  clear h hv hS hf hbits hL hNM hq
  go_enter Try.func15, Try.ntmps15
  go_wp2_with fail
  refine CT.out.mono ?_; rintro e w1 ⟨gs, cs, gm, rfl, hos, hom, hgsm, hb⟩
  have lgs := (World.ownsRow.lt hos gs rfl).2
  have lgm := (World.ownsRow.lt hom gm rfl).2
  have hAL : Below w1.heap.size w1 (w1.alloc (.cells #[.slice (some ⟨gs, 0, none⟩) q cs, .slice (some ⟨gm, 0, none⟩) q q] 55)) := (Below.refl _ _).alloc (Nat.le_refl _) _
  have HOS := Lib.hid (OwnS.kept hos hAL)
  have HOM := Lib.hid (OwnS.kept hom hAL)
  have HX := Lib.hid (heap_alloc_new w1 (.cells #[.slice (some ⟨gs, 0, none⟩) q cs, .slice (some ⟨gm, 0, none⟩) q q] 55))
  have HB := Lib.hid (hb.alloc hb.size (.cells #[.slice (some ⟨gs, 0, none⟩) q cs, .slice (some ⟨gm, 0, none⟩) q q] 55))
  go_wp2_with fail
  obtain ⟨gb, hgb⟩ : ∃ gb, w1.heap.size = gb := ⟨_, rfl⟩
  obtain ⟨w2, hw2⟩ : ∃ w2, w1.alloc (.cells #[.slice (some ⟨gs, 0, none⟩) q cs, .slice (some ⟨gm, 0, none⟩) q q] 55) = w2 := ⟨_, rfl⟩
  have hwgb : w.heap.size ≤ gb := by rw [← hgb]; exact hb.size
  rw [hw2] at HOS HOM HX HB ⊢
  rw [hgb] at HX lgs lgm ⊢
  clear hw2 hgb hb hos hom hAL CT
  refine (CR.out _).mono ?_; rintro e w3 ⟨rfl, hr, hb3, hz3⟩
  obtain ⟨g, hg⟩ : ∃ g, w2.heap.size + 1 = g := ⟨_, rfl⟩
  rw [hg] at hr ⊢
  have HOS := Lib.hid (OwnS.kept HOS.out hb3)
  have HOM := Lib.hid (OwnS.kept HOM.out hb3)
  have HX := Lib.hid ((hb3.block gb (block_lt HX.out)).trans HX.out)
  have hw2s := HB.out.size
  have HB := Lib.hid (HB.out.trans (hb3.mono hw2s))
  have hwg : w.heap.size ≤ g := by omega
  have HR := Lib.hid hr
  clear hr hb3 hz3 hg CR hw2s
  by_cases hsh : bits.length < m
  · rw [if_pos hsh] at hD
    injection hD with e1 e2
    subst e1 e2
    have CTK := Lib.hid (HTK.out w3 g 0 (m : Int) HR.out 0 0 3 (by unfold takeS; rw [if_neg (by omega), if_pos (by rw [Int.toNat_natCast]; omega)]))
    clear hsh
    go_wp2_with fail
    refine CTK.out.mono ?_; rintro e w4 ⟨rfl, hr4, hk4⟩
    have HB4 := Lib.hid (HB.out.trans (hk4.below (B := w.heap.size) (fun j hj => ⟨by have := HB.out.size; omega, fun e => by have e : j = g := e; omega⟩)))
    clear hr4 hk4
    go_wp2_with fail
    go_ret2
    exact ⟨_, rfl, own_nil _ _, HB4.out⟩
  · rw [if_neg hsh] at hD
    obtain ⟨P, hP⟩ : ∃ P, peek bits m = P := ⟨_, rfl⟩
    have CTK := Lib.hid (HTK.out w3 g 0 (m : Int) HR.out (0 + m) P 0 (by unfold takeS; rw [if_neg (by omega), if_neg (by rw [Int.toNat_natCast]; omega), Int.toNat_natCast, List.drop_zero, hP]))
    rw [Nat.zero_add] at CTK
    have hPq : P < q := by rw [← hP, ← HQ.out]; exact peek_lt bits m
    rw [hP] at hD
    have HD := Lib.hid hD
    have hml : m ≤ bits.length := by omega
    clear hsh hP hD
    go_wp2_with fail
    refine CTK.out.mono ?_; rintro e w4 ⟨rfl, hr4, hk4⟩
    have HOS := Lib.hid (own_reader HOS.out HR.out hk4)
    have HOM := Lib.hid (own_reader HOM.out HR.out hk4)
    have HX := Lib.hid (box_reader HX.out HR.out hk4)
    have HB := Lib.hid (HB.out.trans (hk4.below (B := w.heap.size) (fun j hj => ⟨by have := HB.out.size; omega, fun e => by have e : j = g := e; omega⟩)))
    have HR := Lib.hid hr4
    clear hr4 hk4 CTK
    have hPw : IntKind.i64.wrap (P : Int) = (P : Int) := by rw [IntKind.wrap_i64]; omega
    have hgb4 := block_lt HX.out
    go_wp2_with (refine make_int rfl _ _ rfl .i64 .i64 (many : Int) (many : Int) many rfl rfl rfl rfl (by omega) ?_; intro w5 ho5 hb5 hs5)
    have HOS := Lib.hid (OwnS.kept HOS.out (hb5.mono (Nat.le_refl _)))
    have HOM := Lib.hid (OwnS.kept HOM.out (hb5.mono (Nat.le_refl _)))
    have HX := Lib.hid ((hb5.block gb (block_lt HX.out)).trans HX.out)
    have HR := Lib.hid (HR.out.kept hb5)
    obtain ⟨go, hgo⟩ : ∃ go, w4.heap.size = go := ⟨_, rfl⟩
    have hwgo : w.heap.size ≤ go := by rw [← hgo]; exact HB.out.size
    have HB := Lib.hid (HB.out.trans (hb5.mono HB.out.size))
    rw [hgo] at ho5 hgb4 ⊢
    have HO := Lib.hid (show OwnI w.heap.size w5 (.slice (some ⟨go, 0, none⟩) many many) (List.replicate many 0) from OwnS.base ho5 hwgo)
    have HGO := Lib.hid (show gs ≠ go ∧ gm ≠ go from ⟨fun e => by omega, fun e => by omega⟩)
    clear ho5 hb5 hs5 hgo hPw
    go_wp2_with fail
    clear d1 d2
    obtain ⟨sy, hsy⟩ : ∃ sy : Nat → Int, (fun x => L.getD x 0) = sy := ⟨_, rfl⟩
    obtain ⟨nu, hnu⟩ : ∃ nu : Nat → Nat, (fun x => (numL L l x).toNat) = nu := ⟨_, rfl⟩
    have HSY := Lib.hid (show ∀ x, L.getD x 0 = sy x from fun x => by rw [← hsy])
    have HNU := Lib.hid (show ∀ x, x < q → NM.getD x 0 = (nu x : Int) ∧ 1 ≤ nu x ∧ nu x < 2 * q from fun x hx => by
      have h1 := HNB.out x hx
      rw [← hnu, HNG.out x (by rw [hLlen]; exact hx)]
      exact ⟨h1.2.2, h1.1, h1.2.1⟩)
    have HD := Lib.hid (show decF bits (decS sy nu m q bits many m P []) = (out, E) by rw [← hsy, ← hnu]; exact HD.out)
    have HLL := Lib.hid hLlen
    have HML := Lib.hid hNMl
    have HB8 := Lib.hid hb8
    clear hsy hnu HNB HNG hLlen hNMl hb8
    go_loopw [14, 53] (fun xv iv wr => ∃ (i t x : Nat) (acc : List Int), i ≤ many ∧ iv = .int .i64 i ∧ xv = .int .i64 x ∧ x < q ∧ t ≤ bits.length ∧ acc.length = i ∧ Hid (decF bits (decS sy nu m q bits (many - i) t x acc) = (out, E)) ∧ Hid (IsReader wr g s.data.toList t) ∧ Hid (OwnI w.heap.size wr (.slice (some ⟨gs, 0, none⟩) q cs) L) ∧ Hid (OwnI w.heap.size wr (.slice (some ⟨gm, 0, none⟩) q q) NM) ∧ Hid (wr.heap[gb]? = some (.cells #[.slice (some ⟨gs, 0, none⟩) q cs, .slice (some ⟨gm, 0, none⟩) q q] 55 (0, 0))) ∧ Hid (OwnI w.heap.size wr (.slice (some ⟨go, 0, none⟩) many many) (acc ++ List.replicate (many - i) 0)) ∧ Hid (Below w.heap.size w wr) ∧ Hid (gs ≠ go ∧ gm ≠ go)) (fun _ iv _ => many - (intOf iv).toNat)
    case atStart => exact ⟨0, m, P, [], Nat.zero_le _, rfl, rfl, hPq, hml, rfl, HD, HR, HOS, HOM, HX, Lib.hid (by simpa using HO.out), HB, HGO⟩
    case round =>
      clear HD HR HOS HOM HX HO HB HGO
      obtain ⟨i, t, x, acc, hi, rfl, rfl, hx, ht, hal, hd, hr, hos, hom, hbx, ho, hb, hne⟩ := hrel
      by_cases hlt : i < many
      · have hmi : many - i = (many - (i + 1)) + 1 := by omega
        obtain ⟨hn1, hn2, hn3⟩ := HNU.out x hx
        have hol : (acc ++ List.replicate (many - i) (0 : Int)).length = many := by simp [hal]; omega
        have x0 := cell_lit hbx.out 0 _ rfl
        have x1 := cell_lit hbx.out 1 _ rfl
        have c1 := hos.out.int_cell x (by rw [HLL.out]; exact hx)
        rw [HSY.out x] at c1
        have c2 := hom.out.int_cell x (by rw [HML.out]; exact hx)
        rw [hn1] at c2
        have co := ho.out.int_cell i (by rw [hol]; exact hlt)
        have fo := ho.out.free i
        obtain ⟨U, hU⟩ : ∃ U, (acc ++ List.replicate (many - i) (0 : Int)).getD i 0 = U := ⟨_, rfl⟩
        rw [hU] at co
        obtain ⟨V, hV⟩ : ∃ V, sy x = V := ⟨_, rfl⟩
        rw [hV] at c1
        have HO2 := Lib.hid (show OwnI w.heap.size (wr.setCell ⟨go, i, none⟩ (.int .i64 V)) (.slice (some ⟨go, 0, none⟩) many many) ((acc ++ [V]) ++ List.replicate (many - (i + 1)) 0) by
          have := ho.out.set_int i V (by rw [hol]; exact hlt)
          rw [hmi, List.replicate_succ, ← hal, List.set_append_right _ _ (Nat.le_refl _), Nat.sub_self, List.set_cons_zero] at this
          rw [List.append_assoc, List.singleton_append, ← hal]
          exact this)
        have HR2 := Lib.hid (reader_away (i := i) (v := .int .i64 V) hr.out ho.out hol.symm)
        have HOS2 := Lib.hid (own_away (i := i) hos.out hne.out.1 (.int .i64 V))
        have HOM2 := Lib.hid (own_away (i := i) hom.out hne.out.2 (.int .i64 V))
        have HX2 := Lib.hid (box_away (i := i) (v := .int .i64 V) hbx.out ho.out)
        have HB2 := Lib.hid (hb.out.setCell (p := ⟨go, i, none⟩) hwgo (.int .i64 V))
        obtain ⟨y, hy⟩ : ∃ y, nu x = y := ⟨_, rfl⟩
        rw [hy] at c2 hn2 hn3
        have CM := Lib.hid (HMV.out y hn2 hn3)
        obtain ⟨K, hK⟩ : ∃ K, movN m y = K := ⟨_, rfl⟩
        rw [hK] at CM
        have hdx := HDX.out y (peek (bits.drop t) K) K hn2 hn3 hK (peek_lt _ _)
        have HD2 := Lib.hid (show decF bits (if bits.length < t + K then none else decS sy nu m q bits (many - (i + 1)) (t + K) (y * 2 ^ K + peek (bits.drop t) K - q) (acc ++ [V])) = (out, E) by
          have := hd.out
          rw [hmi] at this
          simp only [decS, hy, hK, hV] at this
          exact this)
        have hac : (acc ++ [V]).length = i + 1 := by simp [hal]
        have hKm : K ≤ 12 := by
          have := (mov_facts hm12 HQ.out hn2 hn3).1
          rw [hK] at this; omega
        have d0 := cell_lit HX2.out 0 _ rfl
        have d1 := cell_lit HX2.out 1 _ rfl
        have e2 := HOM2.out.int_cell x (by rw [HML.out]; exact hx)
        rw [HNU.out x hx |>.1, hy] at e2
        have HY := Lib.hid hy
        have hi1 : (i : Int) < (many : Int) := by omega
        have hx1 : (x : Int) < (q : Int) := by omega
        clear hU hV hy hK hn1 hmi hol hal hd hr hos hom hbx ho hb
        by_cases hsh : bits.length < t + K
        · have hdd := HD2.out
          rw [if_pos hsh] at hdd
          injection hdd with e1 e2'
          subst e1 e2'
          have CTK := Lib.hid (HTK.out _ g t (K : Int) HR2.out t 0 3 (by unfold takeS; rw [if_neg (by omega), if_pos (by rw [Int.toNat_natCast]; omega)]))
          clear hsh hdx
          go_wp2_with fail
          refine (CM.out _).mono ?_; rintro e w6 ⟨rfl, rfl⟩
          go_wp2_with fail
          refine CTK.out.mono ?_; rintro e w7 ⟨rfl, hr7, hk7⟩
          have HB7 := Lib.hid (HB2.out.trans (hk7.below (B := w.heap.size) (fun j hj => ⟨by have := HB2.out.size; omega, fun e => by have e : j = g := e; omega⟩)))
          clear hr7 hk7
          go_wp2_with fail
          go_ret2
          exact ⟨_, rfl, own_nil _ _, HB7.out⟩
        · have hdd := HD2.out
          rw [if_neg hsh] at hdd
          have HD3 := Lib.hid hdd
          obtain ⟨Z, hZ⟩ : ∃ Z, peek (bits.drop t) K = Z := ⟨_, rfl⟩
          have CTK := Lib.hid (HTK.out _ g t (K : Int) HR2.out (t + K) Z 0 (by unfold takeS; rw [if_neg (by omega), if_neg (by rw [Int.toNat_natCast]; omega), Int.toNat_natCast, hZ]))
          rw [hZ] at hdx HD3
          obtain ⟨X2, hX2⟩ : ∃ X2, y * 2 ^ K + Z - q = X2 := ⟨_, rfl⟩
          obtain ⟨YK, hYK⟩ : ∃ YK, y * 2 ^ K = YK := ⟨_, rfl⟩
          rw [hX2] at HD3
          rw [hYK] at hdx hX2
          have htl : t + K ≤ bits.length := by omega
          have hsw : IntKind.i64.wrap ((y : Int) * 2 ^ K) = (YK : Int) := by
            have e1 : (y : Int) * 2 ^ K = ((y * 2 ^ K : Nat) : Int) := by simp
            rw [e1, hYK, IntKind.wrap_i64]; omega
          have hqw : IntKind.i64.wrap ((2 : Int) ^ m) = (q : Int) := by
            have e1 : (2 : Int) ^ m = ((2 ^ m : Nat) : Int) := by simp
            rw [e1, HQ.out, IntKind.wrap_i64]; omega
          have hmk : min K 64 = K := by omega
          have hmm : min m 64 = m := by omega
          have hs1 : IntKind.i64.wrap ((YK : Int) - (q : Int)) = (YK : Int) - (q : Int) := by rw [IntKind.wrap_i64]; omega
          have hs2 : IntKind.i64.wrap (Z : Int) = (Z : Int) := by rw [IntKind.wrap_i64]; omega
          have hs3 : IntKind.i64.wrap ((YK : Int) - (q : Int) + (Z : Int)) = (X2 : Int) := by rw [IntKind.wrap_i64]; omega
          have hX2q : X2 < q := by omega
          clear hsh hZ hdd hX2 hYK hdx
          go_wp2_with fail
          refine (CM.out _).mono ?_; rintro e w6 ⟨rfl, rfl⟩
          go_wp2_with fail
          refine CTK.out.mono ?_; rintro e w7 ⟨rfl, hr7, hk7⟩
          have HB7 := Lib.hid (HB2.out.trans (hk7.below (B := w.heap.size) (fun j hj => ⟨by have := HB2.out.size; omega, fun e => by have e : j = g := e; omega⟩)))
          have HX7 := Lib.hid (box_reader HX2.out HR2.out hk7)
          have HOS7 := Lib.hid (own_reader HOS2.out HR2.out hk7)
          have HOM7 := Lib.hid (own_reader HOM2.out HR2.out hk7)
          have HO7 := Lib.hid (own_reader HO2.out HR2.out hk7)
          have HR7 := Lib.hid hr7
          have g1 := cell_lit HX7.out 1 _ rfl
          have g2 := HOM7.out.int_cell x (by rw [HML.out]; exact hx)
          rw [HNU.out x hx |>.1, HY.out] at g2
          clear hr7 hk7
          go_wp2_with fail
          go_quiet (fail)
          rename_i nq
          have hdn := below_dn (Below.refl w7.heap.size w7) nq
          have HR8 := Lib.hid (HR7.out.kept hdn)
          have HOS8 := Lib.hid (OwnS.kept HOS7.out hdn)
          have HOM8 := Lib.hid (OwnS.kept HOM7.out hdn)
          have HO8 := Lib.hid (OwnS.kept HO7.out hdn)
          have HX8 := Lib.hid ((hdn.block gb (block_lt HX7.out)).trans HX7.out)
          have HB8 := Lib.hid (below_dn HB7.out nq)
          clear hdn
          go_wp2_with fail
          go_roundw
          case rel => exact ⟨i + 1, t + K, X2, acc ++ [V], by omega, by go_num, rfl, hX2q, htl, hac, HD3, HR8, HOS8, HOM8, HX8, HO8, HB8, hne⟩
          case measure => simp [intOf]; omega
      · obtain rfl : i = many := by omega
        have hdd := hd.out
        rw [Nat.sub_self] at hdd
        simp only [decS, decF] at hdd
        rw [Nat.sub_self, List.replicate_zero, List.append_nil] at ho
        have CLF := Lib.hid (HLF.out wr g t hr.out)
        obtain ⟨left, hleft⟩ : ∃ left, 8 * s.data.toList.length - t = left := ⟨_, rfl⟩
        rw [hleft] at CLF
        have hlen : (bits.drop t).length = left := by rw [List.length_drop]; have := HB8.out; omega
        have hok := okL_peek (bits.drop t)
        rw [hlen] at hok
        obtain ⟨Z, hZ⟩ : ∃ Z, peek (bits.drop t) left = Z := ⟨_, rfl⟩
        rw [hZ] at hok
        have HOK := Lib.hid hok
        have CPK := Lib.hid (fun W hW => HPK.out W g t (left : Int) hW (if left ≤ 56 then Z else 0) (by
          unfold peekS
          by_cases h56 : left ≤ 56
          · rw [if_neg (by omega), if_pos h56, Int.toNat_natCast]; exact hZ
          · rw [if_pos (by omega), if_neg h56]))
        have HOUT := Lib.hid ho.out
        clear hlen hok hZ hleft hd
        have HOWN := hb
        by_cases hx0 : x = 0
        · subst hx0
          by_cases hl8 : left < 8
          · have h56 : left ≤ 56 := by omega
            rw [if_pos h56] at CPK
            by_cases hz : Z = 0
            · rw [if_pos ⟨rfl, HOK.out.2 ⟨hl8, hz⟩⟩] at hdd
              injection hdd with e1 e2
              subst e1 e2 hz
              have hl8' : decide ((8 : Int) ≤ (left : Int)) = false := by simp; omega
              clear hl8 h56
              go_wp2_with fail
              refine CLF.out.mono ?_; rintro e w8 ⟨rfl, nq, rfl⟩
              have hdn := below_dn (Below.refl wr.heap.size wr) nq
              have HR8 := Lib.hid (hr.out.kept hdn)
              have HO8 := Lib.hid (OwnS.kept HOUT.out hdn)
              have HB8' := Lib.hid (below_dn hb.out nq)
              clear hdn
              go_wp2_with fail
              refine (CPK.out _ HR8.out).mono ?_; rintro e w9 ⟨rfl, hb9⟩
              have HO9 := Lib.hid (OwnS.kept HO8.out hb9)
              have HB9 := Lib.hid (HB8'.out.trans (hb9.mono HB8'.out.size))
              clear hb9
              go_wp2_with fail
              go_ret2
              exact ⟨_, rfl, HO9.out, HB9.out⟩
            · rw [if_neg (fun h => hz (HOK.out.1 h.2).2)] at hdd
              injection hdd with e1 e2
              subst e1 e2
              have hzb : ((Z : Int) != 0) = true := by rw [bne_iff_ne]; omega
              have hl8' : decide ((8 : Int) ≤ (left : Int)) = false := by simp; omega
              go_wp2_with fail
              refine CLF.out.mono ?_; rintro e w8 ⟨rfl, nq, rfl⟩
              have hdn := below_dn (Below.refl wr.heap.size wr) nq
              have HR8 := Lib.hid (hr.out.kept hdn)
              have HB8' := Lib.hid (below_dn hb.out nq)
              clear hdn
              go_wp2_with fail
              refine (CPK.out _ HR8.out).mono ?_; rintro e w9 ⟨rfl, hb9⟩
              have HB9 := Lib.hid (HB8'.out.trans (hb9.mono HB8'.out.size))
              clear hb9
              go_wp2_with fail
              go_ret2
              exact ⟨_, rfl, own_nil _ _, HB9.out⟩
          · rw [if_neg (fun h => hl8 (HOK.out.1 h.2).1)] at hdd
            injection hdd with e1 e2
            subst e1 e2
            have hl8' : decide ((8 : Int) ≤ (left : Int)) = true := by simp; omega
            clear CPK
            go_wp2_with fail
            refine CLF.out.mono ?_; rintro e w8 ⟨rfl, nq, rfl⟩
            have HB8' := Lib.hid (below_dn hb.out nq)
            go_wp2_with fail
            go_ret2
            exact ⟨_, rfl, own_nil _ _, HB8'.out⟩
        · rw [if_neg (fun h => hx0 h.1)] at hdd
          injection hdd with e1 e2
          subst e1 e2
          have hxb : ((x : Int) != 0) = true := by rw [bne_iff_ne]; omega
          clear CPK
          go_wp2_with fail
          refine CLF.out.mono ?_; rintro e w8 ⟨rfl, nq, rfl⟩
          have HB8' := Lib.hid (below_dn hb.out nq)
          go_wp2_with fail
          go_ret2
          exact ⟨_, rfl, own_nil _ _, HB8'.out⟩
end Go.Proofs.Ytplopddlpoffoaa
