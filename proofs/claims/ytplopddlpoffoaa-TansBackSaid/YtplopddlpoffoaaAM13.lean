/- Layer 59: the document's Decode, whole. -/
import Derived.Test.YtplopddlpoffoaaAM12
namespace Go.Proofs.Ytplopddlpoffoaa
open Go.ChangeShapes Go.WideShapes Go.ChangeAt Go.RowKit
set_option linter.unusedVariables false
set_option linter.unusedSimpArgs false
set_option maxRecDepth 100000
open Bits
theorem add_add59 (x : Addr) (n i : Nat) : (x.add n).add i = x.add (n + i) := by
  unfold Addr.add
  by_cases hn : n = 0
  · subst hn; simp
  · by_cases hi : i = 0
    · subst hi; simp
    · simp [hn, hi]; omega
theorem boo_drop59 {w : World} {x : Addr} {l : List Bool} (h : IsBoo w (some x) l) (n : Nat) : IsBoo w (some (x.add n)) (l.drop n) := by
  rcases h with rfl | ⟨x', e, hc⟩
  · exact .inl (by simp)
  · injection e with e
    subst e
    refine .inr ⟨x.add n, rfl, fun i hi => ?_⟩
    rw [List.length_drop] at hi
    have := hc (n + i) (by omega)
    rw [add_add59 x n i, this]
    simp [List.getD_eq_getElem?_getD, List.getElem?_drop]
def slen : Value → Nat
  | .slice _ n _ => n
  | _ => 0
theorem own_low {M B g n c : Nat} {w w' : World} {l : List Int} (h : OwnI B w (.slice (some ⟨g, 0, none⟩) n c) l) (hb : Below M w w') (hg : g < M) : OwnI B w' (.slice (some ⟨g, 0, none⟩) n c) l := by
  refine ⟨h.1, ?_⟩
  rcases h.2 with hn | ⟨g', cap, cur, e1, hbb, hgg, rest⟩
  · exact .inl hn
  · have : g = g' := by injection e1 with e1 _ _; injection e1 with e1; injection e1
    subst this
    exact .inr ⟨g, cap, cur, e1, hbb, (hb.block g hg).trans hgg, rest⟩
theorem boo_low {M : Nat} {w w' : World} {a : Option Addr} {r : List Bool} (h : IsBoo w a r) (hb : Below M w w') (ha : ∀ x, a = some x → x.block < M) : IsBoo w' a r := by
  rcases h with rfl | ⟨x, rfl, hc⟩
  · exact .inl rfl
  · exact .inr ⟨x, rfl, fun i hi => (hb.cell (p := x.add i) (by rw [add_block]; exact ha x rfl)).trans (hc i hi)⟩
theorem boo_keeps59 {w w' : World} {a : Option Addr} {l : List Bool} {g : Nat} {cs : Array Value} {ty : TypeId} (h : IsBoo w a l) (hk : Keeps (fun j => j = g) w w') (hg : w.heap[g]? = some (.cells cs ty (0, 0))) (hcs : ∀ (i : Nat) b, cs[i]? ≠ some (.bool b)) : IsBoo w' a l := by
  rcases h with rfl | ⟨x, rfl, hc⟩
  · exact .inl rfl
  · refine .inr ⟨x, rfl, fun i hi => ?_⟩
    have c := hc i hi
    obtain ⟨y, hy, hyb, -⟩ := IsBoo.at (.inr ⟨x, rfl, hc⟩ : IsBoo w (some x) l) i hi
    injection hy with hy
    subst hy
    have hne : ¬ (x.add i).block = g := by
      intro e
      rw [← e] at hg
      obtain ⟨o, ho⟩ := cell_vals59 c hg
      exact hcs o _ ho
    exact (hk.cell (p := x.add i) (by rw [add_block]; exact hyb) hne).trans c
theorem two_keeps (w : World) (gb : Nat) (u v : Value) : Keeps (fun j => j = gb) w ((w.setCell ⟨gb, 0, none⟩ u).setCell ⟨gb, 1, none⟩ v) := ((Keeps.refl (fun j => j = gb) w).setCell (p := ⟨gb, 0, none⟩) (.inr rfl) u).setCell (p := ⟨gb, 1, none⟩) (.inr rfl) v
theorem own_box2 {B gb : Nat} {w : World} {v u1 u2 : Value} {l : List Int} {cs : Array Value} (h : OwnI B w v l) (hx : w.heap[gb]? = some (.cells cs 68 (0, 0))) : OwnI B ((w.setCell ⟨gb, 0, none⟩ u1).setCell ⟨gb, 1, none⟩ u2) v l :=
  (two_keeps w gb u1 u2).ownsRow h (fun j hj e => own_ne h hx (by decide) (by
    have e : j = gb := e
    rw [hj, e]))
theorem boo_box2 {gb : Nat} {w : World} {a : Option Addr} {l : List Bool} {va : Option Addr} {n c : Nat} {t : Int} {u1 u2 : Value} (h : IsBoo w a l) (hx : w.heap[gb]? = some (.cells #[.slice va n c, .int .i64 t] 68 (0, 0))) : IsBoo ((w.setCell ⟨gb, 0, none⟩ u1).setCell ⟨gb, 1, none⟩ u2) a l :=
  boo_keeps59 h (two_keeps w gb u1 u2) hx (by intro i b h; rcases i with _ | _ | i <;> simp at h)
theorem dDecBad (s : ByteArray) (many : Int) (a : Option Addr) (c : Nat) (l : List Int) (n : Int) (w : World) (h : IsInts w a l) (hE : (sprV l n).2 ≠ 0) : Calls Try.prog 16 #[.string s, .int .i64 many, .slice a l.length c, .int .i64 n] w fun e w' => e = .returned (.tuple #[.slice none 0 0, .int .i64 (sprV l n).2]) ∧ Below w.heap.size w w' := by
  have CT := Lib.hid (dSpread a c l n w h)
  obtain ⟨E, hEe⟩ : ∃ E, (sprV l n).2 = E := ⟨_, rfl⟩
  rw [hEe] at CT hE ⊢
  have hne : (E != 0) = true := by rw [bne_iff_ne]; exact hE
  clear h hEe
  go_enter Try.func16, Try.ntmps16
  go_wp2_with fail
  refine CT.out.mono ?_; rintro e w1 ⟨v, rfl, -, hb⟩
  go_wp2_with fail
  go_ret2
  exact ⟨rfl, hb⟩
theorem dDecMany (s : ByteArray) (many : Int) (a : Option Addr) (c : Nat) (l : List Int) (n : Int) (w : World) (h : IsInts w a l) (hE : (sprV l n).2 = 0) (hmany : many < 0 ∨ 1048576 < many) : Calls Try.prog 16 #[.string s, .int .i64 many, .slice a l.length c, .int .i64 n] w fun e w' => e = .returned (.tuple #[.slice none 0 0, .int .i64 1]) ∧ Below w.heap.size w w' := by
  have CT := Lib.hid (dSpread a c l n w h)
  rw [hE] at CT
  clear h hE
  by_cases h1 : many < 0
  · have d1 : decide (many < 0) = true := by simpa using h1
    go_enter Try.func16, Try.ntmps16
    go_wp2_with fail
    refine CT.out.mono ?_; rintro e w1 ⟨v, rfl, -, hb⟩
    go_wp2_with fail
    go_ret2
    exact ⟨rfl, hb⟩
  · have d1 : decide (many < 0) = false := by simpa using h1
    have d2 : decide (1048576 < many) = true := by simp; omega
    go_enter Try.func16, Try.ntmps16
    go_wp2_with fail
    refine CT.out.mono ?_; rintro e w1 ⟨v, rfl, -, hb⟩
    go_wp2_with fail
    go_ret2
    exact ⟨rfl, hb⟩
set_option maxHeartbeats 6400000 in
theorem dDec (s : ByteArray) (hs : s.size ≤ 1000) (many : Nat) (a : Option Addr) (c : Nat) (l : List Int) (m q : Nat) (w : World) (h : IsInts w a l) (hm5 : 5 ≤ m) (hm12 : m ≤ 12) (hq : 2 ^ m = q) (hv : norV l (q : Int) = true) (hmany : many ≤ 1048576) (out : List Int) (E : Int) (hD : decV l m q (spread s.data.toList) many = (out, E)) : Calls Try.prog 16 #[.string s, .int .i64 many, .slice a l.length c, .int .i64 m] w fun e w' => ∃ v B, e = .returned (.tuple #[v, .int .i64 E]) ∧ OwnI B w' v out ∧ Below w.heap.size w w' := by
  have hsp : sprV l (m : Int) = (sprL l q, 0) := by
    unfold sprV
    rw [if_neg (by omega), Int.toNat_natCast, hq, show ((2 : Int) ^ m) = (q : Int) by rw [← hq]; simp, if_pos hv]
  have CT := Lib.hid (dSpread a c l (m : Int) w h)
  rw [hsp] at CT
  simp only at CT
  have hS : Sp l q := by rw [← hq]; exact sp_of hm5 (by rw [hq]; exact hv)
  have hq4 : q ≤ 4096 := by rw [← hq]; exact Nat.pow_le_pow_right (by decide) hm12
  have hq32 : 32 ≤ q := by rw [← hq]; exact Nat.le_trans (show 32 ≤ 2 ^ 5 by decide) (Nat.pow_le_pow_right (by decide) hm5)
  obtain ⟨h256, hf, -⟩ := norV_facts hv
  have HNB := Lib.hid (fun x hx => num_bd hS hf x hx)
  have HSM := Lib.hid hS.sym
  have HDX := Lib.hid (fun y W K h0 h1 hK hW => dec_x (y := y) (W := W) (K := K) hm12 hq h0 h1 hK hW)
  have HMF := Lib.hid (fun y h0 h1 => mov_facts (y := y) hm12 hq h0 h1)
  have CB := Lib.hid (fun W => dNew2 s (by omega) W)
  obtain ⟨bits, hbits⟩ : ∃ bits, spread s.data.toList = bits := ⟨_, rfl⟩
  rw [hbits] at hD CB
  have hbl : bits.length ≤ 8000 := by rw [← hbits, spread_length, Array.length_toList]; have : s.data.size = s.size := rfl; omega
  obtain ⟨L, hL⟩ : ∃ L, sprL l q = L := ⟨_, rfl⟩
  unfold decV at hD
  rw [hL] at hD CT HNB HSM
  have hLlen : L.length = q := by rw [← hL]; exact hS.len
  have HI := Lib.hid h
  have HQ := Lib.hid hq
  have HF := Lib.hid hf
  have d1 : decide ((many : Int) < 0) = false := by simp
  have d2 : decide ((1048576 : Int) < (many : Int)) = false := by simp; omega
  clear h hv hS hf hbits hL hq hsp
  go_enter Try.func16, Try.ntmps16
  go_wp2_with fail
  refine CT.out.mono ?_; rintro e w1 ⟨v1, rfl, hos, hb⟩
  obtain ⟨gs, cs, rfl, hgs1, hgs2⟩ := own_get hos (by rw [hLlen]; omega)
  rw [hLlen] at hos ⊢
  go_wp2_with fail
  refine (CB.out _).mono ?_; rintro e w4 ⟨v4, rfl, ho4, hb4⟩
  obtain ⟨va, vc, rfl, hi4⟩ := ho4.isB
  have hcap : bits.length ≤ vc ∧ vc ≤ maxLen ∧ (va = none → vc = 0) ∧ ∀ x, va = some x → x.block < w4.heap.size := by
    rcases ho4.2 with ⟨e, e2⟩ | ⟨g, cap, cur, e, -, hgg, e2, e3, -⟩
    · injection e with e0 e1 e; subst e; subst e0; exact ⟨by omega, by unfold maxLen; omega, fun _ => rfl, fun x hx => by cases hx⟩
    · injection e with e0 _ e; subst e; subst e0
      exact ⟨e2, e3, fun h => (by cases h), fun x hx => by injection hx with hx; subst hx; exact block_lt hgg⟩
  have HOS := Lib.hid (OwnS.kept hos hb4)
  have HB := Lib.hid (hb.trans (hb4.mono hb.size))
  have HBO := Lib.hid hi4
  have hgs4 : gs < w4.heap.size := by have := hb4.size; omega
  obtain ⟨hc1, hc2, hvn, hva⟩ := hcap
  have HVN := Lib.hid hvn
  clear hvn
  have hva0 := hva
  clear hb4 ho4 hi4 CB CT hos hb hgs1 hgs2
  have HTK := Lib.hid (fun W t (n : Int) t' X E2 (hb : IsBoo W va bits) (ht : t ≤ bits.length) hS2 => dTakeU va bits.length vc bits t n rfl hc1 ht W hb (by omega) hc2 t' X E2 hS2)
  by_cases hsh : bits.length < m
  · rw [if_pos hsh] at hD
    injection hD with e1 e2
    subst e1 e2
    have CTK := Lib.hid (HTK.out w4 0 (m : Int) 0 0 3 HBO.out (Nat.zero_le _) (by unfold takeS; rw [if_neg (by omega), if_pos (by rw [Int.toNat_natCast]; omega)]))
    clear hsh
    go_wp2_with fail
    refine CTK.out.mono ?_; rintro e w5 ⟨rfl, hb5⟩
    have HB5 := Lib.hid (HB.out.trans (hb5.mono HB.out.size))
    clear hb5
    go_wp2_with fail
    go_ret2
    exact ⟨_, 0, rfl, own_nil _ _, HB5.out.alloc HB5.out.size _⟩
  · rw [if_neg hsh] at hD
    obtain ⟨P, hP⟩ : ∃ P, peek bits m = P := ⟨_, rfl⟩
    have CTK := Lib.hid (HTK.out w4 0 (m : Int) (0 + m) P 0 HBO.out (Nat.zero_le _) (by unfold takeS; rw [if_neg (by omega), if_neg (by rw [Int.toNat_natCast]; omega), Int.toNat_natCast, List.drop_zero, hP]))
    rw [Nat.zero_add] at CTK
    have hPq : P < q := by rw [← hP, ← HQ.out]; exact peek_lt bits m
    rw [hP] at hD
    have HD := Lib.hid hD
    have hml : m ≤ bits.length := by omega
    have hPw : IntKind.i64.wrap (P : Int) = (P : Int) := by rw [IntKind.wrap_i64]; omega
    clear hsh hP hD
    go_wp2_with fail
    refine CTK.out.mono ?_; rintro e w5 ⟨rfl, hb5⟩
    have HOS := Lib.hid (OwnS.kept HOS.out hb5)
    have HBO := Lib.hid (boo_low HBO.out hb5 hva)
    have HB := Lib.hid (HB.out.trans (hb5.mono HB.out.size))
    have hsz5 := hb5.size
    clear hb5 CTK
    go_wp2_with fail
    clear d1 d2
    obtain ⟨gb, hgb⟩ : ∃ gb, w5.heap.size = gb := ⟨_, rfl⟩
    obtain ⟨w6, hw6⟩ : ∃ w6, w5.alloc (.cells #[.slice va bits.length vc, .int .i64 m] 68) = w6 := ⟨_, rfl⟩
    have hAL : Below w5.heap.size w5 w6 := by rw [← hw6]; exact (Below.refl _ _).alloc (Nat.le_refl _) _
    have HX := Lib.hid (show w6.heap[gb]? = some (.cells #[.slice va bits.length vc, .int .i64 m] 68 (0, 0)) by rw [← hw6, ← hgb]; exact heap_alloc_new _ _)
    have HOS := Lib.hid (OwnS.kept HOS.out hAL)
    have HBO := Lib.hid (boo_low HBO.out hAL (fun x hx => Nat.lt_of_lt_of_le (hva x hx) hsz5))
    have hwgb : w.heap.size ≤ gb := by rw [← hgb]; exact HB.out.size
    have HB := Lib.hid (HB.out.trans (hAL.mono HB.out.size))
    rw [hw6]
    try rw [hgb]
    obtain ⟨Bo, hBo⟩ : ∃ Bo, w6.heap.size = Bo := ⟨_, rfl⟩
    have hBo6 : Bo ≤ w6.heap.size := by omega
    have hgbo : gb < Bo := by rw [← hBo]; exact block_lt HX.out
    have hgso : gs < Bo := by have := hAL.size; omega
    have hvao : ∀ x, va = some x → x.block < Bo := fun x hx => by have := hva x hx; have := hAL.size; omega
    have HVA := Lib.hid hvao
    have hgw : w.heap.size ≤ Bo := by omega
    clear hgb hw6 hAL hBo hsz5 hva hvao hva0 hgs4
    obtain ⟨sy, hsy⟩ : ∃ sy : Nat → Int, (fun x => L.getD x 0) = sy := ⟨_, rfl⟩
    obtain ⟨nu, hnu⟩ : ∃ nu : Nat → Nat, (fun x => (numL L l x).toNat) = nu := ⟨_, rfl⟩
    have HSY := Lib.hid (show ∀ x, L.getD x 0 = sy x from fun x => by rw [← hsy])
    have HNU := Lib.hid (show ∀ x, x < q → numL L l x = (nu x : Int) ∧ 1 ≤ nu x ∧ nu x < 2 * q from fun x hx => by
      have h1 := HNB.out x hx
      rw [← hnu]
      exact ⟨h1.2.2, h1.1, h1.2.1⟩)
    have HD := Lib.hid (show decF bits (decS sy nu m q bits many m P []) = (out, E) by rw [← hsy, ← hnu]; exact HD.out)
    have HLL := Lib.hid hLlen
    clear hsy hnu HNB hLlen
    go_loopw [14, 15] (fun xv ov wr => ∃ (t x : Nat) (acc : List Int) (oa : Option Addr) (oc : Nat), xv = .int .i64 x ∧ ov = .slice oa acc.length oc ∧ x < q ∧ t ≤ bits.length ∧ acc.length ≤ many ∧ Bo ≤ wr.heap.size ∧ Hid (decF bits (decS sy nu m q bits (many - acc.length) t x acc) = (out, E)) ∧ Hid (IsBoo wr va bits) ∧ Hid (OwnI w.heap.size wr (.slice (some ⟨gs, 0, none⟩) q cs) L) ∧ Hid (wr.heap[gb]? = some (.cells #[.slice va bits.length vc, .int .i64 t] 68 (0, 0))) ∧ Hid (OwnI Bo wr (.slice oa acc.length oc) acc) ∧ Hid (Below w.heap.size w wr)) (fun _ ov _ => many - slen ov)
    case atStart => exact ⟨m, P, [], none, 0, rfl, rfl, hPq, hml, Nat.zero_le _, hBo6, HD, HBO, HOS, HX, Lib.hid (own_nil _ _), HB⟩
    case round =>
      clear HD HBO HOS HX HB hBo6
      obtain ⟨t, x, acc, oa, oc, rfl, rfl, hx, ht, hal, hbo, hd, hboo, hos, hbx, ho, hb⟩ := hrel
      by_cases hlt : acc.length < many
      · have hmi : many - acc.length = (many - (acc.length + 1)) + 1 := by omega
        obtain ⟨hn1, hn2, hn3⟩ := HNU.out x hx
        obtain ⟨si, hsi1, hsi2, -⟩ := HSM.out x hx
        have c1 := hos.out.int_cell x (by rw [HLL.out]; exact hx)
        rw [hsi2] at c1
        have hsyx : sy x = (si : Int) := by rw [← HSY.out x, hsi2]
        have hx1 : (x : Int) < (q : Int) := by omega
        have hac1 : acc.length ≤ 1099511627776 := by omega
        have hlt' : (acc.length : Int) < (many : Int) := by omega
        have hd' := Lib.hid (show decF bits (decS sy nu m q bits ((many - (acc.length + 1)) + 1) t x acc) = (out, E) by rw [← hmi]; exact hd.out)
        have HAC := Lib.hid hac1
        have HBO' := Lib.hid hbo
        clear hd hmi
        obtain ⟨AL, hAL⟩ : ∃ AL, acc.length = AL := ⟨_, rfl⟩
        rw [hAL] at ho hlt hlt' hd' hal hac1 ⊢
        have HAL := Lib.hid hAL
        have ho' := Lib.hid (show OwnI Bo wr (.slice oa AL oc) acc from ho.out)
        go_wp2_with (at_builtin; refine app_int rfl (.tmp 53) (.tmp 58) rfl Bo _ (.slice oa AL oc) acc (si : Int) rfl ho'.out wr.heap.size 1 rfl rfl HAC.out HBO'.out ?_; intro v7 w7 ho7 hb7 hg7)
        obtain ⟨a7, c7, rfl, hi7⟩ := ho7.isL (by simp [HAL.out]; omega)
        have hl7 : (acc ++ [(si : Int)]).length = AL + 1 := by simp [HAL.out]
        rw [hl7] at ho7 ⊢
        have HO7 := Lib.hid ho7
        have HB7 := Lib.hid (hb.out.trans (hb7.mono hgw))
        have HS7 := Lib.hid (own_low hos.out hb7 hgso)
        have HBB7 := Lib.hid (boo_low hboo.out hb7 HVA.out)
        have HX7 := Lib.hid ((hb7.block gb hgbo).trans hbx.out)
        have hz7 : Bo ≤ w7.heap.size := Nat.le_trans hbo hb7.size
        have HI7 := Lib.hid (HI.out.kept HB7.out)
        clear ho7 hb7 hg7 hi7 ho ho' hos hboo hbx hb c1
        obtain ⟨y, hy⟩ : ∃ y, nu x = y := ⟨_, rfl⟩
        rw [hy] at hn1 hn2 hn3
        have c1 := HS7.out.int_cell x (by rw [HLL.out]; exact hx)
        rw [hsi2] at c1
        obtain ⟨xa, rfl, -, cxa⟩ := HI7.out.at si hsi1
        have c2 := cxa si hsi1
        have hfs := HF.out si hsi1
        have hbef := befTo_le L (si : Int) x
        have hnu2 : l.getD si 0 + (befTo L (si : Int) x : Int) = (y : Int) := by
          rw [← hn1]; unfold numL; rw [hsi2, Int.toNat_natCast]
        obtain ⟨NI, hNI⟩ : ∃ NI, l.getD si 0 = NI := ⟨_, rfl⟩
        rw [hNI] at c2 hfs hnu2
        have CBF := Lib.hid (fun n => by
          have hI : IsInts (w7.drewN n) (some ⟨gs, 0, none⟩) L := by
            obtain ⟨aa, cc, he, hI⟩ := HS7.out.isL (by rw [HLL.out]; omega)
            injection he with h1 h2 h3
            subst h1
            exact hI.drewN n
          have := dBefore (some ⟨gs, 0, none⟩) cs L x (w7.drewN n) hI (by rw [HLL.out]; exact hx) (by rw [HLL.out]; omega)
          rw [HLL.out, hsi2] at this
          exact this)
        obtain ⟨BF, hBF⟩ : ∃ BF, befTo L (si : Int) x = BF := ⟨_, rfl⟩
        rw [hBF] at CBF hbef hnu2
        have hwy : IntKind.i64.wrap (NI + (BF : Int)) = (y : Int) := by rw [hnu2, IntKind.wrap_i64]; omega
        have hsi3 : (si : Int) < (l.length : Int) := by omega
        have hsi0 : (0 : Int) ≤ (si : Int) := by omega
        have HY := Lib.hid hy
        have HSYX := Lib.hid hsyx
        have hmf := HMF.out y hn2 hn3
        clear cxa hNI hBF hnu2 hn1 hsi2 hy hsyx
        go_quiet ((go_at_call 38; exact Calls.quiet_of (CBF.out _)))
        rename_i nq
        have hdn := below_dn (Below.refl w7.heap.size w7) nq
        obtain ⟨w8, hw8⟩ : ∃ w8, w7.drewN nq = w8 := ⟨_, rfl⟩
        rw [hw8] at hdn
        try rw [hw8]
        have HO8 := Lib.hid (OwnS.kept HO7.out hdn)
        have HS8 := Lib.hid (OwnS.kept HS7.out hdn)
        have HBB8 := Lib.hid (HBB7.out.kept hdn)
        have HX8 := Lib.hid ((hdn.block gb (block_lt HX7.out)).trans HX7.out)
        have HB8 := Lib.hid (HB7.out.trans (hdn.mono HB7.out.size))
        have hz8 : Bo ≤ w8.heap.size := Nat.le_trans hz7 hdn.size
        clear hw8 hdn HO7 HS7 HBB7 HX7 HB7 HI7 c1 c2 CBF hwy hz7
        obtain ⟨K, hK⟩ : ∃ K, movN m y = K := ⟨_, rfl⟩
        rw [hK] at hmf
        have hKm : K ≤ 12 := by omega
        have HMF2 := Lib.hid hmf
        go_wp2_with fail
        have hqw : IntKind.i64.wrap ((2 : Int) ^ m) = (q : Int) := by
          have e1 : (2 : Int) ^ m = ((2 ^ m : Nat) : Int) := by simp
          rw [e1, HQ.out, IntKind.wrap_i64]; omega
        have hmm : min m 64 = m := by omega
        have hum : IntKind.u64.wrap (m : Int) = (m : Int) := IntWalk.u64_in _ (by omega)
        go_loopw [17] (fun kv wr => ∃ j : Nat, kv = .int .i64 j ∧ j ≤ K ∧ wr = w8) (fun kv _ => K - (intOf kv).toNat)
        case atStart => exact ⟨0, rfl, Nat.zero_le _, rfl⟩
        case round =>
          obtain ⟨j, rfl, hj, rfl⟩ := hrel
          have huj : IntKind.u64.wrap (j : Int) = (j : Int) := IntWalk.u64_in _ (by omega)
          have hmj : min j 64 = j := by omega
          obtain ⟨YJ, hYJ⟩ : ∃ YJ, y * 2 ^ j = YJ := ⟨_, rfl⟩
          have hYJb : YJ ≤ 2 * q := by
            rw [← hYJ]
            by_cases e : j = K
            · have := HMF2.out.2.2.1
              rw [← e, Nat.add_mul, Nat.one_mul] at this; exact Nat.le_trans (Nat.le_add_right _ _) this
            · have := HMF2.out.2.2.2.1 j (by omega); exact Nat.le_trans (Nat.le_of_lt this) (by omega)
          have hsw : IntKind.i64.wrap ((y : Int) * 2 ^ j) = (YJ : Int) := by
            have e1 : (y : Int) * 2 ^ j = ((y * 2 ^ j : Nat) : Int) := by simp
            rw [e1, hYJ, IntKind.wrap_i64]; omega
          by_cases hjk : j < K
          · have hlt2 : (YJ : Int) < (q : Int) := by have := HMF2.out.2.2.2.1 j hjk; rw [hYJ] at this; omega
            clear hYJ hmf
            go_wp2_with fail
            go_roundw
            case rel => exact ⟨j + 1, by go_num, by omega, by first | rfl | trivial⟩
            case measure => simp [intOf]; omega
          · obtain rfl : j = K := by omega
            have hge2 : ¬ (YJ : Int) < (q : Int) := by have := HMF2.out.2.1; rw [hYJ] at this; omega
            have hdx := HDX.out y (peek (bits.drop t) j) j hn2 hn3 hK (peek_lt _ _)
            rw [hYJ] at hdx
            clear hmf
            have x0 := cell_lit HX8.out 0 _ rfl
            have x1 := cell_lit HX8.out 1 _ rfl
            have HD9 := Lib.hid (show decF bits (if bits.length < t + j then none else decS sy nu m q bits (many - (AL + 1)) (t + j) (YJ + peek (bits.drop t) j - q) (acc ++ [(si : Int)])) = (out, E) by
              have := hd'.out
              simp only [decS, HY.out, hK, HSYX.out, hYJ] at this
              exact this)
            by_cases hsh : bits.length < t + j
            · have hdd := HD9.out
              rw [if_pos hsh] at hdd
              injection hdd with e1 e2
              subst e1 e2
              have CTK := Lib.hid (fun W hW => HTK.out W t (j : Int) t 0 3 hW ht (by unfold takeS; rw [if_neg (by omega), if_pos (by rw [Int.toNat_natCast]; omega)]))
              clear hsh hdx hYJ
              go_wp2_with fail
              refine (CTK.out _ HBB8.out).mono ?_; rintro e w9 ⟨rfl, hb9⟩
              have HB9 := Lib.hid (HB8.out.trans (hb9.mono HB8.out.size))
              clear hb9
              go_wp2_with fail
              go_ret2
              exact ⟨_, 0, rfl, own_nil _ _, HB9.out.alloc HB9.out.size _⟩
            · have hdd := HD9.out
              rw [if_neg hsh] at hdd
              obtain ⟨Z, hZ⟩ : ∃ Z, peek (bits.drop t) j = Z := ⟨_, rfl⟩
              obtain ⟨T2, hT2⟩ : ∃ T2, t + j = T2 := ⟨_, rfl⟩
              have CTK := Lib.hid (fun W hW => HTK.out W t (j : Int) T2 Z 0 hW ht (by unfold takeS; rw [if_neg (by omega), if_neg (by rw [Int.toNat_natCast]; omega), Int.toNat_natCast, hZ, hT2]))
              rw [hZ, hT2] at hdd
              rw [hZ] at hdx
              obtain ⟨X2, hX2⟩ : ∃ X2, YJ + Z - q = X2 := ⟨_, rfl⟩
              rw [hX2] at hdd
              have HD3 := Lib.hid hdd
              have htl : T2 ≤ bits.length := by omega
              have hX2q : X2 < q := by omega
              have hs1 : IntKind.i64.wrap ((YJ : Int) - (q : Int)) = (YJ : Int) - (q : Int) := by rw [IntKind.wrap_i64]; omega
              have hs2 : IntKind.i64.wrap (Z : Int) = (Z : Int) := by rw [IntKind.wrap_i64]; omega
              have hs3 : IntKind.i64.wrap ((YJ : Int) - (q : Int) + (Z : Int)) = (X2 : Int) := by rw [IntKind.wrap_i64]; omega
              clear hsh hZ hdd hX2 hYJ hdx hT2
              go_wp2_with fail
              refine (CTK.out _ HBB8.out).mono ?_; rintro e w9 ⟨rfl, hb9⟩
              have HO9 := Lib.hid (OwnS.kept HO8.out hb9)
              have HS9 := Lib.hid (OwnS.kept HS8.out hb9)
              have HBB9 := Lib.hid (HBB8.out.kept hb9)
              have HX9 := Lib.hid ((hb9.block gb (block_lt HX8.out)).trans HX8.out)
              have HB9 := Lib.hid (HB8.out.trans (hb9.mono HB8.out.size))
              have hz9 : Bo ≤ w9.heap.size := Nat.le_trans hz8 hb9.size
              clear hb9 x0 x1 HO8 HS8 HBB8 HX8 HB8 hz8
              have hAL10 : Below w9.heap.size w9 (w9.alloc (.cells #[.slice va bits.length vc, .int .i64 (T2 : Int)] 68)) := (Below.refl _ _).alloc (Nat.le_refl _) _
              have HO10 := Lib.hid (OwnS.kept HO9.out hAL10)
              have HS10 := Lib.hid (OwnS.kept HS9.out hAL10)
              have HBB10 := Lib.hid (HBB9.out.kept hAL10)
              have HX10 := Lib.hid ((hAL10.block gb (block_lt HX9.out)).trans HX9.out)
              have HB10 := Lib.hid (HB9.out.trans (hAL10.mono HB9.out.size))
              have y0 := cell_lit HX10.out 0 _ rfl
              have y1 := cell_lit HX10.out 1 _ rfl
              have f0 := free_in HX10.out 0
              have f1 := free_in HX10.out 1
              have hgne : w9.heap.size ≠ gb := by omega
              have hz10 : Bo ≤ (w9.alloc (.cells #[.slice va bits.length vc, .int .i64 (T2 : Int)] 68)).heap.size := Nat.le_trans hz9 hAL10.size
              go_wp2_with fail
              go_roundw
              case rel => exact ⟨T2, X2, acc ++ [(si : Int)], a7, c7, rfl, by rw [List.length_append, HAL.out]; rfl, hX2q, htl, by rw [List.length_append, HAL.out]; simp; omega, by simp; omega, by
                rw [List.length_append, HAL.out]; exact HD3, Lib.hid (boo_box2 HBB10.out HX10.out), Lib.hid (own_box2 HS10.out HX10.out), Lib.hid (block_set (block_set HX10.out 0 _) 1 _), Lib.hid (by rw [List.length_append, HAL.out]; exact own_box2 HO10.out HX10.out), Lib.hid ((HB10.out.setCell (p := ⟨gb, 0, none⟩) hwgb _).setCell (p := ⟨gb, 1, none⟩) hwgb _)⟩
              case measure => simp [slen]; omega
      · have hdd := hd.out
        have h0 : many - acc.length = 0 := by omega
        rw [h0] at hdd
        simp only [decS, decF] at hdd
        have x0 := cell_lit hbx.out 0 _ rfl
        have x1 := cell_lit hbx.out 1 _ rfl
        have hlt' : ¬ (acc.length : Int) < (many : Int) := by omega
        clear hd h0
        by_cases hx0 : x = 0
        · subst hx0
          have hlen : (bits.drop t).length = bits.length - t := List.length_drop
          obtain ⟨OK, hOK⟩ : ∃ OK, okL (bits.drop t) = OK := ⟨_, rfl⟩
          rw [hOK] at hdd
          have CLE := Lib.hid (fun W b cb (hb2 : IsBoo W b (bits.drop t)) => by
            have := dLeft59 b cb (bits.drop t) W hb2 (by rw [hlen]; omega)
            rw [hlen, hOK] at this
            exact this)
          have hti : (t : Int) ≤ (bits.length : Int) := by omega
          have htc : (bits.length : Int) ≤ (vc : Int) := by omega
          have hvcm : vc ≤ 9223372036854775807 := by unfold maxLen at hc2; omega
          obtain ⟨BL, hBL⟩ : ∃ BL, bits.length = BL := ⟨_, rfl⟩
          rw [hBL] at x0 x1 hti htc CLE
          have HEND := Lib.hid (show vc = t → bits.drop t = [] from fun e => List.drop_eq_nil_of_le (by omega))
          have HO := Lib.hid ho.out
          have HBW := Lib.hid hb.out
          have HBOO := Lib.hid hboo.out
          clear hlen hOK ho hb hboo hbx hos
          rcases va with _ | x
          · have hbn : bits = [] ∨ BL ≠ 0 := by
              by_cases e : BL = 0
              · exact .inl (List.length_eq_zero_iff.1 (by omega))
              · exact .inr e
            have hb0 : bits = [] := by
              rcases HBOO.out with e | ⟨y, e, -⟩
              · exact e
              · cases e
            have HBD := Lib.hid (show bits.drop t = [] by rw [hb0]; simp)
            clear hb0 hbn HVN
            cases OK with
            | true =>
              rw [if_pos ⟨rfl, rfl⟩] at hdd
              injection hdd with e1 e2
              subst e1 e2
              go_wp2_with fail
              all_goals
                refine (CLE.out _ _ _ (.inl HBD.out)).mono ?_; rintro e w9 ⟨rfl, rfl⟩
                go_wp2_with fail
                go_ret2
                first | exact ⟨_, Bo, rfl, HO.out, HBW.out⟩ | exact ⟨_, rfl, ⟨Bo, HO.out⟩, HBW.out⟩
            | false =>
              rw [if_neg (fun h => by cases h.2)] at hdd
              injection hdd with e1 e2
              subst e1 e2
              go_wp2_with fail
              all_goals
                refine (CLE.out _ _ _ (.inl HBD.out)).mono ?_; rintro e w9 ⟨rfl, rfl⟩
                go_wp2_with fail
                go_ret2
                first | exact ⟨_, 0, rfl, own_nil _ _, HBW.out⟩ | exact ⟨_, rfl, ⟨0, own_nil _ _⟩, HBW.out⟩
          · cases OK with
            | true =>
              rw [if_pos ⟨rfl, rfl⟩] at hdd
              injection hdd with e1 e2
              subst e1 e2
              go_wp2_with fail
              all_goals
                refine (CLE.out _ _ _ (by first | exact boo_drop59 HBOO.out t | (exact .inl (HEND.out (by assumption))) | (split; exact .inl (HEND.out (by assumption)); exact boo_drop59 HBOO.out t))).mono ?_; rintro e w9 ⟨rfl, rfl⟩
                go_wp2_with fail
                go_ret2
                first | exact ⟨_, Bo, rfl, HO.out, HBW.out⟩ | exact ⟨_, rfl, ⟨Bo, HO.out⟩, HBW.out⟩
            | false =>
              rw [if_neg (fun h => by cases h.2)] at hdd
              injection hdd with e1 e2
              subst e1 e2
              go_wp2_with fail
              all_goals
                refine (CLE.out _ _ _ (by first | exact boo_drop59 HBOO.out t | (exact .inl (HEND.out (by assumption))) | (split; exact .inl (HEND.out (by assumption)); exact boo_drop59 HBOO.out t))).mono ?_; rintro e w9 ⟨rfl, rfl⟩
                go_wp2_with fail
                go_ret2
                first | exact ⟨_, 0, rfl, own_nil _ _, HBW.out⟩ | exact ⟨_, rfl, ⟨0, own_nil _ _⟩, HBW.out⟩
        · rw [if_neg (fun h => hx0 h.1)] at hdd
          injection hdd with e1 e2
          subst e1 e2
          have hxb : ((x : Int) != 0) = true := by rw [bne_iff_ne]; omega
          go_wp2_with fail
          go_ret2
          first | exact ⟨_, 0, rfl, own_nil _ _, hb.out⟩ | exact ⟨_, rfl, ⟨0, own_nil _ _⟩, hb.out⟩
end Go.Proofs.Ytplopddlpoffoaa
