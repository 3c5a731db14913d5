import Derived.Test.YtipcdkemokkdfaaGreatK36
import Derived.Test.YtipcdkemokkdfaaGreatK40
import Derived.WalkLawsBesides
/- Layer 27: reading: leaves. -/
namespace Go.Proofs.YtipcdkemokkdfaaGreat
open Go.ChangeShapes Go.WideShapes Go.ChangeAt Go.RowKit
set_option linter.unusedVariables false
set_option linter.unusedSimpArgs false
set_option maxRecDepth 100000
open Bits hiding packF pack_length
open RunsMath KraftMath CanonMath TurnMath Pm Two
/-- A fault that is told by a panic. -/
def flt27 (E : Int) : PanicEntry := { v := .iface 109 (.agg #[.int .i64 E]), recovered := false }
def musE (E : Int) : Int := if E = 3 then 3 else 4
set_option maxHeartbeats 1600000 in
theorem m27Ok (w : World) : Calls Tryz.prog 55 #[.int .i64 0] w fun e w' => e = .returned (.tuple #[]) ∧ w' = w := by
  go_enter Tryz.func55, Tryz.ntmps55
  go_wp2_with fail
  go_end0
  exact ⟨rfl, rfl⟩
set_option maxHeartbeats 1600000 in
theorem m27No (E : Int) (hE : E ≠ 0) (w : World) : Calls Tryz.prog 55 #[.int .i64 E] w fun e w' => e = .panicked [flt27 (musE E)] ∧ w' = w := by
  have hb : (E == 0) = false := by rw [beq_eq_false_iff_ne]; exact hE
  by_cases h3 : E = 3
  · subst h3
    go_enter Tryz.func55, Tryz.ntmps55
    go_wp2_with fail
    exact ⟨rfl, rfl, rfl⟩
  · have hb3 : (E == 3) = false := by rw [beq_eq_false_iff_ne]; exact h3
    have hm : musE E = 4 := if_neg h3
    rw [hm]
    clear hE h3 hm
    go_enter Tryz.func55, Tryz.ntmps55
    go_wp2_with fail
    exact ⟨rfl, rfl, rfl⟩
theorem tf27_hit (E : Int) (w : World) : (Instr.typeAssert (.iface 109 (.agg #[.int .i64 E])) 20 109 true).run Tryz.prog w = .ok (.tuple #[.agg #[.int .i64 E], .bool true]) w := by
  simp [Instr.typeAssert, run_underlying Tryz.underlying109]
set_option maxHeartbeats 1600000 in
theorem t27Told (E : Int) (w : World) : Calls Tryz.prog 30 #[.iface 109 (.agg #[.int .i64 E])] w fun e w' => e = .returned (.int .i64 E) ∧ Below w.heap.size w w' := by
  have t0 := fun W => tf27_hit E W
  go_enter Tryz.func30, Tryz.ntmps30
  go_wp2_with fail
  go_ret
  exact ⟨rfl, (Below.refl _ _).alloc (Nat.le_refl _) _⟩
set_option maxHeartbeats 1600000 in
theorem rdTakeIn (w : World) (gr g a n : Nat) (s : List UInt8) (hp : w.cell? ⟨gr, 0, none⟩ = some (.pointer (some ⟨g, 0, none⟩))) (h : IsReader w g s a) (hn : n ≤ 56) (hf : a + n ≤ 8 * s.length) : Calls Tryz.prog 52 #[.pointer (some ⟨gr, 0, none⟩), .int .i64 n] w fun e w' =>
    e = .returned (.int .i64 (peek ((spread s).drop a) n : Nat)) ∧ IsReader w' g s (a + n) ∧ Keeps (fun k => k = g) w w' ∧ ∀ B, Far w g B → Far w' g B := by
  have C := Lib.hid (rTakeInF w g a n s h hn hf)
  have hpl := peek_lt ((spread s).drop a) n
  have h56 : (2:Nat) ^ n ≤ 2 ^ 56 := Nat.pow_le_pow_right (by decide) hn
  obtain ⟨K, hK⟩ : ∃ K, peek ((spread s).drop a) n = K := ⟨_, rfl⟩
  rw [hK] at C hpl ⊢
  have hwK : IntKind.i64.wrap (K : Int) = K := by rw [IntKind.wrap_i64]; omega
  have CM := Lib.hid m27Ok
  clear hK h56 hpl h
  go_enter Tryz.func52, Tryz.ntmps52
  go_wp2_with fail
  refine C.out.mono ?_; rintro e w1 ⟨rfl, h1, k1, z1, hF⟩
  go_wp2_with fail
  refine (CM.out _).mono ?_; rintro e w2 ⟨rfl, rfl⟩
  go_wp2_with fail
  go_ret
  exact ⟨rfl, h1, k1, hF⟩
set_option maxHeartbeats 1600000 in
theorem rdTakeOut (w : World) (gr g a n : Nat) (s : List UInt8) (hp : w.cell? ⟨gr, 0, none⟩ = some (.pointer (some ⟨g, 0, none⟩))) (h : IsReader w g s a) (hn : n ≤ 56) (hf : 8 * s.length < a + n) : Calls Tryz.prog 52 #[.pointer (some ⟨gr, 0, none⟩), .int .i64 n] w fun e w' =>
    e = .panicked [flt27 3] ∧ Keeps (fun k => k = g) w w' := by
  have C := Lib.hid (rTakeOut w (some ⟨g, 0, none⟩) n 3 (Lib.hid (rMayShort w g a n s h hn hf)) (by decide))
  have CM := Lib.hid (fun W => m27No 3 (by decide) W)
  clear h hf
  go_enter Tryz.func52, Tryz.ntmps52
  go_wp2_with fail
  refine C.out.mono ?_; rintro e w1 ⟨rfl, k, rfl⟩
  go_wp2_with fail
  refine (CM.out _).mono ?_; rintro e w2 ⟨rfl, rfl⟩
  go_wp2_with fail
  exact ⟨rfl, rfl, (Keeps.refl _ _).drewN _⟩
/-- A table of codes that lies outside S. -/
def T27 (w : World) (S : Nat → Prop) (gt : Nat) (l : List Int) : Prop := ∃ B gs R root N C ao short long hs,
  (IsT2 w B gt gs R root 15 (.slice ao N C) short long ∧ Two l 15 root l.length short long hs) ∧ (1 ≤ root ∧ root ≤ 15 ∧ 2 ^ root = R) ∧ (¬ S gt ∧ ¬ S gs ∧ ∀ k, (Value.slice ao N C).ownBlock = some k → ¬ S k) ∧ (∀ s, s < l.length → len l s ≤ 15) ∧ l.length ≤ 1024
theorem T27.keeps {w w' : World} {S : Nat → Prop} {gt : Nat} {l : List Int} (h : T27 w S gt l) (hk : Keeps S w w') : T27 w' S gt l := by
  obtain ⟨B, gs, R, root, N, C, ao, short, long, hs, ⟨h1, h2⟩, h3, ⟨h4, h5, h6⟩, h7⟩ := h
  refine ⟨B, gs, R, root, N, C, ao, short, long, hs, ⟨⟨hk.heap h1.tb h4, hk.ownsRow h1.rs ?_, hk.ownsRow h1.rl h6, h1.sl⟩, h2⟩, h3, ⟨h4, h5, h6⟩, h7⟩
  intro k e
  have e' : gs = k := by simpa [Value.ownBlock] using e
  rwa [← e']
theorem T27.next (w : World) (S : Nat → Prop) (gt g : Nat) (l : List Int) (s : List UInt8) (t : Nat) (h : T27 w S gt l) (hr : IsReader w g s t) (X Y E : Int) (hX : nextL l 15 ((spread s).drop t) = (X, Y, E)) :
    Calls Tryz.prog 100 #[.pointer (some ⟨gt, 0, none⟩), .pointer (some ⟨g, 0, none⟩)] w fun e w' => e = .returned (.tuple #[.int .i64 X, .int .i64 E]) ∧ IsReader w' g s (t + Y.toNat) ∧ Keeps (fun j => j = g) w w' ∧ ∀ B, Far w g B → Far w' g B := by
  obtain ⟨B, gs, R, root, N, C, ao, short, long, hs, ⟨h1, h2⟩, ⟨h3, h4, h5⟩, -, h7, h8⟩ := h
  exact tNextF w B gt gs g R root 15 N C ao l short long hs s t h3 h4 (by decide) h7 h8 h5 h1 h2 hr X Y E hX
set_option maxHeartbeats 1600000 in
theorem nx27Ok (w : World) (S : Nat → Prop) (gr gt g : Nat) (l : List Int) (s : List UInt8) (t : Nat) (hp : w.cell? ⟨gr, 0, none⟩ = some (.pointer (some ⟨g, 0, none⟩))) (h : T27 w S gt l) (hr : IsReader w g s t) (X Y : Int) (hX : nextL l 15 ((spread s).drop t) = (X, Y, 0)) :
    Calls Tryz.prog 76 #[.pointer (some ⟨gr, 0, none⟩), .pointer (some ⟨gt, 0, none⟩)] w fun e w' => e = .returned (.int .i64 X) ∧ IsReader w' g s (t + Y.toNat) ∧ Keeps (fun j => j = g) w w' ∧ ∀ B, Far w g B → Far w' g B := by
  have C := Lib.hid (h.next w S gt g l s t hr X Y 0 hX)
  have CM := Lib.hid m27Ok
  clear h hr hX
  go_enter Tryz.func76, Tryz.ntmps76
  go_wp2_with fail
  refine C.out.mono ?_; rintro e w1 ⟨rfl, h1, k1, hF⟩
  go_wp2_with fail
  refine (CM.out _).mono ?_; rintro e w2 ⟨rfl, rfl⟩
  go_wp2_with fail
  go_ret
  exact ⟨rfl, h1, k1, hF⟩
set_option maxHeartbeats 1600000 in
theorem nx27No (w : World) (S : Nat → Prop) (gr gt g : Nat) (l : List Int) (s : List UInt8) (t : Nat) (hp : w.cell? ⟨gr, 0, none⟩ = some (.pointer (some ⟨g, 0, none⟩))) (h : T27 w S gt l) (hr : IsReader w g s t) (X Y E : Int) (hX : nextL l 15 ((spread s).drop t) = (X, Y, E)) (hE : E ≠ 0) :
    Calls Tryz.prog 76 #[.pointer (some ⟨gr, 0, none⟩), .pointer (some ⟨gt, 0, none⟩)] w fun e w' => e = .panicked [flt27 (musE E)] ∧ Keeps (fun j => j = g) w w' := by
  have C := Lib.hid (h.next w S gt g l s t hr X Y E hX)
  have CM := Lib.hid (fun W => m27No E hE W)
  clear h hr hX
  go_enter Tryz.func76, Tryz.ntmps76
  go_wp2_with fail
  refine C.out.mono ?_; rintro e w1 ⟨rfl, h1, k1, hF⟩
  go_wp2_with fail
  refine (CM.out _).mono ?_; rintro e w2 ⟨rfl, rfl⟩
  go_wp2_with fail
  exact ⟨rfl, rfl, k1⟩
/-- Slots begin where they begin. -/
theorem slotL_first : ∀ s : Fin 29, Tok.slotL (Tok.tbL s.val) = s.val ∧ 2 ≤ Tok.tbL s.val ∧ Tok.tbL s.val ≤ 258 ∧ 0 < Slo.wideL s.val := by decide +kernel
theorem tb_same : ∀ k, Slo.tbL k = Tok.tbL k
  | 0 => rfl
  | k + 1 => by show Slo.tbL k + 2 ^ Slo.exL k = Tok.tbL k + 2 ^ Tok.exL k; rw [tb_same k]; rfl
set_option maxHeartbeats 1600000 in
theorem lBits27 (k : Nat) (hk : k ≤ 28) (w : World) : Calls Tryz.prog 78 #[.int .i64 k] w fun e w' => e = .returned (.int .i64 (Tok.exL k)) ∧ Below w.heap.size w w' := by
  obtain ⟨f1, f2, f3, f4⟩ := slotL_first ⟨k, by omega⟩
  simp only at f1 f2 f3 f4
  have C1 := Lib.hid (fun W => Slo.LenOf_in k 0 hk W)
  rw [if_pos ⟨by decide, by omega⟩, if_pos ⟨by decide, by omega⟩] at C1
  have C2 := Lib.hid (fun W => Tok.Len_in (Tok.tbL k) f2 f3 W)
  rw [f1] at C2
  have e1 : ((Slo.tbL k : Nat) : Int) + 0 = ((Tok.tbL k : Nat) : Int) := by
    rw [Int.add_zero, tb_same]
  rw [e1] at C1
  obtain ⟨T, hT⟩ : ∃ T, Tok.tbL k = T := ⟨_, rfl⟩
  obtain ⟨X, hX⟩ : ∃ X, Tok.exL k = X := ⟨_, rfl⟩
  rw [hT] at C1 C2
  rw [hX] at C2 ⊢
  clear f1 f2 f3 f4 e1 hT hX
  go_enter Tryz.func78, Tryz.ntmps78
  go_wp2_with fail
  refine (C1.out _).mono ?_; rintro e w1 ⟨rfl, hb1⟩
  go_wp2_with fail
  refine (C2.out _).mono ?_; rintro e w2 ⟨rfl, hb2⟩
  have HB := Lib.hid (hb1.trans (hb2.mono hb1.size))
  clear hb1 hb2
  go_wp2_with fail
  go_ret
  exact ⟨rfl, HB.out⟩
theorem slotD_first : ∀ s : Fin 52, Slo.slotD (Slo.tbD s.val) = s.val ∧ 1 ≤ Slo.tbD s.val ∧ Slo.tbD s.val ≤ 67108864 ∧ 0 < Slo.wideD s.val := by decide +kernel
set_option maxHeartbeats 1600000 in
theorem dBits27 (k : Nat) (hk : k ≤ 51) (w : World) : Calls Tryz.prog 80 #[.int .i64 k] w fun e w' => e = .returned (.int .i64 (Slo.exD k)) ∧ Below w.heap.size w w' := by
  obtain ⟨f1, f2, f3, f4⟩ := slotD_first ⟨k, by omega⟩
  simp only at f1 f2 f3 f4
  have C1 := Lib.hid (fun W => Slo.DistOf_in k 0 hk W)
  rw [if_pos ⟨by decide, by omega⟩, if_pos ⟨by decide, by omega⟩] at C1
  have C2 := Lib.hid (fun W => Slo.Dist_in (Slo.tbD k) f2 f3 W)
  rw [f1] at C2
  have e1 : ((Slo.tbD k : Nat) : Int) + 0 = ((Slo.tbD k : Nat) : Int) := by
    rw [Int.add_zero]
  rw [e1] at C1
  obtain ⟨T, hT⟩ : ∃ T, Slo.tbD k = T := ⟨_, rfl⟩
  obtain ⟨X, hX⟩ : ∃ X, Slo.exD k = X := ⟨_, rfl⟩
  rw [hT] at C1 C2
  rw [hX] at C2 ⊢
  clear f1 f2 f3 f4 e1 hT hX
  go_enter Tryz.func80, Tryz.ntmps80
  go_wp2_with fail
  refine (C1.out _).mono ?_; rintro e w1 ⟨rfl, hb1⟩
  go_wp2_with fail
  refine (C2.out _).mono ?_; rintro e w2 ⟨rfl, hb2⟩
  have HB := Lib.hid (hb1.trans (hb2.mono hb1.size))
  clear hb1 hb2
  go_wp2_with fail
  go_ret
  exact ⟨rfl, HB.out⟩
/-- What extra bits and a slot tell. -/
inductive NR where
  | bad (E : Int)
  | good (n t : Nat)
def numR (ex tb wide : Nat → Nat) (L : List Bool) (t k : Nat) : NR :=
  if L.length < t + ex k then .bad 3 else if peek (L.drop t) (ex k) < wide k then .good (tb k + peek (L.drop t) (ex k)) (t + ex k) else .bad 4
def numL := numR Tok.exL Slo.tbL Slo.wideL
def numD := numR Slo.exD Slo.tbD Slo.wideD
/-- How a number's reading ends. -/
def EndN (R : NR) (w0 : World) (g : Nat) (s : List UInt8) (e : Ending) (w' : World) : Prop :=
  match R with
  | .bad E => e = .panicked [flt27 E] ∧ Keeps (fun k => k = g) w0 w'
  | .good n t => e = .returned (.int .i64 n) ∧ IsReader w' g s t ∧ Keeps (fun k => k = g) w0 w' ∧ ∀ B, Far w0 g B → Far w' g B
set_option maxHeartbeats 3200000 in
theorem num27L (w : World) (gr g t k : Nat) (s : List UInt8) (hp : w.cell? ⟨gr, 0, none⟩ = some (.pointer (some ⟨g, 0, none⟩))) (hg : gr ≠ g) (h : IsReader w g s t) (hk : k ≤ 28) : Calls Tryz.prog 77 #[.pointer (some ⟨gr, 0, none⟩), .int .i64 k, .func (Fn.func 78) #[] #[], .func (Fn.func 79) #[] #[]] w (EndN (numL (spread s) t k) w g s) := by
  unfold numL
  unfold numR
  have C1 := Lib.hid (fun W => lBits27 k hk W)
  have hx30 : Tok.exL k ≤ 56 := (show ∀ s : Fin 29, Tok.exL s.val ≤ 56 by decide +kernel) ⟨k, by omega⟩
  by_cases hf : 8 * s.length < t + Tok.exL k
  · rw [if_pos (by rw [spread_length]; exact hf)]
    have CT := Lib.hid (fun W (h1 : W.cell? ⟨gr, 0, none⟩ = some (.pointer (some ⟨g, 0, none⟩))) (h2 : IsReader W g s t) => rdTakeOut W gr g t (Tok.exL k) s h1 h2 hx30 hf)
    obtain ⟨X, hX⟩ : ∃ X, Tok.exL k = X := ⟨_, rfl⟩
    rw [hX] at C1 CT
    have HR := Lib.hid h
    have hgr := cell_block hp
    clear hX hf h hx30 hg
    go_enter Tryz.func77, Tryz.ntmps77
    go_wp2_with fail
    refine (C1.out _).mono ?_; rintro e w1 ⟨rfl, hb1⟩
    have hp1 := (hb1.cell (p := ⟨gr, 0, none⟩) hgr).trans hp
    have HB := Lib.hid hb1
    have C2 := Lib.hid (CT.out w1 hp1 (HR.out.kept hb1))
    clear hb1 hp1
    go_wp2_with fail
    refine C2.out.mono ?_; rintro e w2 ⟨rfl, hk2⟩
    have HK := Lib.hid ((show Keeps (fun j => j = g) w w1 from Keeps.of_below HB.out).trans hk2)
    clear hk2 HB
    go_wp2_with fail
    exact ⟨rfl, rfl, HK.out⟩
  · rw [if_neg (by rw [spread_length]; exact hf)]
    have CT := Lib.hid (fun W (h1 : W.cell? ⟨gr, 0, none⟩ = some (.pointer (some ⟨g, 0, none⟩))) (h2 : IsReader W g s t) => rdTakeIn W gr g t (Tok.exL k) s h1 h2 hx30 (by omega))
    obtain ⟨V, hV⟩ : ∃ V, peek ((spread s).drop t) (Tok.exL k) = V := ⟨_, rfl⟩
    rw [hV] at CT ⊢
    have CO := Lib.hid (fun W => Slo.LenOf_in k V hk W)
    obtain ⟨X, hX⟩ : ∃ X, Tok.exL k = X := ⟨_, rfl⟩
    rw [hX] at C1 CT ⊢
    have HR := Lib.hid h
    have hgr := cell_block hp
    have hgl : g < w.heap.size := h.lt
    have HFW := Lib.hid (fun B W (hb : Below w.heap.size w W) (hF : Far w g B) => Far.kept hF (hb.block g hgl))
    clear hX hf h hx30 hV
    by_cases hv : V < Slo.wideL k
    · rw [if_pos hv]
      rw [if_pos (by omega), if_pos (by omega)] at CO
      obtain ⟨T, hT⟩ : ∃ T, Slo.tbL k = T := ⟨_, rfl⟩
      rw [hT] at CO ⊢
      have CM := Lib.hid m27Ok
      clear hv hT hg
      go_enter Tryz.func77, Tryz.ntmps77
      go_wp2_with fail
      refine (C1.out _).mono ?_; rintro e w1 ⟨rfl, hb1⟩
      have hp1 := (hb1.cell (p := ⟨gr, 0, none⟩) hgr).trans hp
      have HB := Lib.hid hb1
      have C2 := Lib.hid (CT.out w1 hp1 (HR.out.kept hb1))
      clear hb1 hp1
      go_wp2_with fail
      refine C2.out.mono ?_; rintro e w2 ⟨rfl, hr2, hk2, hF2⟩
      have HK := Lib.hid ((show Keeps (fun j => j = g) w w1 from Keeps.of_below HB.out).trans hk2)
      have HF := Lib.hid (fun B (hF : Far w g B) => hF2 B (HFW.out B _ HB.out hF))
      have HR2 := Lib.hid hr2
      clear hr2 hk2 hF2 HB C2 C1 HR CT HFW
      go_wp2_with fail
      refine (CO.out _).mono ?_; rintro e w3 ⟨rfl, hb3⟩
      have HK3 := Lib.hid (HK.out.trans (show Keeps (fun j => j = g) w2 w3 from Keeps.of_below hb3))
      have HR3 := Lib.hid (HR2.out.kept hb3)
      have HF3 := Lib.hid (fun B (hF : Far w g B) => Far.kept (HF.out B hF) (hb3.block g HR2.out.lt))
      clear hb3 HK HF HR2
      go_wp2_with fail
      refine (CM.out _).mono ?_; rintro e w4 ⟨rfl, h4⟩; rw [h4]; clear h4 w4
      go_wp2_with fail
      go_ret
      exact ⟨ret_i (Int.natCast_add T V).symm, HR3.out, HK3.out, HF3.out⟩
    · rw [if_neg hv]
      rw [if_neg (by omega), if_neg (by omega)] at CO
      have CM := Lib.hid (fun W => m27No 2 (by decide) W)
      clear hv hg HFW
      go_enter Tryz.func77, Tryz.ntmps77
      go_wp2_with fail
      refine (C1.out _).mono ?_; rintro e w1 ⟨rfl, hb1⟩
      have hp1 := (hb1.cell (p := ⟨gr, 0, none⟩) hgr).trans hp
      have HB := Lib.hid hb1
      have C2 := Lib.hid (CT.out w1 hp1 (HR.out.kept hb1))
      clear hb1 hp1
      go_wp2_with fail
      refine C2.out.mono ?_; rintro e w2 ⟨rfl, hr2, hk2, hF2⟩
      have HK := Lib.hid ((show Keeps (fun j => j = g) w w1 from Keeps.of_below HB.out).trans hk2)
      clear hr2 hk2 hF2 HB C2 C1 HR CT
      go_wp2_with fail
      refine (CO.out _).mono ?_; rintro e w3 ⟨rfl, hb3⟩
      have HK3 := Lib.hid (HK.out.trans (show Keeps (fun j => j = g) w2 w3 from Keeps.of_below hb3))
      clear hb3 HK
      go_wp2_with fail
      refine (CM.out _).mono ?_; rintro e w4 ⟨rfl, h4⟩; rw [h4]; clear h4 w4
      go_wp2_with fail
      exact ⟨rfl, rfl, HK3.out⟩
set_option maxHeartbeats 3200000 in
theorem num27D (w : World) (gr g t k : Nat) (s : List UInt8) (hp : w.cell? ⟨gr, 0, none⟩ = some (.pointer (some ⟨g, 0, none⟩))) (hg : gr ≠ g) (h : IsReader w g s t) (hk : k ≤ 51) : Calls Tryz.prog 77 #[.pointer (some ⟨gr, 0, none⟩), .int .i64 k, .func (Fn.func 80) #[] #[], .func (Fn.func 81) #[] #[]] w (EndN (numD (spread s) t k) w g s) := by
  unfold numD
  unfold numR
  have C1 := Lib.hid (fun W => dBits27 k hk W)
  have hx30 : Slo.exD k ≤ 56 := (show ∀ s : Fin 52, Slo.exD s.val ≤ 56 by decide +kernel) ⟨k, by omega⟩
  by_cases hf : 8 * s.length < t + Slo.exD k
  · rw [if_pos (by rw [spread_length]; exact hf)]
    have CT := Lib.hid (fun W (h1 : W.cell? ⟨gr, 0, none⟩ = some (.pointer (some ⟨g, 0, none⟩))) (h2 : IsReader W g s t) => rdTakeOut W gr g t (Slo.exD k) s h1 h2 hx30 hf)
    obtain ⟨X, hX⟩ : ∃ X, Slo.exD k = X := ⟨_, rfl⟩
    rw [hX] at C1 CT
    have HR := Lib.hid h
    have hgr := cell_block hp
    clear hX hf h hx30 hg
    go_enter Tryz.func77, Tryz.ntmps77
    go_wp2_with fail
    refine (C1.out _).mono ?_; rintro e w1 ⟨rfl, hb1⟩
    have hp1 := (hb1.cell (p := ⟨gr, 0, none⟩) hgr).trans hp
    have HB := Lib.hid hb1
    have C2 := Lib.hid (CT.out w1 hp1 (HR.out.kept hb1))
    clear hb1 hp1
    go_wp2_with fail
    refine C2.out.mono ?_; rintro e w2 ⟨rfl, hk2⟩
    have HK := Lib.hid ((show Keeps (fun j => j = g) w w1 from Keeps.of_below HB.out).trans hk2)
    clear hk2 HB
    go_wp2_with fail
    exact ⟨rfl, rfl, HK.out⟩
  · rw [if_neg (by rw [spread_length]; exact hf)]
    have CT := Lib.hid (fun W (h1 : W.cell? ⟨gr, 0, none⟩ = some (.pointer (some ⟨g, 0, none⟩))) (h2 : IsReader W g s t) => rdTakeIn W gr g t (Slo.exD k) s h1 h2 hx30 (by omega))
    obtain ⟨V, hV⟩ : ∃ V, peek ((spread s).drop t) (Slo.exD k) = V := ⟨_, rfl⟩
    rw [hV] at CT ⊢
    have CO := Lib.hid (fun W => Slo.DistOf_in k V hk W)
    obtain ⟨X, hX⟩ : ∃ X, Slo.exD k = X := ⟨_, rfl⟩
    rw [hX] at C1 CT ⊢
    have HR := Lib.hid h
    have hgr := cell_block hp
    have hgl : g < w.heap.size := h.lt
    have HFW := Lib.hid (fun B W (hb : Below w.heap.size w W) (hF : Far w g B) => Far.kept hF (hb.block g hgl))
    clear hX hf h hx30 hV
    by_cases hv : V < Slo.wideD k
    · rw [if_pos hv]
      rw [if_pos (by omega), if_pos (by omega)] at CO
      obtain ⟨T, hT⟩ : ∃ T, Slo.tbD k = T := ⟨_, rfl⟩
      rw [hT] at CO ⊢
      have CM := Lib.hid m27Ok
      clear hv hT hg
      go_enter Tryz.func77, Tryz.ntmps77
      go_wp2_with fail
      refine (C1.out _).mono ?_; rintro e w1 ⟨rfl, hb1⟩
      have hp1 := (hb1.cell (p := ⟨gr, 0, none⟩) hgr).trans hp
      have HB := Lib.hid hb1
      have C2 := Lib.hid (CT.out w1 hp1 (HR.out.kept hb1))
      clear hb1 hp1
      go_wp2_with fail
      refine C2.out.mono ?_; rintro e w2 ⟨rfl, hr2, hk2, hF2⟩
      have HK := Lib.hid ((show Keeps (fun j => j = g) w w1 from Keeps.of_below HB.out).trans hk2)
      have HF := Lib.hid (fun B (hF : Far w g B) => hF2 B (HFW.out B _ HB.out hF))
      have HR2 := Lib.hid hr2
      clear hr2 hk2 hF2 HB C2 C1 HR CT HFW
      go_wp2_with fail
      refine (CO.out _).mono ?_; rintro e w3 ⟨rfl, hb3⟩
      have HK3 := Lib.hid (HK.out.trans (show Keeps (fun j => j = g) w2 w3 from Keeps.of_below hb3))
      have HR3 := Lib.hid (HR2.out.kept hb3)
      have HF3 := Lib.hid (fun B (hF : Far w g B) => Far.kept (HF.out B hF) (hb3.block g HR2.out.lt))
      clear hb3 HK HF HR2
      go_wp2_with fail
      refine (CM.out _).mono ?_; rintro e w4 ⟨rfl, h4⟩; rw [h4]; clear h4 w4
      go_wp2_with fail
      go_ret
      exact ⟨ret_i (Int.natCast_add T V).symm, HR3.out, HK3.out, HF3.out⟩
    · rw [if_neg hv]
      rw [if_neg (by omega), if_neg (by omega)] at CO
      have CM := Lib.hid (fun W => m27No 2 (by decide) W)
      clear hv hg HFW
      go_enter Tryz.func77, Tryz.ntmps77
      go_wp2_with fail
      refine (C1.out _).mono ?_; rintro e w1 ⟨rfl, hb1⟩
      have hp1 := (hb1.cell (p := ⟨gr, 0, none⟩) hgr).trans hp
      have HB := Lib.hid hb1
      have C2 := Lib.hid (CT.out w1 hp1 (HR.out.kept hb1))
      clear hb1 hp1
      go_wp2_with fail
      refine C2.out.mono ?_; rintro e w2 ⟨rfl, hr2, hk2, hF2⟩
      have HK := Lib.hid ((show Keeps (fun j => j = g) w w1 from Keeps.of_below HB.out).trans hk2)
      clear hr2 hk2 hF2 HB C2 C1 HR CT
      go_wp2_with fail
      refine (CO.out _).mono ?_; rintro e w3 ⟨rfl, hb3⟩
      have HK3 := Lib.hid (HK.out.trans (show Keeps (fun j => j = g) w2 w3 from Keeps.of_below hb3))
      clear hb3 HK
      go_wp2_with fail
      refine (CM.out _).mono ?_; rintro e w4 ⟨rfl, h4⟩; rw [h4]; clear h4 w4
      go_wp2_with fail
      exact ⟨rfl, rfl, HK3.out⟩
end Go.Proofs.YtipcdkemokkdfaaGreat

/- Layer 27: reading: a token. -/
namespace Go.Proofs.YtipcdkemokkdfaaGreat
open Go.ChangeShapes Go.WideShapes Go.ChangeAt Go.RowKit
set_option linter.unusedVariables false
set_option linter.unusedSimpArgs false
set_option maxRecDepth 100000
open Bits hiding packF pack_length
open RunsMath KraftMath CanonMath TurnMath Pm Two
inductive TR where
  | bad (E : Int)
  | good (t : Tk) (p : Nat)
/-- The rest of a copy, as bits tell it. -/
def farR (d : List Int) (L : List Bool) (n t : Nat) : TR :=
  if (nextL d 15 (L.drop t)).2.2 ≠ 0 then .bad (musE (nextL d 15 (L.drop t)).2.2)
  else match numD L (t + (nextL d 15 (L.drop t)).2.1.toNat) (nextL d 15 (L.drop t)).1.toNat with
    | .bad E => .bad E
    | .good m p => .good ⟨1, 0, (n : Int), (m : Int), 0⟩ p
def tokR (M : List Int) (D : Option (List Int)) (L : List Bool) (t : Nat) : TR :=
  if (nextL M 15 (L.drop t)).2.2 ≠ 0 then .bad (musE (nextL M 15 (L.drop t)).2.2)
  else if (nextL M 15 (L.drop t)).1 < 256 then .good ⟨0, (nextL M 15 (L.drop t)).1, 0, 0, 0⟩ (t + (nextL M 15 (L.drop t)).2.1.toNat)
  else match numL L (t + (nextL M 15 (L.drop t)).2.1.toNat) (Tok.ofS (nextL M 15 (L.drop t)).1).toNat with
    | .bad E => .bad E
    | .good n p => if (nextL M 15 (L.drop t)).1 < 285 then (match D with
        | none => .bad 4
        | some d => farR d L n p)
      else .good ⟨2, 0, (n : Int), 0, ((nextL M 15 (L.drop t)).1 - 285) / 29⟩ p
theorem ent_lt {l : List Int} {L v s n : Nat} (h : entB l L v = (s, n)) (hn : n ≠ 0) : s < l.length := by
  unfold entB entK at h
  cases hf : (List.range l.length).find? (hitAt l (bitsOf v L)) with
  | none => rw [hf] at h; simp at h; omega
  | some t =>
    rw [hf] at h
    simp at h
    have := List.mem_range.1 (List.mem_of_find?_eq_some hf)
    omega
theorem next_lt {l : List Int} {L : Nat} {rest : List Bool} {X Y : Int} (h : nextL l L rest = (X, Y, 0)) : 0 ≤ X ∧ X < l.length ∧ ∃ y : Nat, Y = y ∧ y ≠ 0 ∧ y ≤ rest.length := by
  obtain ⟨⟨s, n⟩, he⟩ : ∃ q, entB l L (peek rest L) = q := ⟨_, rfl⟩
  unfold nextL at h
  rw [he] at h
  simp only at h
  by_cases h0 : n = 0
  · rw [if_pos h0] at h; simp at h
  · rw [if_neg h0] at h
    by_cases h1 : rest.length < n
    · rw [if_pos h1] at h; simp at h
    · rw [if_neg h1] at h
      have := ent_lt he h0
      injection h with e1 e2
      injection e2 with e2 e3
      exact ⟨by omega, by omega, n, e2.symm, h0, by omega⟩
theorem of_lit {X : Int} (h0 : 0 ≤ X) (h : X < 256) : Tok.ofK X = 0 ∧ Tok.ofB X = X ∧ Tok.ofR X = 0 ∧ Tok.ofS X = 0 ∧ Tok.ofE X = 0 := by
  unfold Tok.ofK Tok.ofB Tok.ofR Tok.ofS Tok.ofE
  have h1 : ¬ (X < 0 ∨ 400 < X) := by omega
  simp only [if_neg h1, if_pos h, if_pos (show X < 285 by omega)]
  exact ⟨trivial, trivial, trivial, trivial, trivial⟩
theorem of_copy {X : Int} (h0 : 256 ≤ X) (h : X < 285) : Tok.ofK X = 1 ∧ Tok.ofB X = 0 ∧ Tok.ofR X = 0 ∧ (∃ k : Nat, Tok.ofS X = (k : Int) ∧ k ≤ 28) ∧ Tok.ofE X = 0 := by
  unfold Tok.ofK Tok.ofB Tok.ofR Tok.ofS Tok.ofE
  have h1 : ¬ (X < 0 ∨ 400 < X) := by omega
  have h2 : ¬ X < 256 := by omega
  simp only [if_neg h1, if_neg h2, if_pos h]
  exact ⟨trivial, trivial, trivial, ⟨(X - 256).toNat, by omega, by omega⟩, trivial⟩
theorem of_rep {X : Int} (h0 : 285 ≤ X) (h : X ≤ 400) : Tok.ofK X = 2 ∧ Tok.ofB X = 0 ∧ (Tok.ofR X = (X - 285) / 29) ∧ (∃ k : Nat, Tok.ofS X = (k : Int) ∧ k ≤ 28) ∧ Tok.ofE X = 0 := by
  unfold Tok.ofK Tok.ofB Tok.ofR Tok.ofS Tok.ofE
  have h1 : ¬ (X < 0 ∨ 400 < X) := by omega
  have h2 : ¬ X < 256 := by omega
  have h3 : ¬ X < 285 := by omega
  simp only [if_neg h1, if_neg h2, if_neg h3]
  exact ⟨trivial, trivial, trivial, ⟨((X - 285) % 29).toNat, by omega, by omega⟩, trivial⟩
/-- A table of distances, if there is one. -/
def D27 (w : World) (S : Nat → Prop) (dv : Value) : Option (List Int) → Prop
  | none => dv = .pointer none
  | some d => ∃ gd, dv = .pointer (some ⟨gd, 0, none⟩) ∧ T27 w S gd d ∧ d.length = 52
theorem D27.keeps {w w' : World} {S : Nat → Prop} {dv : Value} {D : Option (List Int)} (h : D27 w S dv D) (hk : Keeps S w w') : D27 w' S dv D := by
  cases D with
  | none => exact h
  | some d => obtain ⟨gd, e, ht, hl⟩ := h; exact ⟨gd, e, ht.keeps hk, hl⟩
def feet27 (g gr : Nat) (k : Nat) : Prop := k = g ∨ k = gr
structure Rd27 (w : World) (gr g gm : Nat) (dv : Value) (M : List Int) (D : Option (List Int)) : Prop where
  bk : w.heap[gr]? = some (.cells #[.pointer (some ⟨g, 0, none⟩), .pointer (some ⟨gm, 0, none⟩), dv] 114 (0, 0))
  ne : gr ≠ g
  tm : T27 w (feet27 g gr) gm M
  td : D27 w (feet27 g gr) dv D
  lm : M.length = 401
theorem Rd27.keeps {w w' : World} {gr g gm : Nat} {dv : Value} {M : List Int} {D : Option (List Int)} (h : Rd27 w gr g gm dv M D) (hk : Keeps (fun k => k = g) w w') : Rd27 w' gr g gm dv M D :=
  ⟨hk.heap h.bk h.ne, h.ne, h.tm.keeps (hk.mono (fun k _ e => .inl e)), h.td.keeps (hk.mono (fun k _ e => .inl e)), h.lm⟩
theorem Rd27.below {w w' : World} {gr g gm : Nat} {dv : Value} {M : List Int} {D : Option (List Int)} (h : Rd27 w gr g gm dv M D) (hb : Below w.heap.size w w') : Rd27 w' gr g gm dv M D := h.keeps (Keeps.of_below hb)
theorem Rd27.c0 {w : World} {gr g gm : Nat} {dv : Value} {M : List Int} {D : Option (List Int)} (h : Rd27 w gr g gm dv M D) : w.cell? ⟨gr, 0, none⟩ = some (.pointer (some ⟨g, 0, none⟩)) := cell_lit h.bk 0 _ rfl
theorem Rd27.c1 {w : World} {gr g gm : Nat} {dv : Value} {M : List Int} {D : Option (List Int)} (h : Rd27 w gr g gm dv M D) : w.cell? ⟨gr, 1, none⟩ = some (.pointer (some ⟨gm, 0, none⟩)) := cell_lit h.bk 1 _ rfl
theorem Rd27.c2 {w : World} {gr g gm : Nat} {dv : Value} {M : List Int} {D : Option (List Int)} (h : Rd27 w gr g gm dv M D) : w.cell? ⟨gr, 2, none⟩ = some dv := cell_lit h.bk 2 _ rfl
def EndT (R : TR) (w0 : World) (g : Nat) (s : List UInt8) (e : Ending) (w' : World) : Prop :=
  match R with
  | .bad E => e = .panicked [flt27 E] ∧ Keeps (fun k => k = g) w0 w'
  | .good t p => e = .returned (tkV t) ∧ IsReader w' g s p ∧ Keeps (fun k => k = g) w0 w' ∧ ∀ B, Far w0 g B → Far w' g B
def box5 (k b l d r : Int) : Array Value := #[.int .i64 k, .int .i64 b, .int .i64 l, .int .i64 d, .int .i64 r]
/-- How things stand within a token's reading. -/
structure Mid (w0 w : World) (gr g gm : Nat) (dv : Value) (M : List Int) (D : Option (List Int)) (s : List UInt8) (t : Nat) : Prop where
  rd0 : Rd27 w0 gr g gm dv M D
  at' : IsReader w g s t
  kp : Keeps (fun k => k = g) w0 w
  fr : ∀ B, Far w0 g B → Far w g B
theorem Mid.rd {w0 w : World} {gr g gm : Nat} {dv : Value} {M : List Int} {D : Option (List Int)} {s : List UInt8} {t : Nat} (h : Mid w0 w gr g gm dv M D s t) : Rd27 w gr g gm dv M D := h.rd0.keeps h.kp
theorem Mid.go {w0 w w' : World} {gr g gm : Nat} {dv : Value} {M : List Int} {D : Option (List Int)} {s : List UInt8} {t t' : Nat} (h : Mid w0 w gr g gm dv M D s t) (hr : IsReader w' g s t') (hk : Keeps (fun k => k = g) w w') (hF : ∀ B, Far w g B → Far w' g B) : Mid w0 w' gr g gm dv M D s t' :=
  ⟨h.rd0, hr, h.kp.trans hk, fun B hB => hF B (h.fr B hB)⟩
theorem Mid.low {w0 w w' : World} {gr g gm : Nat} {dv : Value} {M : List Int} {D : Option (List Int)} {s : List UInt8} {t : Nat} (h : Mid w0 w gr g gm dv M D s t) (hb : Below w.heap.size w w') : Mid w0 w' gr g gm dv M D s t :=
  h.go (h.at'.kept hb) (Keeps.of_below hb) (fun B hB => Far.kept hB (hb.block g h.at'.lt))
theorem Mid.put {w0 w w' : World} {gr g gm gy : Nat} {dv : Value} {M : List Int} {D : Option (List Int)} {s : List UInt8} {t : Nat} {k b l d r : Int} {tt : TypeId} (h : Mid w0 w gr g gm dv M D s t) (hy : w.heap[gy]? = some (.cells (box5 k b l d r) tt (0, 0))) (hg : w0.heap.size ≤ gy) (hk : Keeps (fun j => j = gy) w w') : Mid w0 w' gr g gm dv M D s t := by
  have hne : gy ≠ g := by
    have := h.rd0.c0
    intro e
    obtain ⟨p, L, C, hgg, -⟩ := h.at'
    rw [e, hgg] at hy
    injection hy with hy
    injection hy with hy _ _
    have := congrArg Array.size hy
    simp [box5] at this
  refine ⟨h.rd0, reader_away h.at' (k := gy) (fun j x e => ?_) hne hk, h.kp.trans' hk (fun j hj e => by have : j = gy := e; omega), fun B hB => Far.kept (h.fr B hB) (hk.block g h.at'.lt (fun e => hne e.symm))⟩
  rw [cell_in hy j] at e
  unfold box5 at e
  rcases j with _ | _ | _ | _ | _ | j <;> simp at e
theorem box_new (w : World) (k b l d r : Int) : (w.alloc (.cells #[.int .i64 k, .int .i64 b, .int .i64 l, .int .i64 d, .int .i64 r] 42)).heap[w.heap.size]? = some (.cells (box5 k b l d r) 42 (0, 0)) := heap_alloc_new w _
theorem box_cell {w : World} {gx : Nat} {k b l d r : Int} {t : TypeId} (h : w.heap[gx]? = some (.cells (box5 k b l d r) t (0, 0))) :
    (w.cell? ⟨gx, 0, none⟩ = some (.int .i64 k) ∧ w.cell? ⟨gx, 1, none⟩ = some (.int .i64 b) ∧ w.cell? ⟨gx, 2, none⟩ = some (.int .i64 l) ∧ w.cell? ⟨gx, 3, none⟩ = some (.int .i64 d) ∧ w.cell? ⟨gx, 4, none⟩ = some (.int .i64 r)) ∧
    (w.frozen? ⟨gx, 0, none⟩ = false ∧ w.frozen? ⟨gx, 1, none⟩ = false ∧ w.frozen? ⟨gx, 2, none⟩ = false ∧ w.frozen? ⟨gx, 3, none⟩ = false ∧ w.frozen? ⟨gx, 4, none⟩ = false) ∧ gx < w.heap.size :=
  ⟨⟨cell_in h 0, cell_in h 1, cell_in h 2, cell_in h 3, cell_in h 4⟩, ⟨free_in h 0, free_in h 1, free_in h 2, free_in h 3, free_in h 4⟩, block_lt h⟩
/-- A box that is written whole. -/
def putBox (w : World) (gx : Nat) (k b l d r : Int) : World := ((((w.setCell ⟨gx, 0, none⟩ (.int .i64 k)).setCell ⟨gx, 1, none⟩ (.int .i64 b)).setCell ⟨gx, 2, none⟩ (.int .i64 l)).setCell ⟨gx, 3, none⟩ (.int .i64 d)).setCell ⟨gx, 4, none⟩ (.int .i64 r)
theorem putBox_keeps (w : World) (gx : Nat) (k b l d r : Int) : Keeps (fun j => j = gx) w (putBox w gx k b l d r) :=
  (((((Keeps.refl (fun j => j = gx) w).setCell (p := ⟨gx, 0, none⟩) (.inr rfl) _).setCell (p := ⟨gx, 1, none⟩) (.inr rfl) _).setCell (p := ⟨gx, 2, none⟩) (.inr rfl) _).setCell (p := ⟨gx, 3, none⟩) (.inr rfl) _).setCell (p := ⟨gx, 4, none⟩) (.inr rfl) _
theorem putBox_at {w : World} {gx : Nat} {k b l d r k' b' l' d' r' : Int} {t : TypeId} (h : w.heap[gx]? = some (.cells (box5 k b l d r) t (0, 0))) : (putBox w gx k' b' l' d' r').heap[gx]? = some (.cells (box5 k' b' l' d' r') t (0, 0)) :=
  block_set (block_set (block_set (block_set (block_set h 0 _) 1 _) 2 _) 3 _) 4 _
theorem Mid.done {w0 w : World} {gr g gm : Nat} {dv : Value} {M : List Int} {D : Option (List Int)} {s : List UInt8} {t : Nat} (h : Mid w0 w gr g gm dv M D s t) (k : Tk) : EndT (.good k t) w0 g s (.returned (tkV k)) w := ⟨rfl, h.at', h.kp, h.fr⟩
theorem res27 {W : World} {c : Act} {gx : Nat} {k b l d r : Int} {t : TypeId} {Q : Ending → World → Prop} (hd : c.defers = []) (hc : c.tmps.getD 2 undef = .pointer (some ⟨gx, 0, none⟩)) (h : W.heap[gx]? = some (.cells (box5 k b l d r) t (0, 0))) (hQ : Q (.returned (tkV ⟨k, b, l, d, r⟩)) W) : bodyPost Tryz.prog Tryz.f53 Q .ret c W := by
  obtain ⟨⟨q0, q1, q2, q3, q4⟩, -⟩ := box_cell h
  refine bodyPost_ret (v := tkV ⟨k, b, l, d, r⟩) ?_ hd hQ
  have hc2 : c.tmps[2]?.getD undef = .pointer (some ⟨gx, 0, none⟩) := by simpa using hc
  simp [results, Tryz.results53, go_sem, hc2, q0, q1, q2, q3, q4, tkV]
set_option maxHeartbeats 3200000 in
theorem tok27Lit (w0 : World) (gr g gm : Nat) (dv : Value) (M : List Int) (D : Option (List Int)) (s : List UInt8) (t : Nat) (h : Rd27 w0 gr g gm dv M D) (hr : IsReader w0 g s t) (X Y : Int) (hX : nextL M 15 ((spread s).drop t) = (X, Y, 0)) (hx : X < 256) (t2 : Nat) (ht2 : t + Y.toNat = t2) :
    Calls Tryz.prog 53 #[.pointer (some ⟨gr, 0, none⟩)] w0 (EndT (.good ⟨0, X, 0, 0, 0⟩ t2) w0 g s) := by
  obtain ⟨hx0, -, -⟩ := next_lt hX
  obtain ⟨k1, k2, k3, k4, k5⟩ := of_lit hx0 hx
  have CO := Lib.hid (fun W => Tok.Of_any X W)
  rw [k1, k2, k3, k4, k5] at CO
  clear k1 k2 k3 k4 k5 hx hx0
  have c1 := h.c1
  have hgrl := block_lt h.bk
  have HM := Lib.hid (show Mid w0 w0 gr g gm dv M D s t from ⟨h, hr, Keeps.refl _ _, fun _ h => h⟩)
  have CN := Lib.hid (fun W (h : Mid w0 W gr g gm dv M D s t) => nx27Ok W (feet27 g gr) gr gm g M s t h.rd.c0 h.rd.tm h.at' X Y hX)
  have CM := Lib.hid m27Ok
  rw [ht2] at CN
  clear ht2 hX h hr
  go_enter Tryz.func53, Tryz.ntmps53
  go_wp2_with fail
  have HX1 := Lib.hid (box_new w0 0 0 0 0 0)
  have HM1 := Lib.hid (HM.out.low ((Below.refl _ w0).alloc (Nat.le_refl _) (.cells #[.int .i64 0, .int .i64 0, .int .i64 0, .int .i64 0, .int .i64 0] 42)))
  have hgg : g < w0.heap.size := HM.out.at'.lt
  obtain ⟨w1, hw1⟩ : ∃ w1, w0.alloc (.cells #[.int .i64 0, .int .i64 0, .int .i64 0, .int .i64 0, .int .i64 0] 42) = w1 := ⟨_, rfl⟩
  obtain ⟨gx, hgx⟩ : ∃ gx, w0.heap.size = gx := ⟨_, rfl⟩
  have hgx0 : w0.heap.size ≤ gx := by omega
  rw [hw1] at HM1 HX1 ⊢
  rw [hgx] at hgg HX1 ⊢
  clear hw1 hgx c1 hgrl HM
  refine (CN.out w1 HM1.out).mono ?_; rintro e w2 ⟨rfl, hr2, hk2, hF2⟩
  have HM2 := Lib.hid (HM1.out.go hr2 hk2 hF2)
  have HX2 := Lib.hid (hk2.heap HX1.out (by omega))
  clear hr2 hk2 hF2 HM1 HX1 CN
  go_wp2_with fail
  refine (CO.out _).mono ?_; rintro e w3 ⟨rfl, rfl⟩
  go_wp2_with fail
  refine (CM.out _).mono ?_; rintro e w4 ⟨rfl, h4⟩; rw [h4]; clear h4 w4 CO
  obtain ⟨⟨x0, x1, x2, x3, x4⟩, ⟨f0, f1, f2, f3, f4⟩, hlt⟩ := box_cell HX2.out
  go_wp2_with fail
  refine res27 rfl rfl (gx := gx) (k := 0) (b := X) (l := 0) (d := 0) (r := 0) (t := 42) ((((Below.refl _ _).alloc (Nat.le_refl _) _).block gx (block_lt (putBox_at HX2.out))).trans (putBox_at HX2.out)) ?_
  exact ((HM2.out.put HX2.out hgx0 (putBox_keeps w2 gx 0 X 0 0 0)).low ((Below.refl _ _).alloc (Nat.le_refl _) _)).done _
end Go.Proofs.YtipcdkemokkdfaaGreat

/- Layer 27: reading: a token that copies. -/
namespace Go.Proofs.YtipcdkemokkdfaaGreat
open Go.ChangeShapes Go.WideShapes Go.ChangeAt Go.RowKit
set_option linter.unusedVariables false
set_option linter.unusedSimpArgs false
set_option maxRecDepth 100000
open Bits hiding packF pack_length
open RunsMath KraftMath CanonMath TurnMath Pm Two
set_option maxHeartbeats 3200000 in
theorem tok27NumNo (w0 : World) (gr g gm : Nat) (dv : Value) (M : List Int) (D : Option (List Int)) (s : List UInt8) (t : Nat) (h : Rd27 w0 gr g gm dv M D) (hr : IsReader w0 g s t) (X Y : Int) (hX : nextL M 15 ((spread s).drop t) = (X, Y, 0)) (t2 : Nat) (ht2 : t + Y.toNat = t2) (K R : Int) (k : Nat) (hk : k ≤ 28) (hK : (K == 0) = false) (CO : Hid (∀ W, Calls Tryz.prog 75 #[.int .i64 X] W fun e w' => e = .returned (.tuple #[.int .i64 K, .int .i64 0, .int .i64 R, .int .i64 k, .int .i64 0]) ∧ W = w')) (E : Int) (hN : numL (spread s) t2 k = .bad E) :
    Calls Tryz.prog 53 #[.pointer (some ⟨gr, 0, none⟩)] w0 (EndT (.bad E) w0 g s) := by
  have CL := Lib.hid (fun W (h : Mid w0 W gr g gm dv M D s t2) => num27L W gr g t2 k s h.rd.c0 h.rd.ne h.at' hk)
  rw [hN] at CL
  have HGL := Lib.hid hr.lt
  clear hN
  have c1 := h.c1
  have hgrl := block_lt h.bk
  have HM := Lib.hid (show Mid w0 w0 gr g gm dv M D s t from ⟨h, hr, Keeps.refl _ _, fun _ h => h⟩)
  have CN := Lib.hid (fun W (h : Mid w0 W gr g gm dv M D s t) => nx27Ok W (feet27 g gr) gr gm g M s t h.rd.c0 h.rd.tm h.at' X Y hX)
  have CM := Lib.hid m27Ok
  rw [ht2] at CN
  clear ht2 hX h hr
  go_enter Tryz.func53, Tryz.ntmps53
  go_wp2_with fail
  have HX1 := Lib.hid (box_new w0 0 0 0 0 0)
  have HM1 := Lib.hid (HM.out.low ((Below.refl _ w0).alloc (Nat.le_refl _) (.cells #[.int .i64 0, .int .i64 0, .int .i64 0, .int .i64 0, .int .i64 0] 42)))
  have hgg : g < w0.heap.size := HM.out.at'.lt
  obtain ⟨w1, hw1⟩ : ∃ w1, w0.alloc (.cells #[.int .i64 0, .int .i64 0, .int .i64 0, .int .i64 0, .int .i64 0] 42) = w1 := ⟨_, rfl⟩
  obtain ⟨gx, hgx⟩ : ∃ gx, w0.heap.size = gx := ⟨_, rfl⟩
  have hgx0 : w0.heap.size ≤ gx := by omega
  rw [hw1] at HM1 HX1 ⊢
  rw [hgx] at hgg HX1 ⊢
  clear hw1 hgx c1 hgrl HM
  refine (CN.out w1 HM1.out).mono ?_; rintro e w2 ⟨rfl, hr2, hk2, hF2⟩
  have HM2 := Lib.hid (HM1.out.go hr2 hk2 hF2)
  have HX2 := Lib.hid (hk2.heap HX1.out (by omega))
  clear hr2 hk2 hF2 HM1 HX1 CN
  go_wp2_with fail
  refine (CO.out _).mono ?_; rintro e w3 ⟨rfl, rfl⟩
  go_wp2_with fail
  refine (CM.out _).mono ?_; rintro e w4 ⟨rfl, h4⟩; rw [h4]; clear h4 w4 CO
  obtain ⟨gy, hgy⟩ : ∃ gy, w2.heap.size = gy := ⟨_, rfl⟩
  go_wp2_with fail
  have HY5 := Lib.hid (box_new w2 K 0 0 0 R)
  have HB5 := (Below.refl w2.heap.size w2).alloc (Nat.le_refl _) (.cells #[.int .i64 K, .int .i64 0, .int .i64 0, .int .i64 0, .int .i64 R] 42)
  have HM5 := Lib.hid (HM2.out.low HB5)
  have HX5 := Lib.hid ((HB5.block gx (block_lt HX2.out)).trans HX2.out)
  have hgy0 : w0.heap.size ≤ gy := by rw [← hgy]; exact HM2.out.kp.size
  obtain ⟨w5, hw5⟩ : ∃ w5, w2.alloc (.cells #[.int .i64 K, .int .i64 0, .int .i64 0, .int .i64 0, .int .i64 R] 42) = w5 := ⟨_, rfl⟩
  rw [hw5] at HM5 HX5 HY5 ⊢
  try rw [hgy]
  rw [hgy] at HY5
  have hxy : gx ≠ gy := by have := block_lt HX2.out; omega
  have hgg0 : g < w0.heap.size := HM2.out.rd0.c0 |> fun _ => HGL.out
  clear HB5 hw5 hgy HM2 HX2
  refine (CL.out w5 HM5.out).mono ?_; rintro e w6 ⟨rfl, hk6⟩
  have HK6 := Lib.hid (HM5.out.kp.trans hk6)
  clear hk6 CL HM5 HX5 HY5
  go_wp2_with fail
  exact ⟨rfl, rfl, HK6.out⟩
set_option maxHeartbeats 3200000 in
theorem tok27Rep (w0 : World) (gr g gm : Nat) (dv : Value) (M : List Int) (D : Option (List Int)) (s : List UInt8) (t : Nat) (h : Rd27 w0 gr g gm dv M D) (hr : IsReader w0 g s t) (X Y : Int) (hX : nextL M 15 ((spread s).drop t) = (X, Y, 0)) (t2 : Nat) (ht2 : t + Y.toNat = t2) (R : Int) (k : Nat) (hk : k ≤ 28) (CO : Hid (∀ W, Calls Tryz.prog 75 #[.int .i64 X] W fun e w' => e = .returned (.tuple #[.int .i64 2, .int .i64 0, .int .i64 R, .int .i64 k, .int .i64 0]) ∧ W = w')) (n p : Nat) (hN : numL (spread s) t2 k = .good n p) :
    Calls Tryz.prog 53 #[.pointer (some ⟨gr, 0, none⟩)] w0 (EndT (.good ⟨2, 0, n, 0, R⟩ p) w0 g s) := by
  have CL := Lib.hid (fun W (h : Mid w0 W gr g gm dv M D s t2) => num27L W gr g t2 k s h.rd.c0 h.rd.ne h.at' hk)
  rw [hN] at CL
  have HGL := Lib.hid hr.lt
  clear hN
  have c1 := h.c1
  have hgrl := block_lt h.bk
  have HM := Lib.hid (show Mid w0 w0 gr g gm dv M D s t from ⟨h, hr, Keeps.refl _ _, fun _ h => h⟩)
  have CN := Lib.hid (fun W (h : Mid w0 W gr g gm dv M D s t) => nx27Ok W (feet27 g gr) gr gm g M s t h.rd.c0 h.rd.tm h.at' X Y hX)
  have CM := Lib.hid m27Ok
  rw [ht2] at CN
  clear ht2 hX h hr
  go_enter Tryz.func53, Tryz.ntmps53
  go_wp2_with fail
  have HX1 := Lib.hid (box_new w0 0 0 0 0 0)
  have HM1 := Lib.hid (HM.out.low ((Below.refl _ w0).alloc (Nat.le_refl _) (.cells #[.int .i64 0, .int .i64 0, .int .i64 0, .int .i64 0, .int .i64 0] 42)))
  have hgg : g < w0.heap.size := HM.out.at'.lt
  obtain ⟨w1, hw1⟩ : ∃ w1, w0.alloc (.cells #[.int .i64 0, .int .i64 0, .int .i64 0, .int .i64 0, .int .i64 0] 42) = w1 := ⟨_, rfl⟩
  obtain ⟨gx, hgx⟩ : ∃ gx, w0.heap.size = gx := ⟨_, rfl⟩
  have hgx0 : w0.heap.size ≤ gx := by omega
  rw [hw1] at HM1 HX1 ⊢
  rw [hgx] at hgg HX1 ⊢
  clear hw1 hgx c1 hgrl HM
  refine (CN.out w1 HM1.out).mono ?_; rintro e w2 ⟨rfl, hr2, hk2, hF2⟩
  have HM2 := Lib.hid (HM1.out.go hr2 hk2 hF2)
  have HX2 := Lib.hid (hk2.heap HX1.out (by omega))
  clear hr2 hk2 hF2 HM1 HX1 CN
  go_wp2_with fail
  refine (CO.out _).mono ?_; rintro e w3 ⟨rfl, rfl⟩
  go_wp2_with fail
  refine (CM.out _).mono ?_; rintro e w4 ⟨rfl, h4⟩; rw [h4]; clear h4 w4 CO
  obtain ⟨gy, hgy⟩ : ∃ gy, w2.heap.size = gy := ⟨_, rfl⟩
  go_wp2_with fail
  have HY5 := Lib.hid (box_new w2 2 0 0 0 R)
  have HB5 := (Below.refl w2.heap.size w2).alloc (Nat.le_refl _) (.cells #[.int .i64 2, .int .i64 0, .int .i64 0, .int .i64 0, .int .i64 R] 42)
  have HM5 := Lib.hid (HM2.out.low HB5)
  have HX5 := Lib.hid ((HB5.block gx (block_lt HX2.out)).trans HX2.out)
  have hgy0 : w0.heap.size ≤ gy := by rw [← hgy]; exact HM2.out.kp.size
  obtain ⟨w5, hw5⟩ : ∃ w5, w2.alloc (.cells #[.int .i64 2, .int .i64 0, .int .i64 0, .int .i64 0, .int .i64 R] 42) = w5 := ⟨_, rfl⟩
  rw [hw5] at HM5 HX5 HY5 ⊢
  try rw [hgy]
  rw [hgy] at HY5
  have hxy : gx ≠ gy := by have := block_lt HX2.out; omega
  have hgg0 : g < w0.heap.size := HM2.out.rd0.c0 |> fun _ => HGL.out
  clear HB5 hw5 hgy HM2 HX2
  refine (CL.out w5 HM5.out).mono ?_; rintro e w6 ⟨rfl, hr6, hk6, hF6⟩
  have HM6 := Lib.hid (HM5.out.go hr6 hk6 hF6)
  have HX6 := Lib.hid (hk6.heap HX5.out (by omega))
  have HY6 := Lib.hid (hk6.heap HY5.out (by omega))
  have hgrl := block_lt HM6.out.rd0.bk
  have z2 := HM6.out.rd.c2
  have z0 := HM6.out.rd.c0
  obtain ⟨⟨y0, y1, y2, y3, y4⟩, ⟨e0, e1, e2, e3, e4⟩, hylt⟩ := box_cell HY6.out
  have HM7 := Lib.hid (HM6.out.put HY6.out hgy0 ((Keeps.refl (fun j => j = gy) w6).setCell (p := ⟨gy, 2, none⟩) (.inr rfl) (.int .i64 n)))
  have HY7 := Lib.hid (show (w6.setCell ⟨gy, 2, none⟩ (.int .i64 n)).heap[gy]? = some (.cells (box5 2 0 n 0 R) 42 (0, 0)) from block_set HY6.out 2 _)
  have HX7 := Lib.hid ((heap_setCell_other w6 ⟨gy, 2, none⟩ gx (.int .i64 n) hxy).trans HX6.out)
  have hgry : ¬ gr = gy := by omega
  clear hr6 hk6 hF6 CL HM5 HX5 HY5
  clear z2 z0
  obtain ⟨⟨x0, x1, x2, x3, x4⟩, ⟨f0, f1, f2, f3, f4⟩, hxlt⟩ := box_cell HX6.out
  have hyx : ¬ gy = gx := fun e => hxy e.symm
  go_wp2_with fail
  refine res27 rfl rfl (gx := gx) (k := 2) (b := 0) (l := n) (d := 0) (r := R) (t := 42) (putBox_at HX7.out) ?_
  exact (HM7.out.put HX7.out hgx0 (putBox_keeps _ gx 2 0 n 0 R)).done _
set_option maxHeartbeats 3200000 in
theorem tok27None (w0 : World) (gr g gm : Nat) (M : List Int) (s : List UInt8) (t : Nat) (h : Rd27 w0 gr g gm (.pointer none) M none) (hr : IsReader w0 g s t) (X Y : Int) (hX : nextL M 15 ((spread s).drop t) = (X, Y, 0)) (t2 : Nat) (ht2 : t + Y.toNat = t2) (k : Nat) (hk : k ≤ 28) (CO : Hid (∀ W, Calls Tryz.prog 75 #[.int .i64 X] W fun e w' => e = .returned (.tuple #[.int .i64 1, .int .i64 0, .int .i64 0, .int .i64 k, .int .i64 0]) ∧ W = w')) (n p : Nat) (hN : numL (spread s) t2 k = .good n p) :
    Calls Tryz.prog 53 #[.pointer (some ⟨gr, 0, none⟩)] w0 (EndT (.bad 4) w0 g s) := by
  have CL := Lib.hid (fun W (h : Mid w0 W gr g gm (.pointer none) M none s t2) => num27L W gr g t2 k s h.rd.c0 h.rd.ne h.at' hk)
  rw [hN] at CL
  have HGL := Lib.hid hr.lt
  obtain ⟨dv, hdv⟩ : ∃ dv, Value.pointer none = dv := ⟨_, rfl⟩
  obtain ⟨D, hD⟩ : ∃ D : Option (List Int), none = D := ⟨_, rfl⟩
  rw [hdv, hD] at h CL
  have HDV := Lib.hid hdv
  have CM4 := Lib.hid (fun W => m27No 4 (by decide) W)
  clear hN hdv hD
  have c1 := h.c1
  have hgrl := block_lt h.bk
  have HM := Lib.hid (show Mid w0 w0 gr g gm dv M D s t from ⟨h, hr, Keeps.refl _ _, fun _ h => h⟩)
  have CN := Lib.hid (fun W (h : Mid w0 W gr g gm dv M D s t) => nx27Ok W (feet27 g gr) gr gm g M s t h.rd.c0 h.rd.tm h.at' X Y hX)
  have CM := Lib.hid m27Ok
  rw [ht2] at CN
  clear ht2 hX h hr
  go_enter Tryz.func53, Tryz.ntmps53
  go_wp2_with fail
  have HX1 := Lib.hid (box_new w0 0 0 0 0 0)
  have HM1 := Lib.hid (HM.out.low ((Below.refl _ w0).alloc (Nat.le_refl _) (.cells #[.int .i64 0, .int .i64 0, .int .i64 0, .int .i64 0, .int .i64 0] 42)))
  have hgg : g < w0.heap.size := HM.out.at'.lt
  obtain ⟨w1, hw1⟩ : ∃ w1, w0.alloc (.cells #[.int .i64 0, .int .i64 0, .int .i64 0, .int .i64 0, .int .i64 0] 42) = w1 := ⟨_, rfl⟩
  obtain ⟨gx, hgx⟩ : ∃ gx, w0.heap.size = gx := ⟨_, rfl⟩
  have hgx0 : w0.heap.size ≤ gx := by omega
  rw [hw1] at HM1 HX1 ⊢
  rw [hgx] at hgg HX1 ⊢
  clear hw1 hgx c1 hgrl HM
  refine (CN.out w1 HM1.out).mono ?_; rintro e w2 ⟨rfl, hr2, hk2, hF2⟩
  have HM2 := Lib.hid (HM1.out.go hr2 hk2 hF2)
  have HX2 := Lib.hid (hk2.heap HX1.out (by omega))
  clear hr2 hk2 hF2 HM1 HX1 CN
  go_wp2_with fail
  refine (CO.out _).mono ?_; rintro e w3 ⟨rfl, rfl⟩
  go_wp2_with fail
  refine (CM.out _).mono ?_; rintro e w4 ⟨rfl, h4⟩; rw [h4]; clear h4 w4 CO
  obtain ⟨gy, hgy⟩ : ∃ gy, w2.heap.size = gy := ⟨_, rfl⟩
  go_wp2_with fail
  have HY5 := Lib.hid (box_new w2 1 0 0 0 0)
  have HB5 := (Below.refl w2.heap.size w2).alloc (Nat.le_refl _) (.cells #[.int .i64 1, .int .i64 0, .int .i64 0, .int .i64 0, .int .i64 0] 42)
  have HM5 := Lib.hid (HM2.out.low HB5)
  have HX5 := Lib.hid ((HB5.block gx (block_lt HX2.out)).trans HX2.out)
  have hgy0 : w0.heap.size ≤ gy := by rw [← hgy]; exact HM2.out.kp.size
  obtain ⟨w5, hw5⟩ : ∃ w5, w2.alloc (.cells #[.int .i64 1, .int .i64 0, .int .i64 0, .int .i64 0, .int .i64 0] 42) = w5 := ⟨_, rfl⟩
  rw [hw5] at HM5 HX5 HY5 ⊢
  try rw [hgy]
  rw [hgy] at HY5
  have hxy : gx ≠ gy := by have := block_lt HX2.out; omega
  have hgg0 : g < w0.heap.size := HM2.out.rd0.c0 |> fun _ => HGL.out
  clear HB5 hw5 hgy HM2 HX2
  refine (CL.out w5 HM5.out).mono ?_; rintro e w6 ⟨rfl, hr6, hk6, hF6⟩
  have HM6 := Lib.hid (HM5.out.go hr6 hk6 hF6)
  have HX6 := Lib.hid (hk6.heap HX5.out (by omega))
  have HY6 := Lib.hid (hk6.heap HY5.out (by omega))
  have hgrl := block_lt HM6.out.rd0.bk
  have z2 := HM6.out.rd.c2
  have z0 := HM6.out.rd.c0
  obtain ⟨⟨y0, y1, y2, y3, y4⟩, ⟨e0, e1, e2, e3, e4⟩, hylt⟩ := box_cell HY6.out
  have HM7 := Lib.hid (HM6.out.put HY6.out hgy0 ((Keeps.refl (fun j => j = gy) w6).setCell (p := ⟨gy, 2, none⟩) (.inr rfl) (.int .i64 n)))
  have HY7 := Lib.hid (show (w6.setCell ⟨gy, 2, none⟩ (.int .i64 n)).heap[gy]? = some (.cells (box5 1 0 n 0 0) 42 (0, 0)) from block_set HY6.out 2 _)
  have HX7 := Lib.hid ((heap_setCell_other w6 ⟨gy, 2, none⟩ gx (.int .i64 n) hxy).trans HX6.out)
  have hgry : ¬ gr = gy := by omega
  clear hr6 hk6 hF6 CL HM5 HX5 HY5
  rw [← HDV.out] at z2
  have HKE := Lib.hid HM7.out.kp
  clear HDV HM7 HM6 HX6 HX7 HY6 HY7
  go_wp2_with fail
  refine (CM4.out _).mono ?_; rintro e w7 ⟨rfl, h7⟩; rw [h7]; clear h7 w7
  go_wp2_with fail
  exact ⟨rfl, rfl, HKE.out⟩
set_option maxHeartbeats 3200000 in
theorem tok27FarNo (w0 : World) (gr g gm gd : Nat) (M d : List Int) (s : List UInt8) (t : Nat) (h : Rd27 w0 gr g gm (.pointer (some ⟨gd, 0, none⟩)) M (some d)) (hr : IsReader w0 g s t) (X Y : Int) (hX : nextL M 15 ((spread s).drop t) = (X, Y, 0)) (t2 : Nat) (ht2 : t + Y.toNat = t2) (k : Nat) (hk : k ≤ 28) (CO : Hid (∀ W, Calls Tryz.prog 75 #[.int .i64 X] W fun e w' => e = .returned (.tuple #[.int .i64 1, .int .i64 0, .int .i64 0, .int .i64 k, .int .i64 0]) ∧ W = w')) (n p : Nat) (hN : numL (spread s) t2 k = .good n p) (X2 Y2 E : Int) (hX2 : nextL d 15 ((spread s).drop p) = (X2, Y2, E)) (hE : E ≠ 0) :
    Calls Tryz.prog 53 #[.pointer (some ⟨gr, 0, none⟩)] w0 (EndT (.bad (musE E)) w0 g s) := by
  obtain ⟨dv, hdv⟩ : ∃ dv, Value.pointer (some ⟨gd, 0, none⟩) = dv := ⟨_, rfl⟩
  obtain ⟨D, hD⟩ : ∃ D, some d = D := ⟨_, rfl⟩
  rw [hdv, hD] at h
  have CL := Lib.hid (fun W (h : Mid w0 W gr g gm dv M D s t2) => num27L W gr g t2 k s h.rd.c0 h.rd.ne h.at' hk)
  rw [hN] at CL
  have CN2 := Lib.hid (fun W (h : Mid w0 W gr g gm dv M D s p) => nx27No W (feet27 g gr) gr gd g d s p h.rd.c0 (by
    have h2 := h.rd.td
    rw [← hdv, ← hD] at h2
    obtain ⟨gd', e, h3, -⟩ := h2
    obtain rfl : gd = gd' := by simpa using e
    exact h3) h.at' X2 Y2 E hX2 hE)
  have HGL := Lib.hid hr.lt
  have HDV := Lib.hid hdv.symm
  clear hN hdv hD hX2
  have c1 := h.c1
  have hgrl := block_lt h.bk
  have HM := Lib.hid (show Mid w0 w0 gr g gm dv M D s t from ⟨h, hr, Keeps.refl _ _, fun _ h => h⟩)
  have CN := Lib.hid (fun W (h : Mid w0 W gr g gm dv M D s t) => nx27Ok W (feet27 g gr) gr gm g M s t h.rd.c0 h.rd.tm h.at' X Y hX)
  have CM := Lib.hid m27Ok
  rw [ht2] at CN
  clear ht2 hX h hr
  go_enter Tryz.func53, Tryz.ntmps53
  go_wp2_with fail
  have HX1 := Lib.hid (box_new w0 0 0 0 0 0)
  have HM1 := Lib.hid (HM.out.low ((Below.refl _ w0).alloc (Nat.le_refl _) (.cells #[.int .i64 0, .int .i64 0, .int .i64 0, .int .i64 0, .int .i64 0] 42)))
  have hgg : g < w0.heap.size := HM.out.at'.lt
  obtain ⟨w1, hw1⟩ : ∃ w1, w0.alloc (.cells #[.int .i64 0, .int .i64 0, .int .i64 0, .int .i64 0, .int .i64 0] 42) = w1 := ⟨_, rfl⟩
  obtain ⟨gx, hgx⟩ : ∃ gx, w0.heap.size = gx := ⟨_, rfl⟩
  have hgx0 : w0.heap.size ≤ gx := by omega
  rw [hw1] at HM1 HX1 ⊢
  rw [hgx] at hgg HX1 ⊢
  clear hw1 hgx c1 hgrl HM
  refine (CN.out w1 HM1.out).mono ?_; rintro e w2 ⟨rfl, hr2, hk2, hF2⟩
  have HM2 := Lib.hid (HM1.out.go hr2 hk2 hF2)
  have HX2 := Lib.hid (hk2.heap HX1.out (by omega))
  clear hr2 hk2 hF2 HM1 HX1 CN
  go_wp2_with fail
  refine (CO.out _).mono ?_; rintro e w3 ⟨rfl, rfl⟩
  go_wp2_with fail
  refine (CM.out _).mono ?_; rintro e w4 ⟨rfl, h4⟩; rw [h4]; clear h4 w4 CO
  obtain ⟨gy, hgy⟩ : ∃ gy, w2.heap.size = gy := ⟨_, rfl⟩
  go_wp2_with fail
  have HY5 := Lib.hid (box_new w2 1 0 0 0 0)
  have HB5 := (Below.refl w2.heap.size w2).alloc (Nat.le_refl _) (.cells #[.int .i64 1, .int .i64 0, .int .i64 0, .int .i64 0, .int .i64 0] 42)
  have HM5 := Lib.hid (HM2.out.low HB5)
  have HX5 := Lib.hid ((HB5.block gx (block_lt HX2.out)).trans HX2.out)
  have hgy0 : w0.heap.size ≤ gy := by rw [← hgy]; exact HM2.out.kp.size
  obtain ⟨w5, hw5⟩ : ∃ w5, w2.alloc (.cells #[.int .i64 1, .int .i64 0, .int .i64 0, .int .i64 0, .int .i64 0] 42) = w5 := ⟨_, rfl⟩
  rw [hw5] at HM5 HX5 HY5 ⊢
  try rw [hgy]
  rw [hgy] at HY5
  have hxy : gx ≠ gy := by have := block_lt HX2.out; omega
  have hgg0 : g < w0.heap.size := HM2.out.rd0.c0 |> fun _ => HGL.out
  clear HB5 hw5 hgy HM2 HX2
  refine (CL.out w5 HM5.out).mono ?_; rintro e w6 ⟨rfl, hr6, hk6, hF6⟩
  have HM6 := Lib.hid (HM5.out.go hr6 hk6 hF6)
  have HX6 := Lib.hid (hk6.heap HX5.out (by omega))
  have HY6 := Lib.hid (hk6.heap HY5.out (by omega))
  have hgrl := block_lt HM6.out.rd0.bk
  have z2 := HM6.out.rd.c2
  have z0 := HM6.out.rd.c0
  obtain ⟨⟨y0, y1, y2, y3, y4⟩, ⟨e0, e1, e2, e3, e4⟩, hylt⟩ := box_cell HY6.out
  have HM7 := Lib.hid (HM6.out.put HY6.out hgy0 ((Keeps.refl (fun j => j = gy) w6).setCell (p := ⟨gy, 2, none⟩) (.inr rfl) (.int .i64 n)))
  have HY7 := Lib.hid (show (w6.setCell ⟨gy, 2, none⟩ (.int .i64 n)).heap[gy]? = some (.cells (box5 1 0 n 0 0) 42 (0, 0)) from block_set HY6.out 2 _)
  have HX7 := Lib.hid ((heap_setCell_other w6 ⟨gy, 2, none⟩ gx (.int .i64 n) hxy).trans HX6.out)
  have hgry : ¬ gr = gy := by omega
  clear hr6 hk6 hF6 CL HM5 HX5 HY5
  rw [HDV.out] at z2
  have hp7 : (w6.setCell ⟨gy, 2, none⟩ (.int .i64 n)).cell? ⟨gr, 0, none⟩ = some (.pointer (some ⟨g, 0, none⟩)) := HM7.out.rd.c0
  have hp72 : (w6.setCell ⟨gy, 2, none⟩ (.int .i64 n)).cell? ⟨gr, 2, none⟩ = some dv := HM7.out.rd.c2
  rw [HDV.out] at hp72
  clear z2 z0
  have hgy7 : w6.heap.size = (w6.setCell ⟨gy, 2, none⟩ (.int .i64 n)).heap.size := by simp
  go_wp2_with fail
  obtain ⟨w7, hw7⟩ : ∃ w7, w6.setCell ⟨gy, 2, none⟩ (.int .i64 n) = w7 := ⟨_, rfl⟩
  rw [hw7] at HM7 HX7 HY7 ⊢
  clear hw7 hp7 hp72 hgy7 HM6 HX6 HY6 y0 y1 y2 y3 y4 e0 e1 e2 e3 e4 hylt
  refine (CN2.out w7 HM7.out).mono ?_; rintro e w8 ⟨rfl, hk8⟩
  have HKE := Lib.hid (HM7.out.kp.trans hk8)
  clear hk8 CN2 HM7 HX7 HY7
  go_wp2_with fail
  exact ⟨rfl, rfl, HKE.out⟩
end Go.Proofs.YtipcdkemokkdfaaGreat

/- Layer 27: reading: a token that copies. -/
namespace Go.Proofs.YtipcdkemokkdfaaGreat
open Go.ChangeShapes Go.WideShapes Go.ChangeAt Go.RowKit
set_option linter.unusedVariables false
set_option linter.unusedSimpArgs false
set_option maxRecDepth 100000
open Bits hiding packF pack_length
open RunsMath KraftMath CanonMath TurnMath Pm Two
set_option maxHeartbeats 3200000 in
theorem tok27FarBad (w0 : World) (gr g gm gd : Nat) (M d : List Int) (s : List UInt8) (t : Nat) (h : Rd27 w0 gr g gm (.pointer (some ⟨gd, 0, none⟩)) M (some d)) (hr : IsReader w0 g s t) (X Y : Int) (hX : nextL M 15 ((spread s).drop t) = (X, Y, 0)) (t2 : Nat) (ht2 : t + Y.toNat = t2) (k : Nat) (hk : k ≤ 28) (CO : Hid (∀ W, Calls Tryz.prog 75 #[.int .i64 X] W fun e w' => e = .returned (.tuple #[.int .i64 1, .int .i64 0, .int .i64 0, .int .i64 k, .int .i64 0]) ∧ W = w')) (n p : Nat) (hN : numL (spread s) t2 k = .good n p) (k2 : Nat) (Y2 : Int) (hX2 : nextL d 15 ((spread s).drop p) = ((k2 : Int), Y2, 0)) (hk2 : k2 ≤ 51) (p2 : Nat) (hp2 : p + Y2.toNat = p2) (E : Int) (hM : numD (spread s) p2 k2 = .bad E) :
    Calls Tryz.prog 53 #[.pointer (some ⟨gr, 0, none⟩)] w0 (EndT (.bad E) w0 g s) := by
  obtain ⟨dv, hdv⟩ : ∃ dv, Value.pointer (some ⟨gd, 0, none⟩) = dv := ⟨_, rfl⟩
  obtain ⟨D, hD⟩ : ∃ D, some d = D := ⟨_, rfl⟩
  rw [hdv, hD] at h
  have CL := Lib.hid (fun W (h : Mid w0 W gr g gm dv M D s t2) => num27L W gr g t2 k s h.rd.c0 h.rd.ne h.at' hk)
  rw [hN] at CL
  have CN2 := Lib.hid (fun W (h : Mid w0 W gr g gm dv M D s p) => nx27Ok W (feet27 g gr) gr gd g d s p h.rd.c0 (by
    have h2 := h.rd.td
    rw [← hdv, ← hD] at h2
    obtain ⟨gd', e, h3, -⟩ := h2
    obtain rfl : gd = gd' := by simpa using e
    exact h3) h.at' (k2 : Int) Y2 hX2)
  rw [hp2] at CN2
  have CD := Lib.hid (fun W (h : Mid w0 W gr g gm dv M D s p2) => num27D W gr g p2 k2 s h.rd.c0 h.rd.ne h.at' hk2)
  rw [hM] at CD
  have HGL := Lib.hid hr.lt
  have HDV := Lib.hid hdv.symm
  clear hN hdv hD hX2 hM hp2
  have c1 := h.c1
  have hgrl := block_lt h.bk
  have HM := Lib.hid (show Mid w0 w0 gr g gm dv M D s t from ⟨h, hr, Keeps.refl _ _, fun _ h => h⟩)
  have CN := Lib.hid (fun W (h : Mid w0 W gr g gm dv M D s t) => nx27Ok W (feet27 g gr) gr gm g M s t h.rd.c0 h.rd.tm h.at' X Y hX)
  have CM := Lib.hid m27Ok
  rw [ht2] at CN
  clear ht2 hX h hr
  go_enter Tryz.func53, Tryz.ntmps53
  go_wp2_with fail
  have HX1 := Lib.hid (box_new w0 0 0 0 0 0)
  have HM1 := Lib.hid (HM.out.low ((Below.refl _ w0).alloc (Nat.le_refl _) (.cells #[.int .i64 0, .int .i64 0, .int .i64 0, .int .i64 0, .int .i64 0] 42)))
  have hgg : g < w0.heap.size := HM.out.at'.lt
  obtain ⟨w1, hw1⟩ : ∃ w1, w0.alloc (.cells #[.int .i64 0, .int .i64 0, .int .i64 0, .int .i64 0, .int .i64 0] 42) = w1 := ⟨_, rfl⟩
  obtain ⟨gx, hgx⟩ : ∃ gx, w0.heap.size = gx := ⟨_, rfl⟩
  have hgx0 : w0.heap.size ≤ gx := by omega
  rw [hw1] at HM1 HX1 ⊢
  rw [hgx] at hgg HX1 ⊢
  clear hw1 hgx c1 hgrl HM
  refine (CN.out w1 HM1.out).mono ?_; rintro e w2 ⟨rfl, hr2, hk2, hF2⟩
  have HM2 := Lib.hid (HM1.out.go hr2 hk2 hF2)
  have HX2 := Lib.hid (hk2.heap HX1.out (by omega))
  clear hr2 hk2 hF2 HM1 HX1 CN
  go_wp2_with fail
  refine (CO.out _).mono ?_; rintro e w3 ⟨rfl, rfl⟩
  go_wp2_with fail
  refine (CM.out _).mono ?_; rintro e w4 ⟨rfl, h4⟩; rw [h4]; clear h4 w4 CO
  obtain ⟨gy, hgy⟩ : ∃ gy, w2.heap.size = gy := ⟨_, rfl⟩
  go_wp2_with fail
  have HY5 := Lib.hid (box_new w2 1 0 0 0 0)
  have HB5 := (Below.refl w2.heap.size w2).alloc (Nat.le_refl _) (.cells #[.int .i64 1, .int .i64 0, .int .i64 0, .int .i64 0, .int .i64 0] 42)
  have HM5 := Lib.hid (HM2.out.low HB5)
  have HX5 := Lib.hid ((HB5.block gx (block_lt HX2.out)).trans HX2.out)
  have hgy0 : w0.heap.size ≤ gy := by rw [← hgy]; exact HM2.out.kp.size
  obtain ⟨w5, hw5⟩ : ∃ w5, w2.alloc (.cells #[.int .i64 1, .int .i64 0, .int .i64 0, .int .i64 0, .int .i64 0] 42) = w5 := ⟨_, rfl⟩
  rw [hw5] at HM5 HX5 HY5 ⊢
  try rw [hgy]
  rw [hgy] at HY5
  have hxy : gx ≠ gy := by have := block_lt HX2.out; omega
  have hgg0 : g < w0.heap.size := HM2.out.rd0.c0 |> fun _ => HGL.out
  clear HB5 hw5 hgy HM2 HX2
  refine (CL.out w5 HM5.out).mono ?_; rintro e w6 ⟨rfl, hr6, hk6, hF6⟩
  have HM6 := Lib.hid (HM5.out.go hr6 hk6 hF6)
  have HX6 := Lib.hid (hk6.heap HX5.out (by omega))
  have HY6 := Lib.hid (hk6.heap HY5.out (by omega))
  have hgrl := block_lt HM6.out.rd0.bk
  have z2 := HM6.out.rd.c2
  have z0 := HM6.out.rd.c0
  obtain ⟨⟨y0, y1, y2, y3, y4⟩, ⟨e0, e1, e2, e3, e4⟩, hylt⟩ := box_cell HY6.out
  have HM7 := Lib.hid (HM6.out.put HY6.out hgy0 ((Keeps.refl (fun j => j = gy) w6).setCell (p := ⟨gy, 2, none⟩) (.inr rfl) (.int .i64 n)))
  have HY7 := Lib.hid (show (w6.setCell ⟨gy, 2, none⟩ (.int .i64 n)).heap[gy]? = some (.cells (box5 1 0 n 0 0) 42 (0, 0)) from block_set HY6.out 2 _)
  have HX7 := Lib.hid ((heap_setCell_other w6 ⟨gy, 2, none⟩ gx (.int .i64 n) hxy).trans HX6.out)
  have hgry : ¬ gr = gy := by omega
  clear hr6 hk6 hF6 CL HM5 HX5 HY5
  rw [HDV.out] at z2
  have hp7 : (w6.setCell ⟨gy, 2, none⟩ (.int .i64 n)).cell? ⟨gr, 0, none⟩ = some (.pointer (some ⟨g, 0, none⟩)) := HM7.out.rd.c0
  have hp72 : (w6.setCell ⟨gy, 2, none⟩ (.int .i64 n)).cell? ⟨gr, 2, none⟩ = some dv := HM7.out.rd.c2
  rw [HDV.out] at hp72
  clear z2 z0
  have hgy7 : w6.heap.size = (w6.setCell ⟨gy, 2, none⟩ (.int .i64 n)).heap.size := by simp
  go_wp2_with fail
  obtain ⟨w7, hw7⟩ : ∃ w7, w6.setCell ⟨gy, 2, none⟩ (.int .i64 n) = w7 := ⟨_, rfl⟩
  rw [hw7] at HM7 HX7 HY7 ⊢
  clear hw7 hp7 hp72 hgy7 HM6 HX6 HY6 y0 y1 y2 y3 y4 e0 e1 e2 e3 e4 hylt
  refine (CN2.out w7 HM7.out).mono ?_; rintro e w8 ⟨rfl, hr8, hk8, hF8⟩
  have HM8 := Lib.hid (HM7.out.go hr8 hk8 hF8)
  have HX8 := Lib.hid (hk8.heap HX7.out (by omega))
  have HY8 := Lib.hid (hk8.heap HY7.out (by omega))
  clear hr8 hk8 hF8 CN2 HM7 HX7 HY7
  go_wp2_with fail
  refine (CD.out w8 HM8.out).mono ?_; rintro e w9 ⟨rfl, hk9⟩
  have HKE := Lib.hid (HM8.out.kp.trans hk9)
  clear hk9 CD HM8 HX8 HY8
  go_wp2_with fail
  exact ⟨rfl, rfl, HKE.out⟩
set_option maxHeartbeats 3200000 in
theorem tok27Copy (w0 : World) (gr g gm gd : Nat) (M d : List Int) (s : List UInt8) (t : Nat) (h : Rd27 w0 gr g gm (.pointer (some ⟨gd, 0, none⟩)) M (some d)) (hr : IsReader w0 g s t) (X Y : Int) (hX : nextL M 15 ((spread s).drop t) = (X, Y, 0)) (t2 : Nat) (ht2 : t + Y.toNat = t2) (k : Nat) (hk : k ≤ 28) (CO : Hid (∀ W, Calls Tryz.prog 75 #[.int .i64 X] W fun e w' => e = .returned (.tuple #[.int .i64 1, .int .i64 0, .int .i64 0, .int .i64 k, .int .i64 0]) ∧ W = w')) (n p : Nat) (hN : numL (spread s) t2 k = .good n p) (k2 : Nat) (Y2 : Int) (hX2 : nextL d 15 ((spread s).drop p) = ((k2 : Int), Y2, 0)) (hk2 : k2 ≤ 51) (p2 : Nat) (hp2 : p + Y2.toNat = p2) (m p3 : Nat) (hM : numD (spread s) p2 k2 = .good m p3) :
    Calls Tryz.prog 53 #[.pointer (some ⟨gr, 0, none⟩)] w0 (EndT (.good ⟨1, 0, n, m, 0⟩ p3) w0 g s) := by
  obtain ⟨dv, hdv⟩ : ∃ dv, Value.pointer (some ⟨gd, 0, none⟩) = dv := ⟨_, rfl⟩
  obtain ⟨D, hD⟩ : ∃ D, some d = D := ⟨_, rfl⟩
  rw [hdv, hD] at h
  have CL := Lib.hid (fun W (h : Mid w0 W gr g gm dv M D s t2) => num27L W gr g t2 k s h.rd.c0 h.rd.ne h.at' hk)
  rw [hN] at CL
  have CN2 := Lib.hid (fun W (h : Mid w0 W gr g gm dv M D s p) => nx27Ok W (feet27 g gr) gr gd g d s p h.rd.c0 (by
    have h2 := h.rd.td
    rw [← hdv, ← hD] at h2
    obtain ⟨gd', e, h3, -⟩ := h2
    obtain rfl : gd = gd' := by simpa using e
    exact h3) h.at' (k2 : Int) Y2 hX2)
  rw [hp2] at CN2
  have CD := Lib.hid (fun W (h : Mid w0 W gr g gm dv M D s p2) => num27D W gr g p2 k2 s h.rd.c0 h.rd.ne h.at' hk2)
  rw [hM] at CD
  have HGL := Lib.hid hr.lt
  have HDV := Lib.hid hdv.symm
  clear hN hdv hD hX2 hM hp2
  have c1 := h.c1
  have hgrl := block_lt h.bk
  have HM := Lib.hid (show Mid w0 w0 gr g gm dv M D s t from ⟨h, hr, Keeps.refl _ _, fun _ h => h⟩)
  have CN := Lib.hid (fun W (h : Mid w0 W gr g gm dv M D s t) => nx27Ok W (feet27 g gr) gr gm g M s t h.rd.c0 h.rd.tm h.at' X Y hX)
  have CM := Lib.hid m27Ok
  rw [ht2] at CN
  clear ht2 hX h hr
  go_enter Tryz.func53, Tryz.ntmps53
  go_wp2_with fail
  have HX1 := Lib.hid (box_new w0 0 0 0 0 0)
  have HM1 := Lib.hid (HM.out.low ((Below.refl _ w0).alloc (Nat.le_refl _) (.cells #[.int .i64 0, .int .i64 0, .int .i64 0, .int .i64 0, .int .i64 0] 42)))
  have hgg : g < w0.heap.size := HM.out.at'.lt
  obtain ⟨w1, hw1⟩ : ∃ w1, w0.alloc (.cells #[.int .i64 0, .int .i64 0, .int .i64 0, .int .i64 0, .int .i64 0] 42) = w1 := ⟨_, rfl⟩
  obtain ⟨gx, hgx⟩ : ∃ gx, w0.heap.size = gx := ⟨_, rfl⟩
  have hgx0 : w0.heap.size ≤ gx := by omega
  rw [hw1] at HM1 HX1 ⊢
  rw [hgx] at hgg HX1 ⊢
  clear hw1 hgx c1 hgrl HM
  refine (CN.out w1 HM1.out).mono ?_; rintro e w2 ⟨rfl, hr2, hk2, hF2⟩
  have HM2 := Lib.hid (HM1.out.go hr2 hk2 hF2)
  have HX2 := Lib.hid (hk2.heap HX1.out (by omega))
  clear hr2 hk2 hF2 HM1 HX1 CN
  go_wp2_with fail
  refine (CO.out _).mono ?_; rintro e w3 ⟨rfl, rfl⟩
  go_wp2_with fail
  refine (CM.out _).mono ?_; rintro e w4 ⟨rfl, h4⟩; rw [h4]; clear h4 w4 CO
  obtain ⟨gy, hgy⟩ : ∃ gy, w2.heap.size = gy := ⟨_, rfl⟩
  go_wp2_with fail
  have HY5 := Lib.hid (box_new w2 1 0 0 0 0)
  have HB5 := (Below.refl w2.heap.size w2).alloc (Nat.le_refl _) (.cells #[.int .i64 1, .int .i64 0, .int .i64 0, .int .i64 0, .int .i64 0] 42)
  have HM5 := Lib.hid (HM2.out.low HB5)
  have HX5 := Lib.hid ((HB5.block gx (block_lt HX2.out)).trans HX2.out)
  have hgy0 : w0.heap.size ≤ gy := by rw [← hgy]; exact HM2.out.kp.size
  obtain ⟨w5, hw5⟩ : ∃ w5, w2.alloc (.cells #[.int .i64 1, .int .i64 0, .int .i64 0, .int .i64 0, .int .i64 0] 42) = w5 := ⟨_, rfl⟩
  rw [hw5] at HM5 HX5 HY5 ⊢
  try rw [hgy]
  rw [hgy] at HY5
  have hxy : gx ≠ gy := by have := block_lt HX2.out; omega
  have hgg0 : g < w0.heap.size := HM2.out.rd0.c0 |> fun _ => HGL.out
  clear HB5 hw5 hgy HM2 HX2
  refine (CL.out w5 HM5.out).mono ?_; rintro e w6 ⟨rfl, hr6, hk6, hF6⟩
  have HM6 := Lib.hid (HM5.out.go hr6 hk6 hF6)
  have HX6 := Lib.hid (hk6.heap HX5.out (by omega))
  have HY6 := Lib.hid (hk6.heap HY5.out (by omega))
  have hgrl := block_lt HM6.out.rd0.bk
  have z2 := HM6.out.rd.c2
  have z0 := HM6.out.rd.c0
  obtain ⟨⟨y0, y1, y2, y3, y4⟩, ⟨e0, e1, e2, e3, e4⟩, hylt⟩ := box_cell HY6.out
  have HM7 := Lib.hid (HM6.out.put HY6.out hgy0 ((Keeps.refl (fun j => j = gy) w6).setCell (p := ⟨gy, 2, none⟩) (.inr rfl) (.int .i64 n)))
  have HY7 := Lib.hid (show (w6.setCell ⟨gy, 2, none⟩ (.int .i64 n)).heap[gy]? = some (.cells (box5 1 0 n 0 0) 42 (0, 0)) from block_set HY6.out 2 _)
  have HX7 := Lib.hid ((heap_setCell_other w6 ⟨gy, 2, none⟩ gx (.int .i64 n) hxy).trans HX6.out)
  have hgry : ¬ gr = gy := by omega
  clear hr6 hk6 hF6 CL HM5 HX5 HY5
  rw [HDV.out] at z2
  have hp7 : (w6.setCell ⟨gy, 2, none⟩ (.int .i64 n)).cell? ⟨gr, 0, none⟩ = some (.pointer (some ⟨g, 0, none⟩)) := HM7.out.rd.c0
  have hp72 : (w6.setCell ⟨gy, 2, none⟩ (.int .i64 n)).cell? ⟨gr, 2, none⟩ = some dv := HM7.out.rd.c2
  rw [HDV.out] at hp72
  clear z2 z0
  have hgy7 : w6.heap.size = (w6.setCell ⟨gy, 2, none⟩ (.int .i64 n)).heap.size := by simp
  go_wp2_with fail
  obtain ⟨w7, hw7⟩ : ∃ w7, w6.setCell ⟨gy, 2, none⟩ (.int .i64 n) = w7 := ⟨_, rfl⟩
  rw [hw7] at HM7 HX7 HY7 ⊢
  clear hw7 hp7 hp72 hgy7 HM6 HX6 HY6 y0 y1 y2 y3 y4 e0 e1 e2 e3 e4 hylt
  refine (CN2.out w7 HM7.out).mono ?_; rintro e w8 ⟨rfl, hr8, hk8, hF8⟩
  have HM8 := Lib.hid (HM7.out.go hr8 hk8 hF8)
  have HX8 := Lib.hid (hk8.heap HX7.out (by omega))
  have HY8 := Lib.hid (hk8.heap HY7.out (by omega))
  clear hr8 hk8 hF8 CN2 HM7 HX7 HY7
  go_wp2_with fail
  refine (CD.out w8 HM8.out).mono ?_; rintro e w9 ⟨rfl, hr9, hk9, hF9⟩
  have HM9 := Lib.hid (HM8.out.go hr9 hk9 hF9)
  have HX9 := Lib.hid (hk9.heap HX8.out (by omega))
  have HY9 := Lib.hid (hk9.heap HY8.out (by omega))
  obtain ⟨⟨y0, y1, y2, y3, y4⟩, ⟨e0, e1, e2, e3, e4⟩, hylt⟩ := box_cell HY9.out
  have HM10 := Lib.hid (HM9.out.put HY9.out hgy0 ((Keeps.refl (fun j => j = gy) w9).setCell (p := ⟨gy, 3, none⟩) (.inr rfl) (.int .i64 m)))
  have HX10 := Lib.hid ((heap_setCell_other w9 ⟨gy, 3, none⟩ gx (.int .i64 m) hxy).trans HX9.out)
  clear hr9 hk9 hF9 CD HM8 HX8 HY8 HM9 HY9
  obtain ⟨⟨x0, x1, x2, x3, x4⟩, ⟨f0, f1, f2, f3, f4⟩, hxlt⟩ := box_cell HX9.out
  have hyx : ¬ gy = gx := fun e => hxy e.symm
  clear HX9
  go_wp2_with fail
  refine res27 rfl rfl (gx := gx) (k := 1) (b := 0) (l := n) (d := m) (r := 0) (t := 42) (putBox_at HX10.out) ?_
  exact (HM10.out.put HX10.out hgx0 (putBox_keeps _ gx 1 0 n m 0)).done _
set_option maxHeartbeats 3200000 in
theorem tok27Next (w0 : World) (gr g gm : Nat) (dv : Value) (M : List Int) (D : Option (List Int)) (s : List UInt8) (t : Nat) (h : Rd27 w0 gr g gm dv M D) (hr : IsReader w0 g s t) (X Y E : Int) (hX : nextL M 15 ((spread s).drop t) = (X, Y, E)) (hE : E ≠ 0) :
    Calls Tryz.prog 53 #[.pointer (some ⟨gr, 0, none⟩)] w0 (EndT (.bad (musE E)) w0 g s) := by
  have c1 := h.c1
  have hgrl := block_lt h.bk
  have HM := Lib.hid (show Mid w0 w0 gr g gm dv M D s t from ⟨h, hr, Keeps.refl _ _, fun _ h => h⟩)
  have CN := Lib.hid (fun W (h : Mid w0 W gr g gm dv M D s t) => nx27No W (feet27 g gr) gr gm g M s t h.rd.c0 h.rd.tm h.at' X Y E hX hE)
  clear hX h hr
  go_enter Tryz.func53, Tryz.ntmps53
  go_wp2_with fail
  have HM1 := Lib.hid (HM.out.low ((Below.refl _ w0).alloc (Nat.le_refl _) (.cells #[.int .i64 0, .int .i64 0, .int .i64 0, .int .i64 0, .int .i64 0] 42)))
  obtain ⟨w1, hw1⟩ : ∃ w1, w0.alloc (.cells #[.int .i64 0, .int .i64 0, .int .i64 0, .int .i64 0, .int .i64 0] 42) = w1 := ⟨_, rfl⟩
  rw [hw1] at HM1 ⊢
  clear hw1 c1 hgrl HM
  refine (CN.out w1 HM1.out).mono ?_; rintro e w2 ⟨rfl, hk2⟩
  have HKE := Lib.hid (HM1.out.kp.trans hk2)
  clear hk2 HM1 CN
  go_wp2_with fail
  exact ⟨rfl, rfl, HKE.out⟩
/-- A token is read. -/
theorem tok27 (w0 : World) (gr g gm : Nat) (dv : Value) (M : List Int) (D : Option (List Int)) (s : List UInt8) (t : Nat) (h : Rd27 w0 gr g gm dv M D) (hr : IsReader w0 g s t) :
    Calls Tryz.prog 53 #[.pointer (some ⟨gr, 0, none⟩)] w0 (EndT (tokR M D (spread s) t) w0 g s) := by
  unfold tokR
  obtain ⟨⟨X, Y, E⟩, hX⟩ : ∃ q, nextL M 15 ((spread s).drop t) = q := ⟨_, rfl⟩
  rw [hX]
  simp only
  by_cases hE : E = 0
  · subst hE
    rw [if_neg (by simp)]
    obtain ⟨hx0, hx1, -⟩ := next_lt hX
    rw [h.lm] at hx1
    by_cases h256 : X < 256
    · rw [if_pos h256]
      exact tok27Lit w0 gr g gm dv M D s t h hr X Y hX h256 _ rfl
    · rw [if_neg h256]
      obtain ⟨t2, ht2⟩ : ∃ t2, t + Y.toNat = t2 := ⟨_, rfl⟩
      rw [ht2]
      by_cases h285 : X < 285
      · obtain ⟨k1, k2, k3, ⟨k, k4, hk⟩, k5⟩ := of_copy (by omega) h285
        have CO := Lib.hid (fun W => Tok.Of_any X W)
        rw [k1, k2, k3, k4, k5] at CO
        rw [k4, Int.toNat_natCast]
        cases hN : numL (spread s) t2 k with
        | bad E => exact tok27NumNo w0 gr g gm dv M D s t h hr X Y hX t2 ht2 1 0 k hk rfl CO E hN
        | good n p =>
          simp only [if_pos h285]
          cases hD : D with
          | none =>
            subst hD
            have hdv : dv = .pointer none := h.td
            subst hdv
            exact tok27None w0 gr g gm M s t h hr X Y hX t2 ht2 k hk CO n p hN
          | some d =>
            subst hD
            obtain ⟨gd, hdv, -, hdl⟩ := h.td
            subst hdv
            simp only
            unfold farR
            obtain ⟨⟨X2, Y2, E2⟩, hX2⟩ : ∃ q, nextL d 15 ((spread s).drop p) = q := ⟨_, rfl⟩
            rw [hX2]
            simp only
            by_cases hE2 : E2 = 0
            · subst hE2
              rw [if_neg (by simp)]
              obtain ⟨hy0, hy1, -⟩ := next_lt hX2
              rw [hdl] at hy1
              obtain ⟨k2, rfl⟩ : ∃ k2 : Nat, X2 = k2 := ⟨X2.toNat, by omega⟩
              rw [Int.toNat_natCast]
              obtain ⟨p2, hp2⟩ : ∃ p2, p + Y2.toNat = p2 := ⟨_, rfl⟩
              rw [hp2]
              cases hM : numD (spread s) p2 k2 with
              | bad E => exact tok27FarBad w0 gr g gm gd M d s t h hr X Y hX t2 ht2 k hk CO n p hN k2 Y2 hX2 (by omega) p2 hp2 E hM
              | good m p3 => exact tok27Copy w0 gr g gm gd M d s t h hr X Y hX t2 ht2 k hk CO n p hN k2 Y2 hX2 (by omega) p2 hp2 m p3 hM
            · rw [if_pos hE2]
              exact tok27FarNo w0 gr g gm gd M d s t h hr X Y hX t2 ht2 k hk CO n p hN X2 Y2 E2 hX2 hE2
      · obtain ⟨k1, k2, k3, ⟨k, k4, hk⟩, k5⟩ := of_rep (show 285 ≤ X by omega) (by omega)
        have CO := Lib.hid (fun W => Tok.Of_any X W)
        rw [k1, k2, k4, k5] at CO
        have CO' := Lib.hid CO.out
        rw [k3] at CO'
        rw [k4, Int.toNat_natCast]
        cases hN : numL (spread s) t2 k with
        | bad E => exact tok27NumNo w0 gr g gm dv M D s t h hr X Y hX t2 ht2 2 _ k hk rfl CO E hN
        | good n p =>
          simp only [if_neg h285]
          exact tok27Rep w0 gr g gm dv M D s t h hr X Y hX t2 ht2 _ k hk CO' n p hN
  · rw [if_pos hE]
    exact tok27Next w0 gr g gm dv M D s t h hr X Y E hX hE
end Go.Proofs.YtipcdkemokkdfaaGreat

/- Layer 27: reading: tables, rows of tokens. -/
namespace Go.Proofs.YtipcdkemokkdfaaGreat
open Go.ChangeShapes Go.WideShapes Go.ChangeAt Go.RowKit
set_option linter.unusedVariables false
set_option linter.unusedSimpArgs false
set_option maxRecDepth 100000
open Bits hiding packF pack_length
open RunsMath KraftMath CanonMath TurnMath Pm Two
def fK (t : Tk) : List Value := [.int .i64 t.k, .int .i64 t.b, .int .i64 t.l, .int .i64 t.d, .int .i64 t.r]
theorem flatK : Flat fK 5 := fun x => ⟨rfl, by intro u hu; simp [fK] at hu; rcases hu with rfl | rfl | rfl | rfl | rfl <;> rfl⟩
abbrev OwnK (B : Nat) (w : World) (v : Value) (l : List Tk) : Prop := OwnS fK 42 5 B w v l
theorem info_tk : (Tryz.prog.info? 42).map (fun i => (i.zero, i.size, i.bytes)) = some (some (.agg #[.int .i64 0, .int .i64 0, .int .i64 0, .int .i64 0, .int .i64 0]), 5, 40) := by kernel_rfl
theorem app_tk {X : World} {ops : Array Oper} {rest : List Oper} {o : Oper} {a : Act} {Q : Exit → Act → World → Prop} (hgd : o.guard = none) (s xo : Operand)
    (ho : o.op = .call { callee := .builtin .append, args := #[s, xo], argTypes := #[26, 26] })
    (B T : Nat) (v : Value) (l : List Tk) (k b n d r : Int) (hs : a.eval s = v) (hown : OwnK B X v l) (g c1 : Nat) (hg : X.heap.size = g) (hx : a.eval xo = .slice (some ⟨g, 0, none⟩) 1 c1) (hl : l.length ≤ 1099511627776) (hB : B ≤ X.heap.size)
    (h : ∀ v' w', OwnK B w' v' (l ++ [⟨k, b, n, d, r⟩]) → Below B X w' → X.grownBy w' v.ownBlock → wpList Tryz.prog ops Q rest (a.put o.dst v') w') : wpList Tryz.prog ops Q (o :: rest) a (X.alloc (.cells #[.int .i64 k, .int .i64 b, .int .i64 n, .int .i64 d, .int .i64 r] T)) :=
  app_one (f := fK) info_tk rfl (by decide) (by decide) Tryz.underlying26 flatK hgd s xo ho B T v l ⟨k, b, n, d, r⟩ hs hown g c1 hg hx hl hB h
theorem OwnS.isTk {B : Nat} {w : World} {v : Value} {l : List Tk} (h : OwnK B w v l) : ∃ a cap, v = .slice a l.length cap ∧ IsTk w a l := by
  by_cases h0 : 0 < l.length
  · obtain ⟨g, cap, rfl, -, -⟩ := h.form h0 (by decide)
    refine ⟨_, cap, rfl, .inr ⟨_, rfl, fun i t ht => ?_⟩⟩
    have e1 : (⟨g, 0, none⟩ : Addr).add (i * 5) = ⟨g, i * 5 + 0, none⟩ := by unfold Addr.add; split <;> simp_all
    have hc := fun j hj => h.cell flatK i j t ht hj
    have q0 := hc 0 (by decide); have q1 := hc 1 (by decide); have q2 := hc 2 (by decide); have q3 := hc 3 (by decide); have q4 := hc 4 (by decide)
    simp only [fK, List.getElem?_cons_zero, List.getElem?_cons_succ] at q0 q1 q2 q3 q4
    unfold tkAt
    rw [e1]
    exact ⟨q0, q1, q2, q3, q4⟩
  · obtain ⟨a, cap, rfl⟩ := h.slice
    exact ⟨a, cap, rfl, .inl (List.eq_nil_of_length_eq_zero (by omega))⟩
/-- What a token counts. -/
def szN (t : Tk) : Nat := if t.k = 0 then 1 else t.l.toNat
theorem sz_ok {t : Tk} (h : t.ok) : Tok.szTok t.k t.b t.l t.d t.r = (szN t : Int) ∧ 1 ≤ szN t ∧ szN t ≤ 258 := by
  unfold Tok.szTok szN
  unfold Tk.ok at h
  rw [if_pos h]
  unfold Tok.OkTok at h
  by_cases h0 : t.k = 0
  · rw [if_pos h0, if_pos h0]; omega
  · rw [if_neg h0, if_neg h0]; omega
theorem numL_ok : ∀ s : Fin 29, 2 ≤ Slo.tbL s.val ∧ Slo.tbL s.val + Slo.wideL s.val ≤ 259 := by decide +kernel
theorem numD_ok : ∀ s : Fin 52, 1 ≤ Slo.tbD s.val ∧ Slo.tbD s.val + Slo.wideD s.val ≤ 67108865 := by decide +kernel
theorem numR_in {ex tb wide : Nat → Nat} {L : List Bool} {t k n p : Nat} (h : numR ex tb wide L t k = .good n p) : tb k ≤ n ∧ n < tb k + wide k ∧ p = t + ex k ∧ p ≤ L.length ∧ n = tb k + peek (L.drop t) (ex k) ∧ peek (L.drop t) (ex k) < wide k := by
  unfold numR at h
  by_cases h1 : L.length < t + ex k
  · rw [if_pos h1] at h; exact NR.noConfusion h
  · rw [if_neg h1] at h
    by_cases h2 : peek (L.drop t) (ex k) < wide k
    · rw [if_pos h2] at h
      injection h with e1 e2
      omega
    · rw [if_neg h2] at h; exact NR.noConfusion h
theorem farR_ok {d : List Int} {L : List Bool} {n t p : Nat} {k : Tk} (hd : d.length = 52) (hn : 2 ≤ n ∧ n ≤ 258) (h : farR d L n t = .good k p) : k.ok ∧ p ≤ L.length := by
  unfold farR at h
  obtain ⟨⟨X, Y, E⟩, hX⟩ : ∃ q, nextL d 15 (L.drop t) = q := ⟨_, rfl⟩
  rw [hX] at h
  simp only at h
  by_cases hE : E = 0
  · subst hE
    rw [if_neg (by simp)] at h
    obtain ⟨h0, h1, -⟩ := next_lt hX
    cases hN : numD L (t + Y.toNat) X.toNat with
    | bad E => rw [hN] at h; exact TR.noConfusion h
    | good m q =>
      rw [hN] at h
      simp only at h
      injection h with e1 e2
      subst e1 e2
      obtain ⟨a1, a2, a3, a4, -⟩ := numR_in hN
      obtain ⟨b1, b2⟩ := numD_ok ⟨X.toNat, by omega⟩
      simp only at b1 b2
      refine ⟨?_, a4⟩
      exact .inr (.inl ⟨rfl, by show (2:Int) ≤ (n:Int); omega, by show (n:Int) ≤ 258; omega, by show (1:Int) ≤ (m:Int); omega, by show (m:Int) ≤ 67108864; omega, rfl, rfl⟩)
  · rw [if_pos hE] at h; exact TR.noConfusion h
theorem tokR_ok {M : List Int} {D : Option (List Int)} {L : List Bool} {t p : Nat} {k : Tk} (hM : M.length = 401) (hD : ∀ d, D = some d → d.length = 52) (htL : t ≤ L.length) (h : tokR M D L t = .good k p) : k.ok ∧ p ≤ L.length := by
  unfold tokR at h
  obtain ⟨⟨X, Y, E⟩, hX⟩ : ∃ q, nextL M 15 (L.drop t) = q := ⟨_, rfl⟩
  rw [hX] at h
  simp only at h
  by_cases hE : E = 0
  · subst hE
    rw [if_neg (by simp)] at h
    obtain ⟨h0, h1, y, hy, hy0, hyl⟩ := next_lt hX
    rw [List.length_drop] at hyl
    by_cases h2 : X < 256
    · rw [if_pos h2] at h
      injection h with e1 e2
      subst e1 e2
      refine ⟨?_, by omega⟩
      exact .inl ⟨rfl, h0, by show X ≤ 255; omega, rfl, rfl, rfl⟩
    · rw [if_neg h2] at h
      cases hN : numL L (t + Y.toNat) (Tok.ofS X).toNat with
      | bad E => rw [hN] at h; exact TR.noConfusion h
      | good n q =>
        rw [hN] at h
        simp only at h
        obtain ⟨a1, a2, a3, a4, -⟩ := numR_in hN
        have hk : (Tok.ofS X).toNat ≤ 28 := by
          by_cases h3 : X < 285
          · obtain ⟨-, -, -, ⟨k, e, hk⟩, -⟩ := of_copy (by omega) h3
            rw [e]; omega
          · obtain ⟨-, -, -, ⟨k, e, hk⟩, -⟩ := of_rep (show 285 ≤ X by omega) (by omega)
            rw [e]; omega
        obtain ⟨b1, b2⟩ := numL_ok ⟨(Tok.ofS X).toNat, by omega⟩
        simp only at b1 b2
        by_cases h3 : X < 285
        · rw [if_pos h3] at h
          cases D with
          | none => exact TR.noConfusion h
          | some d => exact farR_ok (hD d rfl) ⟨by omega, by omega⟩ h
        · rw [if_neg h3] at h
          injection h with e1 e2
          subst e1 e2
          refine ⟨?_, a4⟩
          exact .inr (.inr ⟨rfl, by show (2:Int) ≤ (n:Int); omega, by show (n:Int) ≤ 258; omega, by show (0:Int) ≤ (X - 285) / 29; omega, by show (X - 285) / 29 ≤ 3; omega, rfl, rfl⟩)
  · rw [if_pos hE] at h; exact TR.noConfusion h
inductive FR where
  | bad (E : Int)
  | good (l : List Tk)
/-- Behind the last token there are less than eight bits, all 0. -/
def endR (L : List Bool) (t : Nat) (a : List Tk) : FR := if 8 ≤ L.length - t ∨ peek (L.drop t) (L.length - t) ≠ 0 then .bad 4 else .good a
def loopR (M : List Int) (D : Option (List Int)) (L : List Bool) : Nat → Nat → Nat → List Tk → FR
  | 0, _, _, _ => .bad 0
  | f + 1, raw, t, a => if raw = 0 then endR L t a else match tokR M D L t with
    | .bad E => .bad E
    | .good k p => if raw < szN k then .bad 4 else loopR M D L f (raw - szN k) p (a ++ [k])
/-- The contract of a table's reading. -/
def Rdt (g t n : Nat) (s : List UInt8) (R : RdR) : Prop := ∀ W, IsReader W g s t → Calls Tryz.prog 72 #[.pointer (some ⟨g, 0, none⟩), .int .i64 n] W fun e w' => ∃ v E, e = .returned (.tuple #[v, .int .i64 E]) ∧ Keeps (fun k => k = g) W w' ∧ EndRd R W g s n v E w'
set_option maxHeartbeats 1600000 in
theorem tab27No (w : World) (gr g t n root : Nat) (s : List UInt8) (hp : w.cell? ⟨gr, 0, none⟩ = some (.pointer (some ⟨g, 0, none⟩))) (hr : IsReader w g s t) (E : Int) (hE : E ≠ 0) (C : Rdt g t n s (.bad E)) :
    Calls Tryz.prog 51 #[.pointer (some ⟨gr, 0, none⟩), .int .i64 n, .int .i64 root] w fun e w' => e = .panicked [flt27 (musE E)] ∧ Keeps (fun k => k = g) w w' := by
  have C1 := Lib.hid (C w hr)
  have CM := Lib.hid (fun W => m27No E hE W)
  clear C hr hE
  go_enter Tryz.func51, Tryz.ntmps51
  go_wp2_with fail
  refine C1.out.mono ?_; rintro e w1 ⟨v, E', rfl, hk, rfl, rfl⟩
  have HK := Lib.hid hk
  clear hk C1
  go_wp2_with fail
  refine (CM.out _).mono ?_; rintro e w2 ⟨rfl, h2⟩; rw [h2]; clear h2 w2
  go_wp2_with fail
  exact ⟨rfl, rfl, HK.out⟩
set_option maxHeartbeats 1600000 in
theorem tab27Ok (w : World) (gr g t n root : Nat) (s : List UInt8) (hp : w.cell? ⟨gr, 0, none⟩ = some (.pointer (some ⟨g, 0, none⟩))) (hr : IsReader w g s t) (r : List Run) (t' : Nat) (C : Rdt g t n s (.good r t')) (l : List Int) (hl : (unpack r n).2 = l) (hn : l.length = n) (h0 : l ≠ []) (hn2 : n ≤ 1000) (hr1 : 1 ≤ root) (hr15 : root ≤ 15) (hE : check l 15 = 0) :
    Calls Tryz.prog 51 #[.pointer (some ⟨gr, 0, none⟩), .int .i64 n, .int .i64 root] w fun e w' => ∃ gt, e = .returned (.pointer (some ⟨gt, 0, none⟩)) ∧ IsReader w' g s t' ∧ Keeps (fun k => k = g) w w' ∧ T27 w' (fun k => k < w.heap.size) gt l := by
  have C1 := Lib.hid (C w hr)
  have CM := Lib.hid m27Ok
  have CN := Lib.hid (fun W a c (h : IsInts W a l) => tNew a c l root 15 hr1 hr15 (by decide) hE W h)
  rw [hn] at CN
  obtain ⟨h16, hlen, -, -⟩ := check_16 hE
  have HLE := Lib.hid (show (∀ s, s < l.length → len l s ≤ 15) ∧ l.length ≤ 1024 from ⟨hlen, by omega⟩)
  have HR2 := Lib.hid (show 1 ≤ root ∧ root ≤ 15 ∧ 2 ^ root = 2 ^ root from ⟨hr1, hr15, rfl⟩)
  clear C hr hE h16 hlen hr1 hr15
  go_enter Tryz.func51, Tryz.ntmps51
  go_wp2_with fail
  refine C1.out.mono ?_; rintro e w1 ⟨v, E', rfl, hk, rfl, ho, hr1⟩
  rw [hl] at ho
  obtain ⟨gv, cv, hv, -, -, hi⟩ := own_slI ho (by rw [Ne, List.length_eq_zero_iff]; exact h0) (by omega)
  rw [hn] at hv
  subst hv
  have HK := Lib.hid hk
  have HR1 := Lib.hid hr1
  have C2 := Lib.hid (CN.out w1 (some ⟨gv, 0, none⟩) cv hi)
  have hws := hk.size
  clear hk C1 hr1 ho hi CN
  go_wp2_with fail
  refine (CM.out _).mono ?_; rintro e w2 ⟨rfl, h2⟩; rw [h2]; clear h2 w2
  go_wp2_with fail
  refine C2.out.mono ?_; rintro e w3 ⟨gt, gs, ao, N, C, short, long, hs, rfl, h1, h2, h3, h4, hb⟩
  have HE := Lib.hid (show IsReader w3 g s t' ∧ Keeps (fun k => k = g) w w3 ∧ T27 w3 (fun k => k < w.heap.size) gt l from
    ⟨HR1.out.kept hb, HK.out.trans (Keeps.of_below hb), w1.heap.size, gs, 2 ^ root, root, N, C, ao, short, long, hs, ⟨h1, by rw [hn] at *; exact h2⟩, ⟨HR2.out.1, HR2.out.2.1, rfl⟩, ⟨by omega, by omega, fun k hk => by have := (OwnS.lt h1.rl k hk).1; omega⟩, HLE.out⟩)
  clear h1 h2 h3 h4 hb C2 HR1 HK HR2 HLE
  go_wp2_with fail
  refine (CM.out _).mono ?_; rintro e w2 ⟨rfl, h2⟩; rw [h2]; clear h2 w2
  go_wp2_with fail
  go_ret
  exact ⟨gt, rfl, HE.out⟩
end Go.Proofs.YtipcdkemokkdfaaGreat
