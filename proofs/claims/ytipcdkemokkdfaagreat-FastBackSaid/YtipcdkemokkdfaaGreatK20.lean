import Derived.Test.YtipcdkemokkdfaaGreatK19
import Derived.Test.YtipcdkemokkdfaaGreatK01
import Derived.Laws.BitsAllLaws
import Derived.Laws.BitsLemmas
import Derived.Test.YtipcdkemokkdfaaGreatK08
/- Layer 12: Pack, of the program and of the document. -/
namespace Go.Proofs.YtipcdkemokkdfaaGreat
open Go.ChangeShapes Go.WideShapes Go.ChangeAt Go.RowKit
set_option linter.unusedVariables false
set_option maxRecDepth 100000
open RunsMath

theorem app_run {X : World} {ops : Array Oper} {rest : List Oper} {o : Oper} {a : Act} {Q : Exit → Act → World → Prop} (hgd : o.guard = none) (s xo : Operand)
    (ho : o.op = .call { callee := .builtin .append, args := #[s, xo], argTypes := #[94, 94] })
    (B T : Nat) (v : Value) (l : List Run) (x y : Int) (hs : a.eval s = v) (hown : OwnR B X v l) (g c1 : Nat) (hg : X.heap.size = g) (hx : a.eval xo = .slice (some ⟨g, 0, none⟩) 1 c1) (hl : l.length ≤ 1099511627776) (hB : B ≤ X.heap.size)
    (h : ∀ v' w', OwnR B w' v' (l ++ [(x, y)]) → Below B X w' → X.grownBy w' v.ownBlock → wpList Tryz.prog ops Q rest (a.put o.dst v') w') : wpList Tryz.prog ops Q (o :: rest) a (X.alloc (.cells #[.int .i64 x, .int .i64 y] T)) :=
  app_one (f := fR) info_run rfl (by decide) (by decide) Tryz.underlying94 flatR hgd s xo ho B T v l (x, y) hs hown g c1 hg hx hl hB h
def okB (l : List Int) : Bool := l.all fun x => decide (0 ≤ x) && decide (x ≤ 15)
theorem okB_cons (x : Int) (l : List Int) : okB (x :: l) = ((decide (0 ≤ x) && decide (x ≤ 15)) && okB l) := by simp [okB]
theorem okB_iff (l : List Int) : okB l = true ↔ ∀ x ∈ l, 0 ≤ x ∧ x ≤ 15 := by simp [okB]
def packL (l : List Int) : List Run := if okB l then packF l.length (-1) l else []
theorem ahead_next (l : List Int) (i m : Nat) (hi : i < l.length) (h1 : 1 ≤ m) (hm : m ≤ rowN l i) : aheadL l (i + m) = l.getD i 0 := by
  unfold aheadL
  rw [if_neg (by omega)]
  have h := same_few (l.getD i 0) (l.drop i) m hm
  have h2 := congrArg (fun q => q[m - 1]?) h
  simp only [List.getElem?_take, List.getElem?_drop, List.getElem?_replicate] at h2
  rw [if_pos (by omega), if_pos (by omega), show i + (m - 1) = i + m - 1 by omega] at h2
  simp [List.getD_eq_getElem?_getD, h2]
theorem pack_step (l : List Int) (i f : Nat) (hi : i < l.length) (hf : l.length - i ≤ f) (hx : ∀ x ∈ l, 0 ≤ x ∧ x ≤ 15) (r : Run) (hr : firstRun (aheadL l i) (l.getD i 0) (rowN l i) = r) :
    packF f (aheadL l i) (l.drop i) = r :: packF (f - 1) (aheadL l (i + many r)) (l.drop (i + many r)) ∧ 1 ≤ many r ∧ i + many r ≤ l.length := by
  subst hr
  have g0 := hx (l.getD i 0) (by simp [List.getD_eq_getElem?_getD, hi])
  have hrow1 : 1 ≤ rowN l i := by unfold rowN; exact (same_at (l.getD i 0) l i 0 (Nat.zero_le _) (by omega)).1 rfl
  have hle : rowN l i ≤ l.length - i := by have := same_le (l.getD i 0) (l.drop i); rwa [List.length_drop] at this
  obtain ⟨m1, m2⟩ := first_many (aheadL l i) (l.getD i 0) (rowN l i) g0 hrow1
  refine ⟨?_, m1, by omega⟩
  rw [ahead_next l i _ hi m1 m2]
  obtain ⟨g, rfl⟩ : ∃ g, f = g + 1 := ⟨f - 1, by omega⟩
  have hd := drop_getD l i hi
  have hs : rowN l i = same (l.getD i 0) (l.getD i 0 :: l.drop (i + 1)) := by unfold rowN; rw [hd]
  rw [hd]
  simp only [packF]
  rw [← hs, Nat.add_sub_cancel, ← hd, List.drop_drop]
set_option maxHeartbeats 3200000 in
theorem rPack (a : Option Addr) (c : Nat) (l : List Int) (w : World) (h : IsInts w a l) (hl : l.length ≤ 2000) :
    Calls Tryz.prog 41 #[.slice a l.length c] w fun e w' => ∃ v', e = .returned v' ∧ OwnR w.heap.size w' v' (packL l) ∧ Below w.heap.size w w' := by
  rcases hB : okB l with _ | _
  · have HO := Lib.hid (show packL l = [] by unfold packL; rw [hB]; rfl)
    have h_ := Lib.hid h
    clear h
    go_enter Tryz.func41, Tryz.ntmps41
    go_wp2
    go_loop [11] (fun i => ∃ k : Nat, k ≤ l.length ∧ i = .int .i64 k ∧ Hid (okB (l.drop k) = false)) (fun i => l.length - (intOf i).toNat)
    case atStart => exact ⟨0, Nat.zero_le _, rfl, Lib.hid hB⟩
    case round =>
      clear hB
      obtain ⟨k, hk, rfl, ht⟩ := hrel
      by_cases hlt : k < l.length
      · obtain ⟨x, rfl, -, hx⟩ := h_.out.at k hlt
        have cx := hx k hlt
        have hs := ht.out
        rw [drop_getD l k hlt, okB_cons] at hs
        obtain ⟨X, hX⟩ : ∃ X, l.getD k 0 = X := ⟨_, rfl⟩
        rw [hX] at cx hs
        clear hX ht hx
        by_cases h0 : X < 0
        · clear hs
          go_wp2
          go_ret
          exact ⟨_, rfl, by rw [HO.out]; exact OwnS.nil, Below.refl _ _⟩
        · by_cases h1 : 15 < X
          · clear hs
            go_wp2
            go_ret
            exact ⟨_, rfl, by rw [HO.out]; exact OwnS.nil, Below.refl _ _⟩
          · have HF := Lib.hid (show okB (l.drop (k + 1)) = false by
              have e : (decide (0 ≤ X) && decide (X ≤ 15)) = true := by simp; omega
              rwa [e, Bool.true_and] at hs)
            clear hs
            go_wp2
            go_round
            case rel => exact ⟨k + 1, by omega, by go_num, HF⟩
            case measure => simp [intOf]; omega
      · exfalso
        have h := ht.out
        rw [List.drop_of_length_le (by omega)] at h
        simp [okB] at h
  · have HO := Lib.hid (show packL l = packF l.length (-1) l by unfold packL; rw [hB]; rfl)
    have hok := (okB_iff l).1 hB
    have hg := fun k (hk : k < l.length) => hok (l.getD k 0) (by simp [List.getD_eq_getElem?_getD, hk])
    have C := fun W i (hi : i < l.length) (h : IsInts W a l) => rFirst a c l i hi W h hok
    have HS := Lib.hid (fun i f hi hf => pack_step l i f hi hf hok)
    have hpl := pack_length l.length (-1) l (Nat.le_refl _) hok
    have h_ := Lib.hid h
    have hg_ := Lib.hid hg
    have C_ := Lib.hid C
    clear h hg C
    clear hB hok
    go_enter Tryz.func41, Tryz.ntmps41
    go_wp2
    go_loop [11] (fun i => ∃ k : Nat, k ≤ l.length ∧ i = .int .i64 k) (fun i => l.length - (intOf i).toNat)
    case atStart => exact ⟨0, Nat.zero_le _, rfl⟩
    case round =>
      obtain ⟨k, hk, rfl⟩ := hrel
      by_cases hlt : k < l.length
      · obtain ⟨x, rfl, -, hx⟩ := h_.out.at k hlt
        have cx := hx k hlt
        obtain ⟨g0, g1⟩ := hg_.out k hlt
        obtain ⟨X, hX⟩ : ∃ X, l.getD k 0 = X := ⟨_, rfl⟩
        rw [hX] at cx g0 g1
        clear hX hx
        go_wp2
        go_round
        case rel => exact ⟨k + 1, by omega, by go_num⟩
        case measure => simp [intOf]; omega
      · obtain rfl : k = l.length := by omega
        go_wp2
        go_loopw [5, 6] (fun u j wr => ∃ (i f : Nat) (out : List Run), i ≤ l.length ∧ l.length - i ≤ f ∧ out.length ≤ i ∧ j = .int .i64 i ∧ OwnR w.heap.size wr u out ∧ Below w.heap.size w wr ∧ Hid (packF l.length (-1) l = out ++ packF f (aheadL l i) (l.drop i))) (fun _ j _ => l.length - (intOf j).toNat)
        case atStart => exact ⟨0, l.length, [], Nat.zero_le _, by omega, by simp, rfl, OwnS.nil, Below.refl _ _, Lib.hid rfl⟩
        case round =>
          obtain ⟨i, f, out, hi, hf, hol, rfl, hown, hb, hp⟩ := hrel
          have hbs := hb.size
          by_cases hit : i < l.length
          · have HI : Hid (IsInts wr a l) := by
              refine ⟨h_.out.1, ?_⟩
              rcases h_.out.2 with hn | ⟨x, rfl, hx⟩
              · exact .inl hn
              · exact .inr ⟨x, rfl, fun i hi => by rw [hb.cell (cell_block (hx i hi))]; exact hx i hi⟩
            have hst := HS.out i f hit hf
            have hC := C_.out wr i hit HI.out
            obtain ⟨⟨s, m⟩, hsm⟩ : ∃ r, firstRun (aheadL l i) (l.getD i 0) (rowN l i) = r := ⟨_, rfl⟩
            rw [hsm] at hC
            obtain ⟨e1, e2, e3⟩ := hst _ hsm
            have hp2 := hp.out
            rw [e1] at hp2
            obtain ⟨t, ht⟩ : ∃ t, many (s, m) = t := ⟨_, rfl⟩
            rw [ht] at e2 e3 hp2
            have HP := Lib.hid (show packF l.length (-1) l = (out ++ [(s, m)]) ++ packF (f - 1) (aheadL l (i + t)) (l.drop (i + t)) by rw [hp2]; simp)
            have HT := Lib.hid ht
            have hC := Lib.hid hC
            have hown_ := Lib.hid hown
            clear hown
            clear e1 hst hsm hp hp2 ht
            go_wp2_with fail
            refine hC.out.mono ?_; rintro e w1 ⟨rfl, hb1⟩
            have hown := Lib.hid (hown_.out.kept hb1)
            have hb := hb.trans (hb1.mono hbs)
            have hbs := hb.size
            clear hb1 hown_
            rw [HT.out]
            unfold runV
            have HL := Lib.hid (show out.length ≤ 1099511627776 by omega)
            have HX := Lib.hid (hown.out.alloc (.cells #[.int .i64 s, .int .i64 m] 97))
            have HG : Hid ((w1.alloc (.cells #[.int .i64 s, .int .i64 m] 97)).heap.size = w1.heap.size + 1) := by show _ = _; simp
            have HBX : Hid (w.heap.size ≤ (w1.alloc (.cells #[.int .i64 s, .int .i64 m] 97)).heap.size) := by show _ ≤ _; simp; omega
            go_wp2_with (at_builtin; refine app_run rfl (.tmp 32) (.tmp 34) rfl _ _ _ out s m rfl HX.out (w1.heap.size + 1) 1 HG.out rfl HL.out HBX.out ?_; intro v2 w2 hown2 hb2 _)
            have hb := (hb.alloc hbs (.cells #[.int .i64 s, .int .i64 m] 97)).trans hb2
            have hown2_ := Lib.hid hown2
            clear hown2
            clear hb2 HX HBX HL hown
            go_wp2
            go_roundw
            case rel => exact ⟨i + t, f - 1, _, e3, by omega, by simp; omega, by go_num, hown2_.out, hb, HP⟩
            case measure => simp [intOf]; omega
          · obtain rfl : i = l.length := by omega
            have HE := Lib.hid (show packF l.length (-1) l = out by
              have h := hp.out; rw [List.drop_of_length_le (Nat.le_refl _)] at h
              rw [h]; cases f <;> simp [packF])
            have hown_ := Lib.hid hown
            clear hown
            clear hp
            go_wp2
            go_ret
            exact ⟨_, rfl, by rw [HO.out, HE.out]; exact hown_.out, hb⟩
end Go.Proofs.YtipcdkemokkdfaaGreat

/- A number the other way round, plainly. -/
namespace Go.Proofs.YtipcdkemokkdfaaGreat.TurnMath
/-- The lowest n bits of c the other way round, bit by bit. -/
def turn (c : Nat) : Nat → Nat
  | 0 => 0
  | n + 1 => 2 * turn c n + c / 2 ^ n % 2
theorem turn_lt (c n : Nat) : turn c n < 2 ^ n := by
  induction n with
  | zero => simp [turn]
  | succ n ih => simp only [turn, Nat.pow_succ]; omega
theorem turn_bit (c n i : Nat) : (turn c n).testBit i = (decide (i < n) && c.testBit (n - 1 - i)) := by
  induction n generalizing i with
  | zero => simp [turn]
  | succ n ih =>
    have hd : (2 * turn c n + c / 2 ^ n % 2) / 2 = turn c n := by omega
    have hm : (2 * turn c n + c / 2 ^ n % 2) % 2 = c / 2 ^ n % 2 := by omega
    cases i with
    | zero =>
      simp only [turn, Nat.testBit_zero, hm]
      rw [Nat.testBit_eq_decide_div_mod_eq]; simp
    | succ i =>
      rw [Nat.testBit_succ]; simp only [turn, hd, ih]
      rw [show n + 1 - 1 - (i + 1) = n - 1 - i from by omega]
      simp
def swap (x s m : Nat) : Nat := (x / 2 ^ s &&& m) ||| ((x &&& m) * 2 ^ s)
theorem swap_bit (x s m i : Nat) : (swap x s m).testBit i = ((x.testBit (i + s) && m.testBit i) || (decide (s ≤ i) && (x.testBit (i - s) && m.testBit (i - s)))) := by
  unfold swap
  rw [Nat.testBit_or, Nat.testBit_and, Nat.testBit_div_two_pow, Nat.testBit_mul_two_pow, Nat.testBit_and]
def rev32 (x : Nat) : Nat :=
  swap (swap (swap (swap (swap x 1 1431655765) 2 858993459) 4 252645135) 8 16711935) 16 65535
theorem rev_bit (x : Nat) (_hx : x < 2 ^ 32) (i : Nat) (hi : i < 32) : (rev32 x).testBit i = x.testBit (31 - i) := by
  unfold rev32
  simp only [swap_bit]
  have e : i = 0 ∨ i = 1 ∨ i = 2 ∨ i = 3 ∨ i = 4 ∨ i = 5 ∨ i = 6 ∨ i = 7 ∨ i = 8 ∨ i = 9 ∨ i = 10 ∨ i = 11 ∨ i = 12 ∨ i = 13 ∨ i = 14 ∨ i = 15 ∨ i = 16 ∨ i = 17 ∨ i = 18 ∨ i = 19 ∨ i = 20 ∨ i = 21 ∨ i = 22 ∨ i = 23 ∨ i = 24 ∨ i = 25 ∨ i = 26 ∨ i = 27 ∨ i = 28 ∨ i = 29 ∨ i = 30 ∨ i = 31 := by omega
  have b1 : ∀ j, j < 34 → Nat.testBit 1431655765 j = decide (j < 32 ∧ j % 2 = 0) := by decide
  have b2 : ∀ j, j < 36 → Nat.testBit 858993459 j = decide (j < 32 ∧ j % 4 < 2) := by decide
  have b3 : ∀ j, j < 40 → Nat.testBit 252645135 j = decide (j < 32 ∧ j % 8 < 4) := by decide
  have b4 : ∀ j, j < 48 → Nat.testBit 16711935 j = decide (j < 32 ∧ j % 16 < 8) := by decide
  have b5 : ∀ j, j < 64 → Nat.testBit 65535 j = decide (j < 16) := by decide
  rcases e with rfl | rfl | rfl | rfl | rfl | rfl | rfl | rfl | rfl | rfl | rfl | rfl | rfl | rfl | rfl | rfl | rfl | rfl | rfl | rfl | rfl | rfl | rfl | rfl | rfl | rfl | rfl | rfl | rfl | rfl | rfl | rfl <;>
    simp [b1, b2, b3, b4, b5]
theorem rev_lt (x : Nat) (_hx : x < 2 ^ 32) : rev32 x < 2 ^ 32 := by
  apply Nat.lt_pow_two_of_testBit
  intro i hi
  unfold rev32
  rw [swap_bit]
  have : (65535 : Nat).testBit i = false := Nat.testBit_lt_two_pow (Nat.lt_of_lt_of_le (by decide : 65535 < 2 ^ 16) (Nat.pow_le_pow_right (by decide) (by omega)))
  rw [this]
  by_cases h : i - 16 < 16
  · omega
  · have : (65535 : Nat).testBit (i - 16) = false := Nat.testBit_lt_two_pow (Nat.lt_of_lt_of_le (by decide : 65535 < 2 ^ 16) (Nat.pow_le_pow_right (by decide) (by omega)))
    rw [this]; simp
theorem rev_turn (c n : Nat) (hn : n ≤ 32) : rev32 (c % 2 ^ 32) / 2 ^ (32 - n) = turn c n := by
  apply Nat.eq_of_testBit_eq
  intro i
  rw [Nat.testBit_div_two_pow, turn_bit]
  have hc : c % 2 ^ 32 < 2 ^ 32 := Nat.mod_lt _ (by decide)
  by_cases h : i < n
  · rw [rev_bit _ hc _ (by omega), Nat.testBit_mod_two_pow, show 31 - (i + (32 - n)) = n - 1 - i from by omega, decide_eq_true (show n - 1 - i < 32 by omega), decide_eq_true h]
  · rw [Nat.testBit_lt_two_pow (Nat.lt_of_lt_of_le (rev_lt _ hc) (Nat.pow_le_pow_right (by decide) (by omega)))]
    simp [h]
end Go.Proofs.YtipcdkemokkdfaaGreat.TurnMath

/- Layer 8: numbers the other way round. -/
namespace Go.Proofs.YtipcdkemokkdfaaGreat
open Go.ChangeShapes Go.WideShapes Go.ChangeAt Go.RowKit
set_option linter.unusedVariables false
set_option maxRecDepth 100000
open TurnMath

theorem nat32 (a b : Nat) (ha : a < 2 ^ 32) (hb : b < 2 ^ 32) : bits .and .u32 (a : Int) (b : Int) = ((a &&& b : Nat) : Int) ∧ bits .or .u32 (a : Int) (b : Int) = ((a ||| b : Nat) : Int) :=
  bits_nat .u32 32 (by decide) (fun n h1 h2 => IntWalk.u32_in n (by omega)) a b ha hb
theorem sw (x M D s : Nat) (m d : Int) (hd : d = D) (hm : m = M) (hD : D = 2 ^ s) (hx : x < 4294967296) (hM : M * D < 4294967296) (hD1 : 1 ≤ D) :
    bits .or .u32 (bits .and .u32 ((x : Int) / d) m) (bits .and .u32 (x : Int) m * d % 4294967296) = ((swap x s M : Nat) : Int) ∧ swap x s M < 4294967296 := by
  subst hd; subst hm
  have hM1 : M < 4294967296 := by
    have : M * 1 ≤ M * D := Nat.mul_le_mul_left _ hD1
    omega
  have e1 : ((x : Int) / (D : Int)) = ((x / D : Nat) : Int) := by simp
  have hxd : x / D ≤ x := Nat.div_le_self _ _
  have h1 : x / D &&& M < 2 ^ 32 := Nat.and_lt_two_pow _ hM1
  have h2 : (x &&& M) ≤ M := Nat.and_le_right
  have h3 : (x &&& M) * D < 4294967296 := Nat.lt_of_le_of_lt (Nat.mul_le_mul_right _ h2) hM
  rw [e1, (nat32 (x / D) M (by omega) (by omega)).1, (nat32 x M (by omega) (by omega)).1]
  have e2 : (((x &&& M : Nat) : Int) * (D : Int)) % 4294967296 = (((x &&& M) * D : Nat) : Int) := by
    rw [← Int.natCast_mul]; omega
  rw [e2, (nat32 _ _ h1 h3).2]
  unfold swap
  rw [← hD]
  exact ⟨rfl, Nat.or_lt_two_pow (n := 32) h1 h3⟩
theorem sw16 (y : Nat) (hy : y < 4294967296) : bits .or .u32 ((y : Int) / 65536) ((y : Int) * 65536 % 4294967296) = ((swap y 16 65535 : Nat) : Int) := by
  have e1 : ((y : Int) / 65536) = ((y / 65536 : Nat) : Int) := by simp
  have e2 : ((y : Int) * 65536 % 4294967296) = ((y % 65536 * 65536 : Nat) : Int) := by omega
  rw [e1, e2, (nat32 _ _ (by omega) (by omega)).2]
  unfold swap
  have a1 : y / 2 ^ 16 &&& 65535 = y / 65536 := by
    have := Nat.and_two_pow_sub_one_eq_mod (y / 65536) 16
    simp at this ⊢; omega
  have a2 : y &&& 65535 = y % 65536 := by
    have := Nat.and_two_pow_sub_one_eq_mod y 16
    simpa using this
  rw [a1, a2]
theorem bRevBytes (x : Nat) (hx : x < 4294967296) (w : World) : Calls Tryz.prog 85 #[.int .u32 x] w fun e w' => e = .returned (.int .u32 (swap (swap x 8 16711935) 16 65535 : Nat)) ∧ w' = w := by
  have h1 := sw x 16711935 256 8 16711935 256 rfl rfl rfl hx (by decide) (by decide)
  have h2 := sw16 _ h1.2
  have H1 := Lib.hid h1.1; have H2 := Lib.hid h2
  clear h1 h2
  go_enter Tryz.func85, Tryz.ntmps85
  go_wp2
  go_ret
  exact ⟨ret_i (by rw [H1.out, H2.out]), rfl⟩
theorem bRev (x : Nat) (hx : x < 4294967296) (w : World) : Calls Tryz.prog 65 #[.int .u32 x] w fun e w' => e = .returned (.int .u32 (rev32 x : Nat)) ∧ w' = w := by
  have h1 := sw x 1431655765 2 1 1431655765 2 rfl rfl rfl hx (by decide) (by decide)
  have h2 := sw _ 858993459 4 2 858993459 4 rfl rfl rfl h1.2 (by decide) (by decide)
  have h3 := sw _ 252645135 16 4 252645135 16 rfl rfl rfl h2.2 (by decide) (by decide)
  have C := bRevBytes _ h3.2 w
  rw [← h3.1, ← h2.1, ← h1.1] at C
  have E : Hid ((swap (swap (swap (swap (swap x 1 1431655765) 2 858993459) 4 252645135) 8 16711935) 16 65535 : Nat) = rev32 x) := rfl
  rw [h1.1, h2.1, h3.1] at C
  have H1 := Lib.hid h1.1; have H2 := Lib.hid h2.1; have H3 := Lib.hid h3.1
  have C := Lib.hid C
  clear h1 h2 h3
  go_enter Tryz.func65, Tryz.ntmps65
  go_wp2_with fail
  rw [H1.out, H2.out, H3.out]
  refine C.out.mono ?_; rintro e w1 ⟨rfl, rfl⟩
  go_wp2_with fail
  go_ret
  exact ⟨ret_i (by rw [E.out]), rfl⟩
theorem bTurned (c : Int) (n : Nat) (hn : n ≤ 32) (w : World) : Calls Tryz.prog 39 #[.int .i64 c, .int .i64 n] w fun e w' => e = .returned (.int .i64 (turn (c % 4294967296).toNat n : Nat)) ∧ w' = w := by
  have hc : (c % 4294967296) = ((c % 4294967296).toNat : Int) := by omega
  have hm : (c % 4294967296).toNat % 2 ^ 32 = (c % 4294967296).toNat := Nat.mod_eq_of_lt (by omega)
  have ht := rev_turn (c % 4294967296).toNat n hn
  rw [hm] at ht
  have hr := rev_lt (c % 4294967296).toNat (by omega)
  have C := Lib.hid (bRev (c % 4294967296).toNat (by omega) w)
  obtain ⟨X, hX⟩ : ∃ X, (c % 4294967296).toNat = X := ⟨_, rfl⟩
  rw [hX] at hc ht hr C ⊢
  obtain ⟨R, hR⟩ : ∃ R, rev32 X = R := ⟨_, rfl⟩
  rw [hR] at hr ht C
  have HC := Lib.hid hc; have HT := Lib.hid ht
  clear hc hX ht hR hm
  go_enter Tryz.func39, Tryz.ntmps39
  go_wp2_with fail
  rw [HC.out]
  refine C.out.mono ?_; rintro e w1 ⟨rfl, rfl⟩
  go_wp2_with fail
  go_ret
  refine ⟨ret_i ?_, rfl⟩
  have e : ((R : Int) / 2 ^ (32 - n)) = ((R / 2 ^ (32 - n) : Nat) : Int) := by simp
  have hl := turn_lt X n
  have hp : 2 ^ n ≤ 2 ^ 32 := Nat.pow_le_pow_right (by decide) hn
  rw [e, HT.out]
  unfold wrap64; omega
end Go.Proofs.YtipcdkemokkdfaaGreat

/- Layer 9, the document's: begins, Bools. -/
namespace Go.Proofs.YtipcdkemokkdfaaGreat
open Go.ChangeShapes Go.WideShapes Go.ChangeAt Go.RowKit
set_option linter.unusedVariables false
set_option maxRecDepth 100000
/-- Does l begin with the row h? -/
def begL (l h : List Bool) : Bool := decide (h.length ≤ l.length) && decide (l.take h.length = h)
/-- The n lowest bits of c, the highest one first. -/
def msb (c : Nat) : Nat → List Bool
  | 0 => []
  | n + 1 => (c / 2 ^ n % 2 == 1) :: msb c n
theorem msb_len (c : Nat) : ∀ n, (msb c n).length = n
  | 0 => rfl
  | n + 1 => by rw [msb, List.length_cons, msb_len c n]
end Go.Proofs.YtipcdkemokkdfaaGreat

/- Layer 9: symbol. -/
namespace Go.Proofs.YtipcdkemokkdfaaGreat
open Go.ChangeShapes Go.WideShapes Go.ChangeAt Go.RowKit
set_option linter.unusedVariables false
set_option maxRecDepth 100000
end Go.Proofs.YtipcdkemokkdfaaGreat
