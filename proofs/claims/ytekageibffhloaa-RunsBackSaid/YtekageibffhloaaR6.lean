/- Layer 12: Unpack, of the program and of the document. -/
import Derived.Test.YtekageibffhloaaR5
namespace Go.Proofs.Ytekageibffhloaa
open Go.ChangeShapes Go.WideShapes Go.ChangeAt Go.RowKit
set_option linter.unusedVariables false
set_option maxRecDepth 100000
open RunsMath
theorem dPackBad (a : Option Addr) (c : Nat) (l : List Int) (w : World) (h : IsInts w a l) (hB : okB l = false) :
    Calls Try.prog 28 #[.slice a l.length c] w fun e w' => ∃ v', e = .returned v' ∧ OwnR w.heap.size w' v' (packL l) ∧ Below w.heap.size w w' := by
  have HO := Lib.hid (show packL l = [] by unfold packL; rw [hB]; rfl)
  have hl := h.1
  have h_ := Lib.hid h
  clear h
  go_enter Try.func28, Try.ntmps28
  go_wp2
  go_loop [3] (fun i => ∃ k : Nat, k ≤ l.length ∧ i = .int .i64 k ∧ Hid (okB (l.drop k) = false)) (fun i => l.length - (intOf i).toNat)
  case atStart => exact ⟨0, Nat.zero_le _, rfl, Lib.hid hB⟩
  case round =>
    clear hB
    obtain ⟨k, hk, rfl, ht⟩ := hrel
    by_cases hlt : k < l.length
    · obtain ⟨x, rfl, -, hx⟩ := h_.out.at k hlt
      have cx := hx k hlt
      have hs := ht.out
      rw [drop_getD l k hlt, okB_cons] at hs
      obtain ⟨X, hX⟩ : ∃ X, l.getD k 0 = X := ⟨_, rfl⟩
      rw [hX] at cx hs
      clear hX ht hx
      by_cases h0 : X < 0
      · clear hs
        go_wp2
        go_ret
        exact ⟨_, rfl, by rw [HO.out]; exact OwnS.nil, Below.refl _ _⟩
      · by_cases h1 : 15 < X
        · clear hs
          go_wp2
          go_ret
          exact ⟨_, rfl, by rw [HO.out]; exact OwnS.nil, Below.refl _ _⟩
        · have HF := Lib.hid (show okB (l.drop (k + 1)) = false by
            have e : (decide (0 ≤ X) && decide (X ≤ 15)) = true := by simp; omega
            rwa [e, Bool.true_and] at hs)
          clear hs
          go_wp2
          go_round
          case rel => exact ⟨k + 1, by omega, by go_num, HF⟩
          case measure => simp [intOf]; omega
    · exfalso
      have h := ht.out
      rw [List.drop_of_length_le (by omega)] at h
      simp [okB] at h
theorem dPack (a : Option Addr) (c : Nat) (l : List Int) (w : World) (h : IsInts w a l) (hl : l.length ≤ 2000) :
    Calls Try.prog 28 #[.slice a l.length c] w fun e w' => ∃ v', e = .returned v' ∧ OwnR w.heap.size w' v' (packL l) ∧ Below w.heap.size w w' := by
  rcases hB : okB l with _ | _
  · exact dPackBad a c l w h hB
  · exact dPackOk a c l w h hl hB
def UnpPost (r : Int × List Int) (w : World) (e : Ending) (w' : World) : Prop := ∃ v', e = .returned (.tuple #[v', .int .i64 r.1]) ∧ OwnI w.heap.size w' v' r.2 ∧ Below w.heap.size w w'
theorem unp_out (n : Int) (h : n < 0 ∨ 1024 < n) (l : List Run) : unpack l n = (1, []) := by unfold unpack; rw [if_pos h]
theorem unp_in (N : Nat) (h : N ≤ 1024) (l : List Run) : unpack l N = unp N [] 0 l := by unfold unpack; rw [if_neg (by omega), Int.toNat_natCast]
theorem drop_getDR (l : List Run) (k : Nat) (h : k < l.length) : l.drop k = l.getD k (0, 0) :: l.drop (k + 1) := by
  rw [List.drop_eq_getElem_cons h]; simp [List.getD_eq_getElem?_getD, h]
theorem fine_more (s m : Int) (h : fine (s, m) = true) : 0 ≤ m ∧ m ≤ 127 := by
  rcases fine_cases s m true h with ⟨_, h⟩ | ⟨_, _, h⟩ | ⟨_, _, _, h⟩ | ⟨_, _, h0, hb⟩
  · cases h
  · cases h
  · cases h
  · have := of_decide_eq_true hb.symm
    have hp : 2 ^ extra s ≤ 2 ^ 7 := Nat.pow_le_pow_right (by decide) (extra_le s)
    have e : ((2 ^ extra s : Nat) : Int) = (2 : Int) ^ extra s := by simp
    have hp2 : 2 ^ extra s ≤ 128 := hp
    generalize 2 ^ extra s = P at e hp2
    omega
theorem many_le (s m : Int) (h : 0 ≤ m ∧ m ≤ 127) : 1 ≤ many (s, m) ∧ many (s, m) ≤ 138 := by
  unfold many; simp only; split; omega; split <;> omega
theorem unpN1 (n : Int) (h : n < 0) (a : Option Addr) (k c : Nat) (w : World) : Calls Try.prog 24 #[.slice a k c, .int .i64 n] w (UnpPost (1, []) w) := by
  go_enter Try.func24, Try.ntmps24
  go_wp2
  go_ret2
  exact ⟨_, rfl, OwnS.nil, Below.refl _ _⟩
theorem unpN2 (n : Int) (h : 1024 < n) (a : Option Addr) (k c : Nat) (w : World) : Calls Try.prog 24 #[.slice a k c, .int .i64 n] w (UnpPost (1, []) w) := by
  go_enter Try.func24, Try.ntmps24
  go_wp2
  go_ret2
  exact ⟨_, rfl, OwnS.nil, Below.refl _ _⟩
theorem dunpN1 (n : Int) (h : n < 0) (a : Option Addr) (k c : Nat) (w : World) : Calls Try.prog 25 #[.slice a k c, .int .i64 n] w (UnpPost (1, []) w) := by
  go_enter Try.func25, Try.ntmps25
  go_wp2
  go_ret2
  exact ⟨_, rfl, OwnS.nil, Below.refl _ _⟩
theorem dunpN2 (n : Int) (h : 1024 < n) (a : Option Addr) (k c : Nat) (w : World) : Calls Try.prog 25 #[.slice a k c, .int .i64 n] w (UnpPost (1, []) w) := by
  go_enter Try.func25, Try.ntmps25
  go_wp2
  go_ret2
  exact ⟨_, rfl, OwnS.nil, Below.refl _ _⟩
set_option maxHeartbeats 6400000 in
theorem rUnpack (a : Option Addr) (c : Nat) (l : List Run) (N : Nat) (hN : N ≤ 1024) (hl : l.length ≤ 2000) (w : World) (h : IsRuns w a l) :
    Calls Try.prog 24 #[.slice a l.length c, .int .i64 N] w (UnpPost (unpack l N) w) := by
  rw [unp_in N hN l]
  obtain ⟨R, hR⟩ : ∃ R, unp N [] 0 l = R := ⟨_, rfl⟩
  rw [hR]
  have h_ := Lib.hid h
  clear h
  go_enter Try.func24, Try.ntmps24
  go_wp2
  go_loopw [6, 7, 20] (fun u v i wr => ∃ (k : Nat) (out : List Int) (x : Int), k ≤ l.length ∧ i = .int .i64 k ∧ v = .int .i64 x ∧ out.length ≤ N ∧ OwnI w.heap.size wr u out ∧ Below w.heap.size w wr ∧ Hid (unp N out x (l.drop k) = R)) (fun _ _ i _ => l.length - (intOf i).toNat)
  case atStart => exact ⟨0, [], 0, Nat.zero_le _, rfl, rfl, by simp, OwnS.nil, Below.refl _ _, Lib.hid hR⟩
  case round =>
    clear hR
    obtain ⟨k, out, x0, hk, rfl, rfl, hon, hown, hb, hp⟩ := hrel
    have hbs := hb.size
    by_cases hlt : k < l.length
    · obtain ⟨x, rfl, hxb, hx⟩ := h_.out.at k hlt
      obtain ⟨cx, cx2⟩ := hx k hlt
      have cx : wr.cell? (x.add (k * 2)) = _ := (hb.cell (by rw [add_block]; exact hxb)).trans cx
      have cx2 : wr.cell? ⟨(x.add (k * 2)).block, (x.add (k * 2)).off + 1, none⟩ = _ := (hb.cell (by show (x.add (k * 2)).block < _; rw [add_block]; exact hxb)).trans cx2
      have hp2 := hp.out
      rw [drop_getDR l k hlt, unp] at hp2
      obtain ⟨X, hX⟩ : ∃ X, l.getD k (0, 0) = X := ⟨_, rfl⟩
      rw [hX] at cx cx2 hp2
      obtain ⟨s, m⟩ := X
      simp only at cx cx2
      clear hX hp hx
      have cz0 : (wr.alloc (.cells #[.int .i64 s, .int .i64 m] 88)).cell? ⟨wr.heap.size, 0, none⟩ = some (.int .i64 s) := cell_lit (heap_alloc_new wr _) 0 _ rfl
      have cz1 : (wr.alloc (.cells #[.int .i64 s, .int .i64 m] 88)).cell? ⟨wr.heap.size, 1, none⟩ = some (.int .i64 m) := cell_lit (heap_alloc_new wr _) 1 _ rfl
      have CZ0 := Lib.hid cz0; have CZ1 := Lib.hid cz1
      clear cz0 cz1
      rcases hF : fine (s, m) with _ | _
      · rw [if_pos hF] at hp2
        have C := Lib.hid (rMayBe s m false hF (wr.alloc (.cells #[.int .i64 s, .int .i64 m] 88)))
        have HR := Lib.hid hp2
        clear hF hp2
        go_wp2_with fail
        refine C.out.mono ?_; rintro e w1 ⟨rfl, hb1⟩
        go_wp2_with fail
        go_ret2
        rw [← HR.out]
        exact ⟨_, rfl, OwnS.nil, (hb.alloc hbs _).trans (hb1.mono (by simp; omega))⟩
      · rw [if_neg (by rw [hF]; decide)] at hp2
        have C := Lib.hid (rMayBe s m true hF (wr.alloc (.cells #[.int .i64 s, .int .i64 m] 88)))
        have hm := fine_more s m hF
        have ht := many_le s m hm
        have CM := fun W => rMeaning s m x0 (what x0 (s, m)) (many (s, m)) rfl rfl (by omega) W
        obtain ⟨Y, hY⟩ : ∃ Y, what x0 (s, m) = Y := ⟨_, rfl⟩
        obtain ⟨t, htt⟩ : ∃ t, many (s, m) = t := ⟨_, rfl⟩
        rw [hY, htt] at CM hp2
        rw [htt] at ht
        have HOX := Lib.hid (hown.alloc (.cells #[.int .i64 s, .int .i64 m] 88))
        have CM_ := Lib.hid CM
        clear CM
        clear hF hY htt
        go_wp2_with fail
        refine C.out.mono ?_; rintro e w1 ⟨rfl, hb1⟩
        have cy0 : w1.cell? ⟨wr.heap.size, 0, none⟩ = some (.int .i64 s) := (hb1.cell (by simp)).trans CZ0.out
        have cy1 : w1.cell? ⟨wr.heap.size, 1, none⟩ = some (.int .i64 m) := (hb1.cell (by simp)).trans CZ1.out
        have hown1 := HOX.out.kept hb1
        have hb1 : Below w.heap.size w w1 := (hb.alloc hbs _).trans (hb1.mono (by simp; omega))
        have hown1_ := Lib.hid hown1
        clear hown1
        clear hown HOX
        go_wp2_with fail
        refine (CM_.out w1).mono ?_; rintro e w2 ⟨rfl, hb2⟩
        have hown2 := hown1_.out.kept hb2
        have hb2 : Below w.heap.size w w2 := hb1.trans (hb2.mono hb1.size)
        obtain ⟨pu, pc, hpu⟩ := hown2.slice
        subst hpu
        clear hown1_ cy0 cy1 CZ0 CZ1 hb1 cx cx2 hb hbs
        by_cases hfit : N < out.length + t
        · rw [if_pos hfit] at hp2
          have HR := Lib.hid hp2
          have hfi : (N : Int) < (out.length : Int) + (t : Int) := by omega
          have hown2_ := Lib.hid hown2
          clear hown2
          clear hp2 hfit
          go_wp2_with fail
          go_ret2
          rw [← HR.out]
          exact ⟨_, rfl, OwnS.nil, hb2⟩
        · rw [if_neg hfit] at hp2
          have HR := Lib.hid hp2
          have hfi : ¬ (N : Int) < (out.length : Int) + (t : Int) := by omega
          have hown2_ := Lib.hid hown2
          clear hown2
          clear hp2
          go_wp2_with fail
          go_loopw [6, 40] (fun u i wr => ∃ j : Nat, j ≤ t ∧ i = .int .i64 j ∧ OwnI w.heap.size wr u (out ++ List.replicate j Y) ∧ Below w.heap.size w wr) (fun _ i _ => t - (intOf i).toNat)
          case atStart => exact ⟨0, Nat.zero_le _, rfl, by simpa using hown2_.out, hb2⟩
          case round =>
            clear hb2
            obtain ⟨j, hj, rfl, hown, hb⟩ := hrel
            have hbs := hb.size
            by_cases hjt : j < t
            · have HL := Lib.hid (show (out ++ List.replicate j Y).length ≤ 1099511627776 by simp; omega)
              have HE := Lib.hid (show (out ++ List.replicate j Y) ++ [Y] = out ++ List.replicate (j + 1) Y by rw [List.append_assoc, List.replicate_succ'])
              have HB := Lib.hid hbs
              go_wp2_with (at_builtin; refine app_int rfl (.tmp 42) (.tmp 44) rfl _ _ _ _ Y rfl hown wr.heap.size 1 rfl rfl HL.out HB.out ?_; intro v3 w3 hown3 hb3 _)
              rw [HE.out] at hown3
              have hown3_ := Lib.hid hown3
              clear hown3
              go_wp2
              go_roundw
              case rel => exact ⟨j + 1, by omega, by go_num, hown3_.out, hb.trans hb3⟩
              case measure => simp [intOf]; omega
            · obtain rfl : j = t := by omega
              have hln : (out ++ List.replicate j Y).length ≤ N := by simp; omega
              have hown_ := Lib.hid hown
              clear hown
              go_wp2
              go_roundw
              case rel => exact ⟨k + 1, _, Y, by omega, by go_num, rfl, hln, hown_.out, hb, HR⟩
              case measure => simp [intOf]; omega
    · have hp2 := hp.out
      rw [List.drop_of_length_le (by omega), unp] at hp2
      obtain ⟨pu, pc, hpu⟩ := hown.slice
      subst hpu
      by_cases hsh : out.length < N
      · rw [if_pos hsh] at hp2
        have HR := Lib.hid hp2
        have hsi : (out.length : Int) < (N : Int) := by omega
        clear hp2 hp
        have hown_ := Lib.hid hown
        clear hown
        go_wp2
        go_ret2
        rw [← HR.out]
        exact ⟨_, rfl, OwnS.nil, hb⟩
      · rw [if_neg hsh] at hp2
        have HR := Lib.hid hp2
        have hsi : ¬ (out.length : Int) < (N : Int) := by omega
        clear hp2 hp
        have hown_ := Lib.hid hown
        clear hown
        go_wp2
        go_ret2
        rw [← HR.out]
        exact ⟨_, rfl, hown_.out, hb⟩
end Go.Proofs.Ytekageibffhloaa
