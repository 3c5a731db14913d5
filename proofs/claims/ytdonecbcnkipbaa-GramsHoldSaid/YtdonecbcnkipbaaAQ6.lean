/- Layer 43, the document's: Count. -/
import Derived.Test.YtdonecbcnkipbaaAQ5
namespace Go.Proofs.Ytdonecbcnkipbaa
open Go.ChangeShapes Go.WideShapes Go.ChangeAt Go.RowKit
set_option linter.unusedVariables false
set_option linter.unusedSimpArgs false
set_option maxRecDepth 100000
open RollMath Gm
theorem wins_length (s : Tx) (k : Nat) : (wins s k).length = s.length + 1 - k := by simp [wins]
theorem wins_get (s : Tx) (k x : Nat) (h : x < s.length + 1 - k) : (wins s k)[x]'(by rw [wins_length]; exact h) = (s.drop x).take k := by simp [wins]
theorem wins_take (s : Tx) (k x : Nat) (h : x < s.length + 1 - k) : (wins s k).take (x + 1) = (wins s k).take x ++ [(s.drop x).take k] := by
  rw [List.take_succ_eq_append_getElem (by rw [wins_length]; exact h), wins_get s k x h]
theorem allW_next {ls : List Tx} {i : Nat} (k : Nat) (h : i < ls.length) : allW (ls.take (i + 1)) k = allW (ls.take i) k ++ wins (ls.getD i []) k := by
  unfold allW
  rw [List.take_succ_eq_append_getElem h, List.flatMap_append, List.getD_eq_getElem?_getD, List.getElem?_eq_getElem h]
  simp
theorem allW_take_few {ls : List Tx} (hF : Few ls) (k : Nat) : ∀ i, i ≤ ls.length → (allW (ls.take i) k).length ≤ 61 * i
  | 0, _ => by simp [allW]
  | i + 1, h => by
    rw [allW_next k (by omega), List.length_append, wins_length]
    have := allW_take_few hF k i (by omega)
    have := hF.short i (by omega)
    omega
theorem allW_few {ls : List Tx} (hF : Few ls) (k : Nat) : (allW ls k).length ≤ 732 := by
  have := allW_take_few hF k ls.length (Nat.le_refl _)
  rw [List.take_length] at this
  have := hF.few
  omega
theorem put_len (l : List Gr) (g : Gr) : (putL l g).length = l.length + 1 := by
  unfold putL
  rw [List.length_append, List.length_append, List.length_take, List.length_drop]
  have := atP_le l g l.length
  simp only [List.length_singleton]
  omega
theorem step_len (ls : List Tx) (out : List Gr) (s : Tx) : (stepD ls out s).length ≤ out.length + 1 := by
  unfold stepD
  split
  · omega
  · rw [put_len]; exact Nat.le_refl _
theorem fold_len (ls : List Tx) : ∀ (r : List Tx) (out : List Gr), (r.foldl (stepD ls) out).length ≤ out.length + r.length
  | [], out => Nat.le_refl _
  | s :: r, out => by
    rw [List.foldl_cons, List.length_cons]
    have := fold_len ls r (stepD ls out s)
    have := step_len ls out s
    omega
/-- What stands once a beginning of all rows is met. -/
def outAt (ls : List Tx) (k i x : Nat) : List Gr := (allW (ls.take i) k ++ (wins (ls.getD i []) k).take x).foldl (stepD ls) []
theorem out_zero (ls : List Tx) (k i : Nat) : outAt ls k i 0 = (allW (ls.take i) k).foldl (stepD ls) [] := by
  unfold outAt; rw [List.take_zero, List.append_nil]
theorem out_next {ls : List Tx} {k i x : Nat} (h : x < (ls.getD i []).length + 1 - k) : outAt ls k i (x + 1) = stepD ls (outAt ls k i x) (((ls.getD i []).drop x).take k) := by
  unfold outAt
  rw [wins_take _ _ _ h, ← List.append_assoc, List.foldl_append]; rfl
theorem out_row {ls : List Tx} {k i x : Nat} (hi : i < ls.length) (h : (ls.getD i []).length + 1 - k ≤ x) : outAt ls k i x = outAt ls k (i + 1) 0 := by
  rw [out_zero, allW_next k hi]
  unfold outAt
  rw [List.take_of_length_le (show (wins (ls.getD i []) k).length ≤ x by rw [wins_length]; exact h)]
theorem out_end (ls : List Tx) (k : Nat) : outAt ls k ls.length 0 = cntL ls k := by
  rw [out_zero, List.take_length]; rfl
theorem out_mem {ls : List Tx} (k : Nat) : ∀ i x (hi : i ≤ ls.length), IsCount (allW ls k) (allW (ls.take i) k ++ (wins (ls.getD i []) k).take x) (outAt ls k i x) := by
  intro i x hi
  have := fold_count ls k (allW (ls.take i) k ++ (wins (ls.getD i []) k).take x) [] [] (fun s hs => by
    rcases List.mem_append.1 hs with h | h
    · exact allW_len h
    · exact wins_len (List.mem_of_mem_take h)) ⟨List.Pairwise.nil, fun g => by simp⟩
  exact this
theorem out_bd {ls : List Tx} (hF : Few ls) (k i x : Nat) (hi : i ≤ ls.length) : (outAt ls k i x).length ≤ 1000 ∧ ∀ j, j < (outAt ls k i x).length → ((outAt ls k i x).getD j ([], 0)).2 ≤ 1000 := by
  constructor
  · have := fold_len ls (allW (ls.take i) k ++ (wins (ls.getD i []) k).take x) []
    have h2 := allW_take_few hF k i hi
    have h3 : (wins (ls.getD i []) k).length ≤ 61 := by
      rw [wins_length]
      by_cases h : i < ls.length
      · have := hF.short i h; omega
      · rw [List.getD_eq_getElem?_getD, List.getElem?_eq_none (by omega)]; simp; omega
    have := hF.few
    unfold outAt
    rw [List.length_append, List.length_take] at *
    simp only [List.length_nil] at *
    omega
  · intro j hj
    have hm : (outAt ls k i x).getD j ([], 0) ∈ outAt ls k i x := by
      rw [List.getD_eq_getElem?_getD, List.getElem?_eq_getElem hj]; exact List.getElem_mem hj
    have := (((out_mem k i x hi).2 _).1 hm).2
    rw [this]
    have h1 := List.count_le_length (a := ((outAt ls k i x).getD j ([], 0)).1) (l := allW ls k)
    have := allW_few hF k
    omega
theorem sl_win (S : Tx) (x K : Nat) (h : x + K ≤ S.length) (hS : S.length ≤ 100000) (W : World) : (Instr.slice 9 (.string (sT S)) (some (.int .i64 (x : Int))) (some (.int .i64 ((x : Int) + (K : Int)))) none).run Try.prog W = .ok (.string (sT ((S.drop x).take K))) W := by
  have := run_slice_string (P := Try.prog) W 9 (sT S) .i64 .i64 (x : Int) ((x : Int) + (K : Int)) Try.underlying9 (by omega) (by omega) (by rw [sT_size]; omega)
  rw [show ((x : Int) + (K : Int)).toNat = x + K by omega, Int.toNat_natCast, sT_cut, Nat.add_sub_cancel_left] at this
  exact this
theorem dCountNo (v : Value) (k : Int) (w : World) (hk : k < 1 ∨ 16 < k) : Calls Try.prog 11 #[v, .int .i64 k] w fun e w' => e = .returned (.slice none 0 0) ∧ Below w.heap.size w w' := by
  by_cases h1 : k < 1
  · clear hk
    go_enter Try.func11, Try.ntmps11
    go_wp2_with fail
    go_ret
    exact ⟨rfl, by go_grown⟩
  · have h2 : 16 < k := by omega
    clear hk
    go_enter Try.func11, Try.ntmps11
    go_wp2_with fail
    go_ret
    exact ⟨rfl, by go_grown⟩
set_option maxHeartbeats 3200000 in
theorem dCountG (a : Option Addr) (c : Nat) (ls : List Tx) (K : Nat) (w : World) (h : IsTs w a ls) (hF : Few ls) (h1 : 1 ≤ K) (h16 : K ≤ 16) :
    Calls Try.prog 11 #[.slice a ls.length c, .int .i64 K] w fun e w' => ∃ v, e = .returned v ∧ OwnG w.heap.size w' v (cntL ls K) ∧ Below w.heap.size w w' := by
  have HI := Lib.hid h
  have HF := Lib.hid hF
  have hl := hF.few
  have hk1 : ¬ (K : Int) < 1 := by omega
  have hk2 : ¬ (16 : Int) < (K : Int) := by omega
  clear h hF
  go_enter Try.func11, Try.ntmps11
  go_wp2_with fail
  go_loopw [5, 6] (fun v i wr => ∃ n : Nat, n ≤ ls.length ∧ i = .int .i64 n ∧ Hid (OwnG w.heap.size wr v (outAt ls K n 0)) ∧ Hid (Below w.heap.size w wr)) (fun _ i _ => ls.length - (intOf i).toNat)
  case atStart => exact ⟨0, Nat.zero_le _, rfl, Lib.hid (by show OwnS _ _ _ _ _ _ _; rw [out_zero, List.take_zero]; exact OwnS.nil), Lib.hid (Below.refl _ _)⟩
  case round =>
    obtain ⟨n, hn, rfl, ho, hb⟩ := hrel
    by_cases hlt : n < ls.length
    · have hni : (n : Int) < (ls.length : Int) := by omega
      have hn0 : (0 : Int) ≤ (n : Int) := by omega
      have HSH := Lib.hid (HF.out.short n hlt)
      clear hk1 hk2
      go_wp2_with fail
      go_loopw [5, 7] (fun v x wr => ∃ q : Nat, q ≤ 61 ∧ x = .int .i64 q ∧ Hid (OwnG w.heap.size wr v (outAt ls K n q)) ∧ Hid (Below w.heap.size w wr)) (fun _ x _ => 100 - (intOf x).toNat)
      case atStart => exact ⟨0, by omega, rfl, ho, hb⟩
      case round =>
        clear ho hb
        obtain ⟨q, hq61, rfl, ho, hb⟩ := hrel
        obtain ⟨x, rfl, -, cx⟩ := (HI.out.kept hb.out).at n hlt
        have hrow := @out_row ls K n q hlt
        have hnext := @out_next ls K n q
        obtain ⟨S, hS⟩ : ∃ S, ls.getD n [] = S := ⟨_, rfl⟩
        have hsh := HSH.out
        rw [hS] at cx hrow hnext hsh
        have hsz := sT_size S
        by_cases hq : q + K ≤ S.length
        · have hqd : decide ((q : Int) + (K : Int) ≤ (S.length : Int)) = true := decide_eq_true (by omega)
          have hqi : (q : Int) + (K : Int) ≤ (S.length : Int) := by omega
          have HQ := Lib.hid (show q + 1 ≤ 61 by omega)
          have hnx := hnext (by omega)
          have hsl := fun W => sl_win S q K hq (by omega) W
          obtain ⟨T, hT⟩ : ∃ T, (S.drop q).take K = T := ⟨_, rfl⟩
          rw [hT] at hnx hsl
          have hTl : T.length ≤ 16 := by rw [← hT, List.length_take]; omega
          have hbd := out_bd HF.out K n q (by omega)
          obtain ⟨va, vc, rfl, hvc, hgr⟩ := OwnG.gr ho.out
          have HGR := Lib.hid hgr
          obtain ⟨O, hO⟩ : ∃ O, outAt ls K n q = O := ⟨_, rfl⟩
          rw [hO] at hnx hbd HGR ho hvc ⊢
          have HBD := Lib.hid hbd
          have CM := Lib.hid (fun W (h : IsGr W va O) => dMet va vc O T W h (by omega))
          have hof : stepD ls O T = if metL O T = true then O else putL O (T, manyL ls T) := rfl
          obtain ⟨M, hM⟩ : ∃ M, metL O T = M := ⟨_, rfl⟩
          rw [hM] at CM hof
          rw [hof] at hnx
          have HNX := Lib.hid hnx
          have HVC := Lib.hid hvc
          have hszb := Lib.hid hb.out.size
          clear hnext hrow hS hT hO hM hof hnx hgr hbd hsh hvc hq
          go_wp2_with fail
          refine (CM.out _ HGR.out).mono ?_; rintro e w2 ⟨rfl, hb2⟩
          have HB2 := Lib.hid (hb.out.trans (hb2.mono hszb.out))
          have HO2 := Lib.hid (OwnS.kept ho.out hb2)
          have HGR2 := Lib.hid (HGR.out.kept hb2)
          clear hb2 CM HGR ho hb hszb
          cases M with
          | true =>
            rw [if_pos rfl] at HNX
            go_wp2_with fail
            go_roundw
            case rel => exact ⟨q + 1, by have := HQ.out; omega, by go_num, by rw [HNX.out]; exact HO2, HB2⟩
            case measure => simp [intOf]; omega
          | false =>
            rw [if_neg (by decide)] at HNX
            have CY := Lib.hid (fun W (h : IsTs W (some x) ls) => dMany (some x) c ls T W h HF.out (by omega))
            have hml : manyL ls T ≤ 732 := by
              have := many_few HF.out T ls.length (Nat.le_refl _)
              rw [List.take_length] at this; omega
            obtain ⟨MN, hMN⟩ : ∃ MN, manyL ls T = MN := ⟨_, rfl⟩
            rw [hMN] at CY hml HNX
            have CP := Lib.hid (fun W (h : IsGr W va O) => dPutG va vc O (T, MN) W h HVC.out (by have := HBD.out.1; omega) (fun i hi => by have := HBD.out.2 i hi; omega) (by show MN ≤ _; omega))
            clear hMN
            go_wp2_with fail
            refine (CY.out _ (HI.out.kept HB2.out)).mono ?_; rintro e w3 ⟨rfl, hb3⟩
            have HB3 := Lib.hid (HB2.out.trans (hb3.mono HB2.out.size))
            have HGR3 := Lib.hid (HGR2.out.kept hb3)
            clear hb3 HB2 HGR2 CY
            go_wp2_with fail
            refine (CP.out _ HGR3.out).mono ?_; rintro e w4 ⟨v4, rfl, ho4, hb4⟩
            have HB4 := Lib.hid (HB3.out.trans (hb4.mono HB3.out.size))
            have HO4 := Lib.hid (OwnS.base ho4 HB3.out.size)
            clear hb4 ho4 HB3 HGR3 CP
            go_wp2_with fail
            go_roundw
            case rel => exact ⟨q + 1, by have := HQ.out; omega, by go_num, by rw [HNX.out]; exact HO4, HB4⟩
            case measure => simp [intOf]; omega
        · have hqi : ¬ (q : Int) + (K : Int) ≤ (S.length : Int) := by omega
          have hqd : decide ((q : Int) + (K : Int) ≤ (S.length : Int)) = false := decide_eq_false hqi
          have hrw := hrow (by omega)
          have ho' := ho.out
          rw [hrw] at ho'
          have HO := Lib.hid ho'
          clear hrow hnext hS hrw ho ho' hq
          go_wp2_with fail
          go_roundw
          case rel => exact ⟨n + 1, by omega, by go_num, HO, hb⟩
          case measure => simp [intOf]; omega
    · obtain rfl : n = ls.length := by omega
      have hni : ¬ (ls.length : Int) < (ls.length : Int) := by omega
      have ho' := ho.out
      rw [out_end] at ho'
      have HO := Lib.hid ho'
      clear ho ho'
      go_wp2_with fail
      go_ret
      exact ⟨_, rfl, HO.out, hb.out⟩
end Go.Proofs.Ytdonecbcnkipbaa
