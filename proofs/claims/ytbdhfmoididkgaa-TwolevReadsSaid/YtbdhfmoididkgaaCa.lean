/- Layer 8: the contract of the document's Order. -/
import Derived.Test.YtbdhfmoididkgaaKt
import Derived.Test.YtbdhfmoididkgaaK2
namespace Go.Proofs.Ytbdhfmoididkgaa
open Go.ChangeShapes Go.WideShapes Go.ChangeAt Go.RowKit
set_option linter.unusedVariables false
set_option maxRecDepth 100000
open KraftMath
def pickTo (l : List Int) (n : Int) : Nat → List Int
  | 0 => []
  | k + 1 => if l.getD k 0 = n then pickTo l n k ++ [(k : Int)] else pickTo l n k
def ordTo (l : List Int) : Nat → List Int
  | 0 => []
  | n + 1 => ordTo l n ++ pickTo l ((n : Int) + 1) l.length
def orderL (l : List Int) : List Int := if check l 16 = 0 then ordTo l 16 else []
theorem pickTo_len (l : List Int) (n : Int) (k : Nat) : (pickTo l n k).length ≤ k := by
  induction k with
  | zero => simp [pickTo]
  | succ k ih => simp only [pickTo]; split <;> first | (simp; omega) | omega
theorem ordTo_len (l : List Int) (n : Nat) : (ordTo l n).length ≤ n * l.length := by
  induction n with
  | zero => simp [ordTo]
  | succ n ih =>
    simp only [ordTo, List.length_append]
    have := pickTo_len l ((n : Int) + 1) l.length
    rw [Nat.add_mul]; omega
set_option maxHeartbeats 1600000 in
theorem rOrder (a : Option Addr) (c : Nat) (l : List Int) (w : World) (h : IsInts w a l) (hl : l.length ≤ 1100) : Calls Try.prog 22 #[.slice a l.length c] w fun e w' => ∃ v', e = .returned v' ∧ OwnI w.heap.size w' v' (orderL l) ∧ Below w.heap.size w w' := by
  obtain ⟨i0, hi, hz0, hz1, hz2⟩ := info_get info_int
  have C := rCheck_any a c 16 l w h
  have HI := Lib.hid h
  clear h
  by_cases hE : check l 16 = 0
  · have HO := Lib.hid (show orderL l = ordTo l 16 by unfold orderL; rw [if_pos hE])
    rw [hE] at C
    have C := Lib.hid C
    clear hE
    go_enter Try.func22, Try.ntmps22
    go_wp2_with fail
    refine C.out.mono ?_; rintro e w1 ⟨rfl, rfl⟩
    go_wp2_with fail
    go_loopw [3, 4] (fun u i wr => ∃ n : Nat, n ≤ 16 ∧ i = .int .i64 ((n : Int) + 1) ∧ wr.ownsRow w1.heap.size 3 1 u (ordTo l n).length (intCells (ordTo l n)) ∧ Below w1.heap.size w1 wr) (fun _ i _ => 17 - (intOf i).toNat)
    case atStart => exact ⟨0, by omega, rfl, World.ownsRow_nil _ _ _ _, Below.refl _ _⟩
    case round =>
      obtain ⟨n, hn, rfl, hown, hb⟩ := hrel
      have hol := ordTo_len l n
      have hol2 : n * l.length ≤ 16 * 1100 := Nat.mul_le_mul hn hl
      by_cases hlt : n < 16
      · have hb16 : (n : Int) + 1 ≤ 16 := by omega
        have hd16 : decide ((n : Int) + 1 ≤ 16) = true := by simpa using hb16
        go_wp2
        clear hd16
        obtain ⟨wo, rfl⟩ : ∃ wo : World, wo = wr := ⟨_, rfl⟩
        go_loopw [3, 5] (fun u i wr => ∃ k : Nat, k ≤ l.length ∧ i = .int .i64 k ∧ wr.ownsRow w1.heap.size 3 1 u (ordTo l n ++ pickTo l ((n : Int) + 1) k).length (intCells (ordTo l n ++ pickTo l ((n : Int) + 1) k)) ∧ Below w1.heap.size w1 wr) (fun _ i _ => l.length - (intOf i).toNat)
        case atStart => exact ⟨0, Nat.zero_le _, rfl, by simpa [pickTo] using hown, hb⟩
        case round =>
          clear hown hb
          obtain ⟨k, hk, rfl, hown, hb⟩ := hrel
          have hbs := hb.size
          have hpl := pickTo_len l ((n : Int) + 1) k
          have hxy : (ordTo l n ++ pickTo l ((n : Int) + 1) k).length ≤ 20000 := by rw [List.length_append]; omega
          by_cases hlk : k < l.length
          · obtain ⟨x, rfl, hxb, hx⟩ := HI.out.at k hlk
            have cx := hx k hlk
            have cx : wr.cell? (x.add k) = some (.int .i64 (l.getD k 0)) := by rw [hb.cell (by rw [add_block]; exact hxb)]; exact cx
            have hp : pickTo l ((n : Int) + 1) (k + 1) = if l.getD k 0 = (n : Int) + 1 then pickTo l ((n : Int) + 1) k ++ [(k : Int)] else pickTo l ((n : Int) + 1) k := rfl
            obtain ⟨X, hX⟩ : ∃ X, l.getD k 0 = X := ⟨_, rfl⟩
            rw [hX] at cx hp
            clear hX hx
            by_cases hXn : X = (n : Int) + 1
            · have HP := Lib.hid (show ordTo l n ++ pickTo l ((n : Int) + 1) k ++ [(k : Int)] = ordTo l n ++ pickTo l ((n : Int) + 1) (k + 1) by rw [hp, if_pos hXn, List.append_assoc])
              subst hXn
              clear hp
              go_wp2_with (at_builtin; refine wpList_append_own _ rfl _ _ 22 rfl w1.heap.size 3 i0 (.int .i64 0) 1 8 Try.underlying22 hi hz0 hz1 hz2 rfl (by decide) _ _ _ rfl (hown.alloc _) ⟨wr.heap.size, 0, none⟩ 1 1 [Value.int .i64 (k : Int)] rfl rfl ?d1 ?d2 ?d3 ?d4 ?d5 ?_)
              case d1 => exact int_new1 _ _ _ _ rfl
              case d2 => exact int_one _
              case d3 => unfold maxLen; omega
              case d4 => omega
              case d5 => simp; omega
              intro v4 w4 hown4 hgrow4 _
              have hb5 : Below w1.heap.size w1 w4 := (hb.alloc (by omega) _).grown hgrow4 (by simp; omega) (fun k hk => (hown.lt k hk).1)
              clear hgrow4 hown hb
              rw [intCells_snoc, HP.out] at hown4
              have HO4 := Lib.hid hown4
              clear hown4
              go_wp2
              go_roundw
              case rel => exact ⟨k + 1, by omega, by go_num, by have e := own_len HO4.out; rw [← e]; exact HO4.out, hb5⟩
              case measure => simp [intOf]; omega
            · have HP := Lib.hid (show ordTo l n ++ pickTo l ((n : Int) + 1) (k + 1) = ordTo l n ++ pickTo l ((n : Int) + 1) k by rw [hp, if_neg hXn])
              have e1 : (X == (n : Int) + 1) = false := by rw [beq_eq_false_iff_ne]; exact hXn
              have HO4 := Lib.hid hown
              clear hp hXn hown
              go_wp2
              go_roundw
              case rel => exact ⟨k + 1, by omega, by go_num, by rw [HP.out]; exact HO4.out, hb⟩
              case measure => simp [intOf]; omega
          · have hkl : k = l.length := by omega
            have HO4 := Lib.hid (show wr.ownsRow w1.heap.size 3 1 _ (ordTo l (n + 1)).length (intCells (ordTo l (n + 1))) by rw [hkl] at hown; exact hown)
            clear hown hkl
            go_wp2
            go_roundw
            case rel => exact ⟨n + 1, by omega, by go_num, HO4.out, hb⟩
            case measure => simp [intOf]; omega
      · have hn16 : n = 16 := by omega
        have HV := Lib.hid (own_OwnI hown)
        rw [hn16] at HV
        clear hown
        subst hn16
        go_wp2
        go_ret
        exact ⟨_, rfl, by rw [HO.out]; exact HV.out, hb⟩
  · have HO := Lib.hid (show orderL l = [] by unfold orderL; rw [if_neg hE])
    obtain ⟨E, hEE⟩ : ∃ E, check l 16 = E := ⟨_, rfl⟩
    rw [hEE] at C hE
    have C := Lib.hid C
    have e1 : (E == 0) = false := by rw [beq_eq_false_iff_ne]; exact hE
    have e2 : (E != 0) = true := by rw [bne, e1]; rfl
    clear hE hEE
    go_enter Try.func22, Try.ntmps22
    go_wp2_with fail
    refine C.out.mono ?_; rintro e w1 ⟨rfl, rfl⟩
    go_wp2_with fail
    go_ret
    exact ⟨_, rfl, by rw [HO.out]; exact OwnS.nil, Below.refl _ _⟩
end Go.Proofs.Ytbdhfmoididkgaa
