/- Layer 51: contracts of noughts and Apply, of the program and of the document. -/
import Derived.Test.YtmpmioffngonjaaDm
import Derived.Test.YtmpmioffngonjaaSt
import Derived.IntWalk
namespace Go.Proofs.Ytmpmioffngonjaa
open Go.ChangeShapes Go.WideShapes Go.ChangeAt Go.RowKit
set_option linter.unusedVariables false
set_option maxRecDepth 100000
open DeltaMath

theorem info_parts' {P : Program} {T : TypeId} {z : Value} {s b : Nat} (h : (P.info? T).map (fun i => (i.zero, i.size, i.bytes)) = some (some z, s, b)) : ∃ i, P.info? T = some i ∧ i.zero = some z ∧ i.size = s ∧ i.bytes = b := by
  rcases hq : P.info? T with _ | i
  · rw [hq] at h; simp at h
  · rw [hq] at h; simp at h; exact ⟨i, rfl, h.1, h.2.1, h.2.2⟩
theorem infoB : (Try.prog.info? 5).map (fun i => (i.zero, i.size, i.bytes)) = some (some (.int .u8 0), 1, 1) := by kernel_rfl
def lk (l : List UInt8) (d k : Nat) : Nat := if d = 0 then noughts (l.take k) else noughts (diffTo l d k)
theorem take_get (l : List UInt8) (k : Nat) (h : k < l.length) : l.take (k + 1) = l.take k ++ [l.getD k 0] := by
  rw [List.take_succ_eq_append_getElem h]; simp [List.getD_eq_getElem?_getD, h]
theorem lk_zero (l : List UInt8) (d : Nat) : lk l d 0 = 0 := by unfold lk; split <;> simp [noughts, diffTo]
theorem lk_le (l : List UInt8) (d k : Nat) : lk l d k ≤ k := by
  unfold lk; split
  · exact Nat.le_trans (noughts_le _) (List.length_take_le _ _)
  · have := noughts_le (diffTo l d k); rwa [diffTo_length] at this
theorem lk_end (l : List UInt8) (d k : Nat) (h : k = l.length) : lk l d k = left l d := by
  subst h; unfold lk left; split <;> simp
theorem lk_plain (l : List UInt8) (d k : Nat) (h : d = 0 ∨ k < d) (hk : k < l.length) : lk l d (k + 1) = lk l d k + if (l.getD k 0).toNat = 0 then 1 else 0 := by
  unfold lk
  by_cases hd : d = 0
  · rw [if_pos hd, if_pos hd, take_get l k hk, noughts_snoc]
  · rw [if_neg hd, if_neg hd]; simp only [diffTo]; rw [if_neg (by omega), noughts_snoc]
theorem sub_zero (a b : UInt8) : (a - b).toNat = 0 ↔ a.toNat = b.toNat := by
  have ha := a.toNat_lt; have hb := b.toNat_lt
  rw [UInt8.toNat_sub]; omega
theorem lk_diff (l : List UInt8) (d k : Nat) (h : 0 < d) (h2 : d ≤ k) : lk l d (k + 1) = lk l d k + if (l.getD k 0).toNat = (l.getD (k - d) 0).toNat then 1 else 0 := by
  unfold lk
  rw [if_neg (by omega), if_neg (by omega)]; simp only [diffTo]; rw [if_pos h2, noughts_snoc]
  simp only [sub_zero]

set_option maxHeartbeats 800000 in
theorem dNought (s : ByteArray) (hs : s.size ≤ 3000) (d : Nat) (hd : d ≤ 256) (w : World) :
    Calls Try.prog 74 #[.string s, .int .i64 d] w fun e w' => e = .returned (.int .i64 (left s.data.toList d)) ∧ ∃ n, w' = w.drewN n := by
  go_enter Try.func74, Try.ntmps74
  go_wp2
  go_loopw [5, 9] (fun n i wr => ∃ k m : Nat, k ≤ s.size ∧ i = .int .i64 k ∧ n = .int .i64 m ∧ m ≤ k ∧ lk s.data.toList d k = m ∧ ∃ q, wr = w.drewN q) (fun _ i _ => s.size - (intOf i).toNat)
  case atStart => exact ⟨0, 0, Nat.zero_le _, rfl, rfl, Nat.le_refl _, lk_zero _ _, 0, rfl⟩
  case round =>
    obtain ⟨k, m, hk, rfl, rfl, hm, hL, q, rfl⟩ := hrel
    have HL := Lib.hid hL; clear hL
    by_cases hlt : k < s.size
    · by_cases hp : d = 0 ∨ k < d
      · have HS := Lib.hid (lk_plain s.data.toList d k hp (by simpa using hlt))
        have HG := Lib.hid (s_get s k hlt)
        have hg : (decide ((0 : Int) < d) && decide ((d : Int) ≤ k)) = false := by rw [Bool.and_eq_false_iff, decide_eq_false_iff_not, decide_eq_false_iff_not]; omega
        by_cases hz : s[k].toNat = 0
        · have hz' : ((s[k].toNat : Int) == 0) = true := by simp [hz]
          have HZ := Lib.hid hz; clear hz
          by_cases hd0 : d = 0
          · subst hd0
            go_wp2
            all_goals go_roundw
            case rel => exact ⟨k + 1, m + 1, by omega, by go_num, by go_num, by omega, by rw [HS.out, HL.out, HG.out, if_pos HZ.out], _, rfl⟩
            case measure => simp [intOf]; omega
          · have hkd : k < d := by omega
            clear hp hg
            go_wp2
            all_goals go_roundw
            case rel => exact ⟨k + 1, m + 1, by omega, by go_num, by go_num, by omega, by rw [HS.out, HL.out, HG.out, if_pos HZ.out], _, rfl⟩
            case measure => simp [intOf]; omega
        · have hz' : ((s[k].toNat : Int) == 0) = false := by rw [beq_eq_false_iff_ne]; omega
          have HZ := Lib.hid hz; clear hz
          by_cases hd0 : d = 0
          · subst hd0
            go_wp2
            all_goals go_roundw
            case rel => exact ⟨k + 1, m, by omega, by go_num, by go_num, by omega, by rw [HS.out, HL.out, HG.out, if_neg HZ.out]; rfl, _, rfl⟩
            case measure => simp [intOf]; omega
          · have hkd : k < d := by omega
            clear hp hg
            go_wp2
            all_goals go_roundw
            case rel => exact ⟨k + 1, m, by omega, by go_num, by go_num, by omega, by rw [HS.out, HL.out, HG.out, if_neg HZ.out]; rfl, _, rfl⟩
            case measure => simp [intOf]; omega
      · have hd0 : 0 < d := by omega
        have hdk : d ≤ k := by omega
        clear hp
        have HS := Lib.hid (lk_diff s.data.toList d k hd0 hdk)
        have HG := Lib.hid (s_get s k hlt)
        have HG2 := Lib.hid (s_get s (k - d) (by omega))
        have hkd : k - d < s.size := by omega
        have hi : ((k : Int) - d).toNat = k - d := by omega
        have hw : IntKind.i64.wrap ((k : Int) - d) = (k : Int) - d := IntWalk.i64_in _ (by have : s.size ≤ 3000 := hs; omega)
        have h0 : (0 : Int) ≤ (k : Int) - d := by omega
        have h1 : (k : Int) - d < (s.size : Int) := by omega
        by_cases hz : s[k].toNat = s[k - d].toNat
        · have hz' : ((s[k].toNat : Int) == (s[k - d].toNat : Int)) = true := by simp [hz]
          have HZ := Lib.hid hz; clear hz
          go_wp2
          go_region
          all_goals go_wp2
          all_goals go_roundw
          case rel => exact ⟨k + 1, m + 1, by omega, by go_num, by go_num, by omega, by rw [HS.out, HL.out, HG.out, HG2.out, if_pos HZ.out], _, rfl⟩
          case measure => simp [intOf]; omega
        · have hz' : ((s[k].toNat : Int) == (s[k - d].toNat : Int)) = false := by rw [beq_eq_false_iff_ne]; omega
          have HZ := Lib.hid hz; clear hz
          go_wp2
          go_region
          all_goals go_wp2
          all_goals go_roundw
          case rel => exact ⟨k + 1, m, by omega, by go_num, by go_num, by omega, by rw [HS.out, HL.out, HG.out, HG2.out, if_neg HZ.out]; rfl, _, rfl⟩
          case measure => simp [intOf]; omega
    · have HE := Lib.hid (lk_end s.data.toList d k (by simp; omega))
      go_wp2
      go_ret
      exact ⟨ret_i (by rw [← HE.out, HL.out]), _, rfl⟩
end Go.Proofs.Ytmpmioffngonjaa
