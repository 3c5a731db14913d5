/- Layer 51: contracts of Apply and Back. -/
import Derived.Test.YtmpmioffngonjaaDl
namespace Go.Proofs.Ytmpmioffngonjaa
open Go.ChangeShapes Go.WideShapes Go.ChangeAt Go.RowKit
set_option linter.unusedVariables false
set_option maxRecDepth 100000
open DeltaMath

def mix (f l : List UInt8) (k j : Nat) : UInt8 := if j < k then f.getD j 0 else l.getD j 0
theorem u8_sub (a b : UInt8) : ((a.toNat : Int) - b.toNat) % 256 = ((a - b).toNat : Int) := by
  have ha := a.toNat_lt; have hb := b.toNat_lt
  rw [UInt8.toNat_sub]; omega
theorem u8_add (a b : UInt8) : ((a.toNat : Int) + b.toNat) % 256 = ((a + b).toNat : Int) := by
  have ha := a.toNat_lt; have hb := b.toNat_lt
  rw [UInt8.toNat_add]; omega
theorem bytes_held (s : ByteArray) (w : World) : ∃ ROW N cap, (convert 9 82 (.string s)).run Try.prog w = .ok (.slice (some ⟨w.heap.size, 0, none⟩) s.size cap) (w.drew.alloc (.cells ROW 5 (N, N + 1))) ∧ Held (w.alloc (.cells ROW 5 (N, N + 1))) w.heap.size s.size (fun j => s.data.toList.getD j 0) :=
  ⟨_, _, _, run_bytes_of_string (P := Try.prog) w 9 82 5 s Try.underlying9 Try.underlying82 Try.underlying5, Held.new w s _⟩
theorem dApplyOut (s : ByteArray) (d : Int) (h : d < 1 ∨ 256 < d) (w : World) : Calls Try.prog 55 #[.string s, .int .i64 d] w fun e w' => e = .returned (.tuple #[.string ⟨#[]⟩, .int .i64 1]) ∧ w' = w := by
  rcases h with h | h
  · go_enter Try.func55, Try.ntmps55
    go_wp2
    go_ret2
    exact ⟨rfl, rfl⟩
  · have h' : ¬ d < 1 := by omega
    go_enter Try.func55, Try.ntmps55
    go_wp2
    go_ret2
    exact ⟨rfl, rfl⟩
set_option maxHeartbeats 1600000 in
theorem dApply (s : ByteArray) (hs : s.size ≤ 3000) (d : Nat) (h1 : 1 ≤ d) (h2 : d ≤ 256) (w : World) :
    Calls Try.prog 55 #[.string s, .int .i64 d] w fun e w' => e = .returned (.tuple #[.string ⟨(diffTo s.data.toList d s.size).toArray⟩, .int .i64 0]) ∧ Below w.heap.size w w' := by
  obtain ⟨ROW, N, cap, hcv, hH⟩ := bytes_held s w
  have HS := Lib.hid (show Held (w.alloc (.cells ROW 5 (N, N + 1))).drew w.heap.size s.size (mix (diffTo s.data.toList d s.size) s.data.toList d) from hH.congr (fun j hj => by
    unfold mix
    by_cases h : j < d
    · rw [if_pos h, diffTo_get _ _ _ _ hj, if_neg (by omega)]
    · rw [if_neg h]))
  clear hH
  go_enter Try.func55, Try.ntmps55
  go_wp2
  go_loopw [7] (fun i wr => ∃ k : Nat, d ≤ k ∧ (k ≤ s.size ∨ k = d) ∧ i = .int .i64 k ∧ Held wr w.heap.size s.size (mix (diffTo s.data.toList d s.size) s.data.toList k) ∧ Below w.heap.size w wr) (fun i _ => s.size - (intOf i).toNat)
  case atStart => exact ⟨d, Nat.le_refl _, .inr rfl, rfl, HS.out, by go_grown⟩
  case round =>
    obtain ⟨k, hk1, hk2, rfl, hH, hb⟩ := hrel
    by_cases hlt : k < s.size
    · have c1 := hH.cell hlt
      have f1 := hH.free hlt
      have HH := Lib.hid hH
      have HB := Lib.hid hb
      have hi : ((k : Int) - d).toNat = k - d := by omega
      have hw : IntKind.i64.wrap ((k : Int) - d) = (k : Int) - d := IntWalk.i64_in _ (by omega)
      have g0 : (0 : Int) ≤ (k : Int) - d := by omega
      have g1 : (k : Int) - d < (s.size : Int) := by omega
      have HG := Lib.hid (s_get s k hlt)
      have HG2 := Lib.hid (s_get s (k - d) (by omega))
      clear hH hb
      go_wp2
      go_region
      go_wp2
      go_roundw
      case rel =>
        refine ⟨k + 1, by omega, .inl (by omega), by go_num, HH.out.set hlt _ ?_ ?_, (HB.out.setCell (by simp) _).drew⟩
        · unfold mix
          rw [if_pos (by omega), diffTo_get _ _ _ _ hlt, if_pos hk1, HG.out, HG2.out, u8_sub]
        · intro j hj hne
          unfold mix
          by_cases h : j < k
          · rw [if_pos h, if_pos (by omega)]
          · rw [if_neg h, if_neg (by omega)]
      case measure => simp [intOf]; omega
    · have hcv2 := hH.conv (P := Try.prog) (cap := cap) (src := 82) (dst := 9) (l := diffTo s.data.toList d s.size) Try.underlying82 Try.underlying5 Try.underlying9 (diffTo_length _ _ _) (fun j hj => by unfold mix; rw [if_pos (by omega)])
      go_wp2
      go_ret2
      exact ⟨rfl, hb⟩
theorem dBackOut (s : ByteArray) (d : Int) (h : d < 1 ∨ 256 < d) (w : World) : Calls Try.prog 57 #[.string s, .int .i64 d] w fun e w' => e = .returned (.tuple #[.string ⟨#[]⟩, .int .i64 1]) ∧ w' = w := by
  rcases h with h | h
  · go_enter Try.func57, Try.ntmps57
    go_wp2
    go_ret2
    exact ⟨rfl, rfl⟩
  · have h' : ¬ d < 1 := by omega
    go_enter Try.func57, Try.ntmps57
    go_wp2
    go_ret2
    exact ⟨rfl, rfl⟩
set_option maxHeartbeats 1600000 in
theorem dBack (s : ByteArray) (hs : s.size ≤ 3000) (d : Nat) (h1 : 1 ≤ d) (h2 : d ≤ 256) (w : World) :
    Calls Try.prog 57 #[.string s, .int .i64 d] w fun e w' => e = .returned (.tuple #[.string ⟨(sumTo s.data.toList d s.size).toArray⟩, .int .i64 0]) ∧ Below w.heap.size w w' := by
  obtain ⟨ROW, N, cap, hcv, hH⟩ := bytes_held s w
  have HS := Lib.hid (show Held (w.alloc (.cells ROW 5 (N, N + 1))).drew w.heap.size s.size (mix (sumTo s.data.toList d s.size) s.data.toList d) from hH.congr (fun j hj => by
    unfold mix
    by_cases h : j < d
    · rw [if_pos h, sumTo_get _ _ _ _ hj (by omega), if_neg (by omega)]
    · rw [if_neg h]))
  clear hH
  go_enter Try.func57, Try.ntmps57
  go_wp2
  go_loopw [7] (fun i wr => ∃ k : Nat, d ≤ k ∧ (k ≤ s.size ∨ k = d) ∧ i = .int .i64 k ∧ Held wr w.heap.size s.size (mix (sumTo s.data.toList d s.size) s.data.toList k) ∧ Below w.heap.size w wr) (fun i _ => s.size - (intOf i).toNat)
  case atStart => exact ⟨d, Nat.le_refl _, .inr rfl, rfl, HS.out, by go_grown⟩
  case round =>
    obtain ⟨k, hk1, hk2, rfl, hH, hb⟩ := hrel
    by_cases hlt : k < s.size
    · have c1 := hH.cell hlt
      have c2 := hH.cell (j := k - d) (by omega)
      obtain ⟨A, hA⟩ : ∃ A, mix (sumTo s.data.toList d s.size) s.data.toList k k = A := ⟨_, rfl⟩
      obtain ⟨B, hB⟩ : ∃ B, mix (sumTo s.data.toList d s.size) s.data.toList k (k - d) = B := ⟨_, rfl⟩
      have hA2 := hA; have hB2 := hB
      unfold mix at hA2 hB2
      rw [if_neg (by omega)] at hA2
      rw [if_pos (by omega)] at hB2
      rw [hA] at c1
      rw [hB] at c2
      have HA := Lib.hid hA2; have HB2 := Lib.hid hB2
      clear hA hB hA2 hB2
      have hA8 := A.toNat_lt; have hB8 := B.toNat_lt
      have f1 := hH.free hlt
      have HH := Lib.hid hH
      have HB := Lib.hid hb
      have hi : ((k : Int) - d).toNat = k - d := by omega
      have hw : IntKind.i64.wrap ((k : Int) - d) = (k : Int) - d := IntWalk.i64_in _ (by omega)
      have g0 : (0 : Int) ≤ (k : Int) - d := by omega
      have g1 : (k : Int) - d < (s.size : Int) := by omega
      clear hH hb
      go_wp2
      go_region
      go_wp2
      go_roundw
      case rel =>
        refine ⟨k + 1, by omega, .inl (by omega), by go_num, HH.out.set hlt _ ?_ ?_, (HB.out.setCell (by simp) _).drew⟩
        · unfold mix
          rw [if_pos (by omega), sumTo_get _ _ _ _ hlt (by omega), if_pos hk1, HA.out, HB2.out, u8_add]
        · intro j hj hne
          unfold mix
          by_cases h : j < k
          · rw [if_pos h, if_pos (by omega)]
          · rw [if_neg h, if_neg (by omega)]
      case measure => simp [intOf]; omega
    · have hcv2 := hH.conv (P := Try.prog) (cap := cap) (src := 82) (dst := 9) (l := sumTo s.data.toList d s.size) Try.underlying82 Try.underlying5 Try.underlying9 (sumTo_length _ _ _) (fun j hj => by unfold mix; rw [if_pos (by omega)])
      go_wp2
      go_ret2
      exact ⟨rfl, hb⟩
end Go.Proofs.Ytmpmioffngonjaa
