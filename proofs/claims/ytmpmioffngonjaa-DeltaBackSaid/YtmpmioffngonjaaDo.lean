/- Layer 51: contracts of the document's Apply and Back. -/
import Derived.Test.YtmpmioffngonjaaDn
namespace Go.Proofs.Ytmpmioffngonjaa
open Go.ChangeShapes Go.WideShapes Go.ChangeAt Go.RowKit
set_option linter.unusedVariables false
set_option maxRecDepth 100000
open DeltaMath

theorem rApplyOut (s : ByteArray) (d : Int) (h : d < 1 ∨ 256 < d) (w : World) : Calls Try.prog 56 #[.string s, .int .i64 d] w fun e w' => e = .returned (.tuple #[.string ⟨#[]⟩, .int .i64 1]) ∧ w' = w := by
  rcases h with h | h
  · go_enter Try.func56, Try.ntmps56
    go_wp2
    go_ret2
    exact ⟨rfl, rfl⟩
  · have h' : ¬ d < 1 := by omega
    go_enter Try.func56, Try.ntmps56
    go_wp2
    go_ret2
    exact ⟨rfl, rfl⟩
theorem byte_new1 (w : World) (x : Int) (g : Nat) (hg : g = w.heap.size) : ∀ j u, [Value.int .u8 x][j]? = some u → (w.alloc (.cells #[.int .u8 x] 5)).cell? ((⟨g, 0, none⟩ : Addr).add j) = some u := cell_new1 w _ 5 g hg
theorem byte_one (x : Int) : ∀ u ∈ [Value.int .u8 x], u.oneCell' = true := by intro u hu; simp at hu; subst hu; rfl
theorem diff_snoc1 (l : List UInt8) (d k : Nat) (h : k < d) : diffTo l d k ++ [l.getD k 0] = diffTo l d (k + 1) := by simp only [diffTo]; rw [if_neg (by omega)]
theorem diff_snoc2 (l : List UInt8) (d k : Nat) (h : d ≤ k) : diffTo l d k ++ [l.getD k 0 - l.getD (k - d) 0] = diffTo l d (k + 1) := by simp only [diffTo]; rw [if_pos h]
theorem sum_snoc1 (l : List UInt8) (d k : Nat) (h : k < d) : sumTo l d k ++ [l.getD k 0] = sumTo l d (k + 1) := by simp only [sumTo]; rw [if_neg (by omega)]
theorem sum_snoc2 (l : List UInt8) (d k : Nat) (h : d ≤ k) : sumTo l d k ++ [l.getD k 0 + (sumTo l d k).getD (k - d) 0] = sumTo l d (k + 1) := by simp only [sumTo]; rw [if_pos h]
set_option maxHeartbeats 1600000 in
theorem rApply (s : ByteArray) (hs : s.size ≤ 3000) (d : Nat) (h1 : 1 ≤ d) (h2 : d ≤ 256) (w : World) :
    Calls Try.prog 56 #[.string s, .int .i64 d] w fun e w' => e = .returned (.tuple #[.string ⟨(diffTo s.data.toList d s.size).toArray⟩, .int .i64 0]) ∧ Below w.heap.size w w' := by
  obtain ⟨i0, hi, hz0, hz1, hz2⟩ := info_parts' infoB
  go_enter Try.func56, Try.ntmps56
  go_wp2
  go_loopw [6, 7] (fun v i wr => ∃ k : Nat, k ≤ s.size ∧ i = .int .i64 k ∧ wr.ownsRow w.heap.size 5 1 v k (byteCells (diffTo s.data.toList d k)) ∧ Below w.heap.size w wr) (fun _ i _ => s.size - (intOf i).toNat)
  case atStart => exact ⟨0, Nat.zero_le _, rfl, World.ownsRow_nil _ _ _ _, Below.refl _ _⟩
  case round =>
    obtain ⟨k, hk, rfl, hown, hb⟩ := hrel
    by_cases hlt : k < s.size
    · have HG := Lib.hid (s_get s k hlt)
      have hbs := hb.size
      have hc : s[k].toNat < 256 := s[k].toNat_lt
      by_cases hd : k < d
      · go_wp2_with (at_builtin; refine wpList_append_own _ rfl _ _ 82 rfl w.heap.size 5 i0 (.int .u8 0) 1 1 Try.underlying82 hi hz0 hz1 hz2 rfl (by decide) _ _ _ rfl (hown.alloc _) ⟨wr.heap.size, 0, none⟩ 1 1 [Value.int .u8 (s[k].toNat : Int)] rfl rfl ?d1 ?d2 ?d3 ?d4 ?d5 ?_)
        case d1 => exact byte_new1 _ _ _ rfl
        case d2 => exact byte_one _
        case d3 => unfold maxLen; omega
        case d4 => omega
        case d5 => simp; omega
        intro v1 w1 hown1 hgrow1 _
        have hb1 : Below w.heap.size w w1 := (hb.alloc hbs _).grown hgrow1 (by simp; omega) (fun k hk => (hown.lt k hk).1)
        clear hgrow1 hown hb
        rw [← HG.out, ← byteCells_snoc, diff_snoc1 _ _ _ hd] at hown1
        go_wp2
        go_roundw
        case rel => exact ⟨k + 1, by omega, by go_num, hown1, hb1⟩
        case measure => simp [intOf]; omega
      · have hi' : ((k : Int) - d).toNat = k - d := by omega
        have g0 : (0 : Int) ≤ (k : Int) - d := by omega
        have g1 : (k : Int) - d < (s.size : Int) := by omega
        have HG2 := Lib.hid (s_get s (k - d) (by omega))
        go_wp2_with (at_builtin; refine wpList_append_own _ rfl _ _ 82 rfl w.heap.size 5 i0 (.int .u8 0) 1 1 Try.underlying82 hi hz0 hz1 hz2 rfl (by decide) _ _ _ rfl (hown.alloc _) ⟨wr.heap.size, 0, none⟩ 1 1 [Value.int .u8 (((s[k].toNat : Int) - (s[k - d].toNat : Int)) % 256)] rfl rfl ?c1 ?c2 ?c3 ?c4 ?c5 ?_)
        case c1 => exact byte_new1 _ _ _ rfl
        case c2 => exact byte_one _
        case c3 => unfold maxLen; omega
        case c4 => omega
        case c5 => simp; omega
        intro v1 w1 hown1 hgrow1 _
        have hb1 : Below w.heap.size w w1 := (hb.alloc hbs _).grown hgrow1 (by simp; omega) (fun k hk => (hown.lt k hk).1)
        clear hgrow1 hown hb
        rw [u8_sub, ← HG.out, ← HG2.out, ← byteCells_snoc, diff_snoc2 _ _ _ (by omega)] at hown1
        go_wp2
        go_roundw
        case rel => exact ⟨k + 1, by omega, by go_num, hown1, hb1⟩
        case measure => simp [intOf]; omega
    · obtain rfl : k = s.size := by omega
      have hcv := conv_own (P := Try.prog) (src := 82) (dst := 9) Try.underlying82 Try.underlying5 Try.underlying9 hown
      go_wp2
      go_ret2
      exact ⟨rfl, hb⟩
theorem rBackOut (s : ByteArray) (d : Int) (h : d < 1 ∨ 256 < d) (w : World) : Calls Try.prog 58 #[.string s, .int .i64 d] w fun e w' => e = .returned (.tuple #[.string ⟨#[]⟩, .int .i64 1]) ∧ w' = w := by
  rcases h with h | h
  · go_enter Try.func58, Try.ntmps58
    go_wp2
    go_ret2
    exact ⟨rfl, rfl⟩
  · have h' : ¬ d < 1 := by omega
    go_enter Try.func58, Try.ntmps58
    go_wp2
    go_ret2
    exact ⟨rfl, rfl⟩
set_option maxHeartbeats 1600000 in
theorem rBack (s : ByteArray) (hs : s.size ≤ 3000) (d : Nat) (h1 : 1 ≤ d) (h2 : d ≤ 256) (w : World) :
    Calls Try.prog 58 #[.string s, .int .i64 d] w fun e w' => e = .returned (.tuple #[.string ⟨(sumTo s.data.toList d s.size).toArray⟩, .int .i64 0]) ∧ Below w.heap.size w w' := by
  obtain ⟨i0, hi, hz0, hz1, hz2⟩ := info_parts' infoB
  go_enter Try.func58, Try.ntmps58
  go_wp2
  go_loopw [6, 7] (fun v i wr => ∃ k : Nat, k ≤ s.size ∧ i = .int .i64 k ∧ wr.ownsRow w.heap.size 5 1 v k (byteCells (sumTo s.data.toList d k)) ∧ Below w.heap.size w wr) (fun _ i _ => s.size - (intOf i).toNat)
  case atStart => exact ⟨0, Nat.zero_le _, rfl, World.ownsRow_nil _ _ _ _, Below.refl _ _⟩
  case round =>
    obtain ⟨k, hk, rfl, hown, hb⟩ := hrel
    by_cases hlt : k < s.size
    · have HG := Lib.hid (s_get s k hlt)
      have hbs := hb.size
      have hc : s[k].toNat < 256 := s[k].toNat_lt
      by_cases hd : k < d
      · go_wp2_with (at_builtin; refine wpList_append_own _ rfl _ _ 82 rfl w.heap.size 5 i0 (.int .u8 0) 1 1 Try.underlying82 hi hz0 hz1 hz2 rfl (by decide) _ _ _ rfl (hown.alloc _) ⟨wr.heap.size, 0, none⟩ 1 1 [Value.int .u8 (s[k].toNat : Int)] rfl rfl ?d1 ?d2 ?d3 ?d4 ?d5 ?_)
        case d1 => exact byte_new1 _ _ _ rfl
        case d2 => exact byte_one _
        case d3 => unfold maxLen; omega
        case d4 => omega
        case d5 => simp; omega
        intro v1 w1 hown1 hgrow1 _
        have hb1 : Below w.heap.size w w1 := (hb.alloc hbs _).grown hgrow1 (by simp; omega) (fun k hk => (hown.lt k hk).1)
        clear hgrow1 hown hb
        rw [← HG.out, ← byteCells_snoc, sum_snoc1 _ _ _ hd] at hown1
        go_wp2
        go_roundw
        case rel => exact ⟨k + 1, by omega, by go_num, hown1, hb1⟩
        case measure => simp [intOf]; omega
      · have hi' : ((k : Int) - d).toNat = k - d := by omega
        have g0 : (0 : Int) ≤ (k : Int) - d := by omega
        have g1 : (k : Int) - d < (s.size : Int) := by omega
        obtain ⟨B, hB⟩ : ∃ B, (sumTo s.data.toList d k).getD (k - d) 0 = B := ⟨_, rfl⟩
        have hB8 := B.toNat_lt
        rcases hown.2 with ⟨-, h0⟩ | ⟨gg, cap, cur, rfl, -⟩
        · omega
        have c2 : wr.cell? ⟨gg, k - d, none⟩ = some (.int .u8 (B.toNat : Int)) := by
          rw [hown.cellAt (k - d) (by rw [Nat.mul_one]; omega)]
          rw [← hB]
          simp [byteCells, List.getD_eq_getElem?_getD, sumTo_length, show k - d < k by omega]
        have HB2 := Lib.hid hB; clear hB
        go_wp2_with (at_builtin; refine wpList_append_own _ rfl _ _ 82 rfl w.heap.size 5 i0 (.int .u8 0) 1 1 Try.underlying82 hi hz0 hz1 hz2 rfl (by decide) _ _ _ rfl (hown.alloc _) ⟨wr.heap.size, 0, none⟩ 1 1 [Value.int .u8 (((s[k].toNat : Int) + (B.toNat : Int)) % 256)] rfl rfl ?c1 ?c2 ?c3 ?c4 ?c5 ?_)
        case c1 => exact byte_new1 _ _ _ rfl
        case c2 => exact byte_one _
        case c3 => unfold maxLen; omega
        case c4 => omega
        case c5 => simp; omega
        intro v1 w1 hown1 hgrow1 _
        have hb1 : Below w.heap.size w w1 := (hb.alloc hbs _).grown hgrow1 (by simp; omega) (fun k hk => (hown.lt k hk).1)
        clear hgrow1 hown hb
        rw [u8_add, ← HG.out, ← HB2.out, ← byteCells_snoc, sum_snoc2 _ _ _ (by omega)] at hown1
        go_wp2
        go_roundw
        case rel => exact ⟨k + 1, by omega, by go_num, hown1, hb1⟩
        case measure => simp [intOf]; omega
    · obtain rfl : k = s.size := by omega
      have hcv := conv_own (P := Try.prog) (src := 82) (dst := 9) Try.underlying82 Try.underlying5 Try.underlying9 hown
      go_wp2
      go_ret2
      exact ⟨rfl, hb⟩

def nk (l : List UInt8) (k : Nat) : Nat := noughts (l.take k)
theorem nk_succ (l : List UInt8) (k : Nat) (hk : k < l.length) : nk l (k + 1) = nk l k + if (l.getD k 0).toNat = 0 then 1 else 0 := by
  unfold nk; rw [take_get l k hk, noughts_snoc]
theorem nk_le (l : List UInt8) (k : Nat) : nk l k ≤ k := Nat.le_trans (noughts_le _) (List.length_take_le _ _)
theorem nk_end (l : List UInt8) (k : Nat) (h : k = l.length) : nk l k = noughts l := by unfold nk; subst h; simp
set_option maxHeartbeats 800000 in
theorem rNought (s : ByteArray) (hs : s.size ≤ 3000) (w : World) : Calls Try.prog 75 #[.string s] w fun e w' => e = .returned (.int .i64 (noughts s.data.toList)) ∧ w' = w := by
  go_enter Try.func75, Try.ntmps75
  go_wp2
  go_loop [3, 4] (fun n i => ∃ k m : Nat, k ≤ s.size ∧ i = .int .i64 k ∧ n = .int .i64 m ∧ m ≤ k ∧ nk s.data.toList k = m) (fun _ i => s.size - (intOf i).toNat)
  case atStart => exact ⟨0, 0, Nat.zero_le _, rfl, rfl, Nat.le_refl _, by simp [nk, noughts]⟩
  case round =>
    obtain ⟨k, m, hk, rfl, rfl, hm, hL⟩ := hrel
    have HL := Lib.hid hL; clear hL
    by_cases hlt : k < s.size
    · have HS := Lib.hid (nk_succ s.data.toList k (by simpa using hlt))
      have HG := Lib.hid (s_get s k hlt)
      by_cases hz : s[k].toNat = 0
      · have hz' : ((s[k].toNat : Int) == 0) = true := by simp [hz]
        have HZ := Lib.hid hz; clear hz
        go_wp2
        go_round
        case rel => exact ⟨k + 1, m + 1, by omega, by go_num, by go_num, by omega, by rw [HS.out, HL.out, HG.out, if_pos HZ.out]⟩
        case measure => simp [intOf]; omega
      · have hz' : ((s[k].toNat : Int) == 0) = false := by rw [beq_eq_false_iff_ne]; omega
        have HZ := Lib.hid hz; clear hz
        go_wp2
        go_round
        case rel => exact ⟨k + 1, m, by omega, by go_num, by go_num, by omega, by rw [HS.out, HL.out, HG.out, if_neg HZ.out]; rfl⟩
        case measure => simp [intOf]; omega
    · have HE := Lib.hid (nk_end s.data.toList k (by simp; omega))
      go_wp2
      go_ret
      exact ⟨ret_i (by rw [← HE.out, HL.out]), rfl⟩
end Go.Proofs.Ytmpmioffngonjaa
