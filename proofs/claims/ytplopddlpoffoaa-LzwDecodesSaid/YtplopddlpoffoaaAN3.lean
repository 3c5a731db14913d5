/- Layer 60: widths; the document's first rows. -/
import Derived.Test.YtplopddlpoffoaaAN2
import Derived.Test.YtplopddlpoffoaaH0
import Derived.Test.YtplopddlpoffoaaShelf
namespace Go.Proofs.Ytplopddlpoffoaa
open Go.ChangeShapes Go.WideShapes Go.ChangeAt Go.RowKit
set_option linter.unusedVariables false
set_option linter.unusedSimpArgs false
set_option maxRecDepth 100000
open Bits
def fS8 (r : Row8) : List Value := [.string (sB r)]
theorem flatS8 : Flat fS8 1 := fun x => ⟨rfl, by intro u hu; simp [fS8] at hu; subst hu; rfl⟩
theorem info_str8 : (Try.prog.info? 9).map (fun i => (i.zero, i.size, i.bytes)) = some (some (.string ⟨#[]⟩), 1, 16) := by kernel_rfl
abbrev OwnT (B : Nat) (w : World) (v : Value) (l : List Row8) : Prop := OwnS fS8 9 1 B w v l
theorem app_str8 {X : World} {ops : Array Oper} {rest : List Oper} {o : Oper} {a : Act} {Q : Exit → Act → World → Prop} (hgd : o.guard = none) (s xo : Operand)
    (ho : o.op = .call { callee := .builtin .append, args := #[s, xo], argTypes := #[87, 87] })
    (B T : Nat) (v : Value) (l : List Row8) (x : Row8) (y : ByteArray) (hy : y = sB x) (hs : a.eval s = v) (hown : OwnT B X v l) (g c1 : Nat) (hg : X.heap.size = g) (hx : a.eval xo = .slice (some ⟨g, 0, none⟩) 1 c1) (hl : l.length ≤ 1099511627776) (hB : B ≤ X.heap.size)
    (h : ∀ v' w', OwnT B w' v' (l ++ [x]) → Below B X w' → X.grownBy w' v.ownBlock → wpList Try.prog ops Q rest (a.put o.dst v') w') : wpList Try.prog ops Q (o :: rest) a (X.alloc (.cells #[.string y] T)) := by
  subst hy
  exact app_one (f := fS8) info_str8 rfl (by decide) (by decide) Try.underlying87 flatS8 hgd s xo ho B T v l x hs hown g c1 hg hx hl hB h
set_option maxHeartbeats 1600000 in
theorem cWidth (n : Nat) (h1 : 256 ≤ n) (h2 : n ≤ 1000000) (w : World) : Calls Try.prog 44 #[.int .i64 n] w fun e w' => e = .returned (.int .i64 (widN n : Nat)) ∧ w' = w := by
  have c1 := fun w => Try.bits_Len ((n : Int) - 1) w (by omega) (by omega)
  have C1 := Lib.hid c1
  have e1 : ((n : Int) - 1).toNat = n - 1 := by omega
  have hw : widN n = max 9 (Lib.bitLen (n - 1)) := rfl
  obtain ⟨b, hb⟩ : ∃ b, Lib.bitLen (n - 1) = b := ⟨_, rfl⟩
  rw [e1, hb] at C1
  rw [hb] at hw
  obtain ⟨K, hK⟩ : ∃ K, widN n = K := ⟨_, rfl⟩
  rw [hK] at hw ⊢
  have hu : IntKind.u64.wrap ((n : Int) - 1) = (n : Int) - 1 := IntWalk.u64_in _ (by omega)
  have hw1 : IntKind.i64.wrap ((n : Int) - 1) = (n : Int) - 1 := by rw [IntKind.wrap_i64]; omega
  have hmx : max 9 (b : Int) = (K : Int) := by omega
  clear c1 hb hK hw
  by_cases h9 : (b : Int) ≤ 9
  · obtain rfl : K = 9 := by omega
    have hmx2 : max 9 (b : Int) = 9 := by omega
    clear hmx
    go_enter Try.func44, Try.ntmps44
    go_wp2_with fail
    refine (C1.out _).mono ?_; rintro e w1 ⟨rfl, rfl⟩
    go_wp2_with fail
    go_ret
    exact ⟨rfl, rfl⟩
  · obtain rfl : K = b := by omega
    have hmx2 : max 9 (K : Int) = K := by omega
    clear hmx
    go_enter Try.func44, Try.ntmps44
    go_wp2_with fail
    refine (C1.out _).mono ?_; rintro e w1 ⟨rfl, rfl⟩
    go_wp2_with fail
    go_ret
    exact ⟨rfl, rfl⟩
set_option maxHeartbeats 1600000 in
theorem dBits60 (n : Nat) (h1 : 256 ≤ n) (h2 : n ≤ 65536) (w : World) : Calls Try.prog 48 #[.int .i64 n] w fun e w' => e = .returned (.int .i64 (widN n : Nat)) ∧ w' = w := by
  have hw := widN_facts h1 h2
  obtain ⟨K, hK⟩ : ∃ K, widN n = K := ⟨_, rfl⟩
  rw [hK] at hw ⊢
  have hw1 : IntKind.i64.wrap ((n : Int) - 1) = (n : Int) - 1 := by rw [IntKind.wrap_i64]; omega
  clear hK
  have hw_ := Lib.hid hw
  clear hw
  go_enter Try.func48, Try.ntmps48
  go_wp2_with fail
  go_loopw [3] (fun i wr => ∃ k : Nat, 9 ≤ k ∧ k ≤ K ∧ i = .int .i64 k ∧ wr = w) (fun i _ => 17 - (intOf i).toNat)
  case atStart => exact ⟨9, Nat.le_refl _, hw_.out.1, rfl, rfl⟩
  case round =>
    obtain ⟨k, hk9, hk, rfl, rfl⟩ := hrel
    have hK16 := hw_.out.2.1
    obtain ⟨q, hq⟩ : ∃ q, 2 ^ k = q := ⟨_, rfl⟩
    have hq0 : q ≤ 65536 := by rw [← hq]; exact Nat.le_trans (Nat.pow_le_pow_right (by decide) (Nat.le_trans hk hK16)) (by decide)
    have hu : IntKind.u64.wrap (k : Int) = (k : Int) := IntWalk.u64_in _ (by omega)
    have hsh : (Value.int .i64 (wrap64 (2 ^ k))) = Value.int .i64 (q : Int) := by
      rw [show ((2 : Int) ^ k) = ((2 ^ k : Nat) : Int) by simp, hq]
      congr 1
      unfold wrap64
      omega
    by_cases hc : k = K
    · subst hc
      have hlt : ¬ (q : Int) ≤ (n : Int) - 1 := by have := hw_.out.2.2.1; rw [hq] at this; omega
      go_wp2_with fail
      go_ret
      exact ⟨rfl, rfl⟩
    · have hlt : (q : Int) ≤ (n : Int) - 1 := by have := hw_.out.2.2.2 k hk9 (by omega); rw [hq] at this; omega
      go_wp2_with fail
      go_roundw
      case rel => exact ⟨k + 1, by omega, by omega, by go_num, trivial⟩
      case measure => simp [intOf]; omega
def freshTo (k : Nat) : List Row8 := (List.range k).map fun i => [UInt8.ofNat i]
set_option maxHeartbeats 1600000 in
theorem dFresh (w : World) : Calls Try.prog 45 #[] w fun e w' => ∃ v, e = .returned v ∧ OwnT w.heap.size w' v freshR ∧ Below w.heap.size w w' := by
  go_enter Try.func45, Try.ntmps45
  go_wp2_with fail
  go_loopw [1, 2] (fun u i wr => ∃ k : Nat, k ≤ 256 ∧ i = .int .i64 k ∧ OwnT w.heap.size wr u (freshTo k) ∧ Below w.heap.size w wr) (fun _ i _ => 256 - (intOf i).toNat)
  case atStart => exact ⟨0, Nat.zero_le _, rfl, OwnS.nil, Below.refl _ _⟩
  case round =>
    obtain ⟨k, hk, rfl, hown, hb⟩ := hrel
    have hbs := hb.size
    by_cases hlt : k < 256
    · have hli : (k : Int) < 256 := by omega
      have hu : IntKind.u8.wrap (k : Int) = (k : Int) := by rw [IntKind.wrap_u8]; omega
      have hc1 := (fun T => conv1 wr (k : Int) (UInt8.ofNat k) T (by rw [u8w]; omega))
      have HL := Lib.hid (show (freshTo k).length ≤ 1099511627776 by simp [freshTo]; omega)
      have HB := Lib.hid hbs
      have HO := Lib.hid (fun o => World.ownsRow.alloc hown o)
      have HB2 := Lib.hid hb
      have HF := Lib.hid (show freshTo (k + 1) = freshTo k ++ [[UInt8.ofNat k]] by simp [freshTo, List.range_succ])
      clear hown hb hbs
      go_wp2_with (first
        | (at_builtin; refine app_str8 rfl (.tmp 7) (.tmp 12) rfl _ _ _ _ [UInt8.ofNat k] _ rfl rfl (HO.out _) (wr.heap.size + 1) 1 (by simp) rfl HL.out (Nat.le_trans HB.out (by simp)) ?_; intro v3 w3 hown3 hb3 _)
        | fail)
      rw [← HF.out] at hown3
      have hown3_ := Lib.hid hown3
      clear hown3
      have hb3_ := Lib.hid hb3
      clear hb3
      go_wp2_with fail
      go_roundw
      case rel => exact ⟨k + 1, by omega, by go_num, hown3_.out, (HB2.out.alloc HB.out _).trans hb3_.out⟩
      case measure => simp [intOf]; omega
    · obtain rfl : k = 256 := by omega
      have hli : ¬ ((256 : Nat) : Int) < 256 := by omega
      have hown_ := Lib.hid hown
      clear hown
      have hb_ := Lib.hid hb
      clear hb
      clear hbs
      go_wp2_with fail
      go_ret
      exact ⟨_, rfl, hown_.out, hb_.out⟩
end Go.Proofs.Ytplopddlpoffoaa
