/- Layer 1, the document's: Put, Align, Bytes. -/
import Derived.Test.YtplopddlpoffoaaK4
import Derived.Test.YtplopddlpoffoaaBn
import Derived.Test.YtplopddlpoffoaaBv
namespace Go.Proofs.Ytplopddlpoffoaa
open Go.ChangeShapes Go.WideShapes Go.ChangeAt Go.RowKit
set_option linter.unusedVariables false
set_option maxRecDepth 100000
open Bits
def bitAt (x i : Nat) : Bool := x / 2 ^ i % 2 == 1
theorem bitsOf_snoc (x i : Nat) : bitsOf x i ++ [bitAt x i] = bitsOf x (i + 1) := by rw [bitsOf_add]; simp [bitsOf, bitAt]
theorem bit_and (x i : Nat) (hx : x < 2 ^ 64) : bits .and .u64 ((x : Int) / 2 ^ i) 1 = ((x / 2 ^ i % 2 : Nat) : Int) := by
  have e3 : (x : Int) / 2 ^ i = ((x / 2 ^ i : Nat) : Int) := by simp
  have := and_u64 (x / 2 ^ i) 1 (Nat.lt_of_le_of_lt (Nat.div_le_self _ _) hx) (by decide)
  rw [Nat.and_one_is_mod] at this
  rw [e3]; exact this
theorem dBit (x i : Nat) (hx : x < 2 ^ 64) (hi : i ≤ 60) (w : World) : Calls Try.prog 59 #[.int .u64 x, .int .i64 i] w fun e w' => e = .returned (.bool (bitAt x i)) ∧ w' = w := by
  have HB := Lib.hid (bit_and x i hx)
  obtain ⟨V, hV⟩ : ∃ V, x / 2 ^ i % 2 = V := ⟨_, rfl⟩
  have hb : bitAt x i = (V == 1) := by unfold bitAt; rw [hV]
  rw [hb]
  have hV2 : V = 0 ∨ V = 1 := by omega
  have hb2 := HB.out
  rw [hV] at hb2
  clear HB hV hb hx
  rcases hV2 with rfl | rfl
  · have hb3 : bits .and .u64 ((x : Int) / 2 ^ i) 1 = 0 := hb2
    clear hb2
    go_enter Try.func59, Try.ntmps59
    go_wp2
    go_ret
    exact ⟨rfl, rfl⟩
  · have hb3 : bits .and .u64 ((x : Int) / 2 ^ i) 1 = 1 := hb2
    clear hb2
    go_enter Try.func59, Try.ntmps59
    go_wp2
    go_ret
    exact ⟨rfl, rfl⟩

theorem info_u8 : (Try.prog.info? 5).map (fun i => (i.zero, i.size, i.bytes)) = some (some (.int .u8 0), 1, 1) := by kernel_rfl
theorem u8_new1 (w : World) (x : Int) (t g : Nat) (hg : g = w.heap.size) : ∀ j u, [Value.int .u8 x][j]? = some u → (w.alloc (.cells #[.int .u8 x] t)).cell? ((⟨g, 0, none⟩ : Addr).add j) = some u := cell_new1 w _ t g hg
theorem u8_one (x : Int) : ∀ u ∈ [Value.int .u8 x], u.oneCell' = true := by intro u hu; simp at hu; subst hu; rfl
set_option maxHeartbeats 1600000 in
theorem dPut (B : Nat) (v : Value) (x n : Nat) (bs : List Bool) (w : World) (hown : OwnB B w v bs) (hb0 : B ≤ w.heap.size) (hl : bs.length ≤ 1000000) (hn : n ≤ 56) (hx : x < 2 ^ n) :
    Calls Try.prog 47 #[v, .int .u64 x, .int .i64 n] w fun e w' => ∃ v', e = .returned (.tuple #[v', .int .i64 0]) ∧ OwnB B w' v' (bs ++ bitsOf x n) ∧ Row1 w v w' v' := by
  have hx64 : x < 2 ^ 64 := Nat.lt_of_lt_of_le hx (Nat.pow_le_pow_right (by decide) (by omega))
  have hz : (x : Int) / 2 ^ n = 0 := by
    have : (x : Int) / 2 ^ n = ((x / 2 ^ n : Nat) : Int) := by simp
    rw [this, Nat.div_eq_of_lt hx]; rfl
  have C := Lib.hid (fun i (hi : i ≤ 60) w => dBit x i hx64 hi w)
  clear hx hx64
  have hown_ := Lib.hid hown
  clear hown
  go_enter Try.func47, Try.ntmps47
  go_wp2
  clear hz
  go_loopw [0, 8] (fun u i wr => ∃ k : Nat, k ≤ n ∧ i = .int .i64 k ∧ OwnB B wr u (bs ++ bitsOf x k) ∧ Row1 w v wr u) (fun _ i _ => n - (intOf i).toNat)
  case atStart => exact ⟨0, Nat.zero_le _, rfl, by simpa [bitsOf] using hown_.out, Row1.refl _ _⟩
  case round =>
    obtain ⟨k, hk, rfl, hown, hr⟩ := hrel
    have hbs := Nat.le_trans hb0 hr.1.size
    by_cases hlt : k < n
    · have HS := Lib.hid (show bs ++ bitsOf x k ++ [bitAt x k] = bs ++ bitsOf x (k + 1) by rw [List.append_assoc, bitsOf_snoc])
      have CC := Lib.hid (fun w => C.out k (by omega) w)
      have HL := Lib.hid (show (bs ++ bitsOf x k).length ≤ 1099511627776 by rw [List.length_append, bitsOf_length]; omega)
      have HB := Lib.hid hbs
      obtain ⟨BT, hBT⟩ : ∃ BT, bitAt x k = BT := ⟨_, rfl⟩
      rw [hBT] at HS CC
      clear hBT
      have hown_ := Lib.hid hown
      have hr_ := Lib.hid hr
      clear hown hr
      go_wp2_with fail
      refine (CC.out _).mono ?_; rintro e w1 ⟨rfl, rfl⟩
      go_wp2_with (at_builtin; refine app_bool1 rfl _ _ rfl _ _ _ _ BT rfl hown_.out _ 1 rfl rfl HL.out HB.out ?_; intro v2 w2 hown2 hr2)
      rw [HS.out] at hown2
      have HR := Lib.hid (hr_.out.trans hr2)
      have hown2_ := Lib.hid hown2
      clear hown2
      clear hr2
      go_wp2
      go_roundw
      case rel => exact ⟨k + 1, by omega, by go_num, hown2_.out, HR.out⟩
      case measure => simp [intOf]; omega
    · obtain rfl : k = n := by omega
      have hown_ := Lib.hid hown
      have hr_ := Lib.hid hr
      clear hown hr
      go_wp2
      go_ret2
      exact ⟨_, rfl, hown_.out, hr_.out⟩
theorem dPut_out (v : Value) (x n : Int) (h : n < 0 ∨ 56 < n) (w : World) :
    Calls Try.prog 47 #[v, .int .u64 x, .int .i64 n] w fun e w' => e = .returned (.tuple #[v, .int .i64 2]) ∧ ∃ k, w' = w.drewN k := by
  by_cases h1 : n < 0
  · go_enter Try.func47, Try.ntmps47
    go_wp2
    go_ret2
    exact ⟨rfl, 0, rfl⟩
  · have h2 : 56 < n := by omega
    have e1 : decide (n < 0) = false := by simp; omega
    go_enter Try.func47, Try.ntmps47
    go_wp2
    go_ret2
    exact ⟨rfl, 0, rfl⟩
theorem dPut_great (v : Value) (x n : Nat) (hn : n ≤ 56) (hx : 2 ^ n ≤ x) (w : World) :
    Calls Try.prog 47 #[v, .int .u64 x, .int .i64 n] w fun e w' => e = .returned (.tuple #[v, .int .i64 2]) ∧ ∃ k, w' = w.drewN k := by
  have hz : ((x : Int) / 2 ^ n != 0) = true := by
    have : (x : Int) / 2 ^ n = ((x / 2 ^ n : Nat) : Int) := by simp
    have h1 : 1 ≤ x / 2 ^ n := (Nat.le_div_iff_mul_le (Nat.pow_pos (by decide))).2 (by omega)
    rw [this, bne_iff_ne]; omega
  clear hx
  go_enter Try.func47, Try.ntmps47
  go_wp2
  go_ret2
  exact ⟨rfl, 0, rfl⟩
theorem own_len8 {w : World} {base n : Nat} {e : TypeId} {v : Value} {l : List UInt8} (h : w.ownsRow base e 1 v n (cells8 l)) : n = l.length := by have := h.1; rw [cells8_len] at this; omega
theorem cell8 {w : World} {base : Nat} {e : TypeId} {g n cap : Nat} {l : List UInt8} (h : w.ownsRow base e 1 (.slice (some ⟨g, 0, none⟩) n cap) n (cells8 l)) (k : Nat) (hk : k < l.length) (W : Nat) (hW : (l.getD k 0).toNat = W) : w.cell? ⟨g, k, none⟩ = some (.int .u8 (W : Int)) := by
  have hn := own_len8 h
  rw [h.cellAt k (by omega)]
  unfold cells8
  subst hW
  simp [List.getD_eq_getElem?_getD, hk]
theorem or_bit2 (W J : Nat) (hJ : J < 8) (hW : W < 2 ^ J) (z : Int) (hz : z = 2 ^ J % 256) : bits .or .u8 (W : Int) z = (((UInt8.ofNat (W + 2 ^ J)).toNat : Nat) : Int) := by
  subst hz
  rw [← or_bit W J hJ hW]
  have hp : 2 ^ J ≤ 2 ^ 7 := Nat.pow_le_pow_right (by decide) (by omega)
  have e1 : (2 : Int) ^ J = ((2 ^ J : Nat) : Int) := by simp
  have e2 : IntKind.u8.wrap ((2 ^ J : Nat) : Int) = ((2 ^ J : Nat) : Int) := by first | exact IntWalk.u8_in _ (by omega) | (unfold IntKind.wrap; simp; omega)
  rw [e1, e2]
  congr 1 <;> omega
set_option maxHeartbeats 3200000 in
theorem dBytes (a : Option Addr) (c : Nat) (l : List Bool) (w : World) (h : IsBoo w a l) (hl : l.length ≤ 100000) :
    Calls Try.prog 49 #[.slice a l.length c] w fun e w' => e = .returned (.string ⟨(pack l).toArray⟩) ∧ Below w.heap.size w w' := by
  obtain ⟨i0, hi, hz0, hz1, hz2⟩ := info_get info_u8
  have HI := Lib.hid h
  clear h
  go_enter Try.func49, Try.ntmps49
  go_wp2
  go_loopw [3, 4] (fun u i wr => ∃ k : Nat, k ≤ l.length ∧ i = .int .i64 k ∧ wr.ownsRow w.heap.size 5 1 u (pack (l.take k)).length (cells8 (pack (l.take k))) ∧ Below w.heap.size w wr) (fun _ i _ => l.length - (intOf i).toNat)
  case atStart => exact ⟨0, Nat.zero_le _, rfl, World.ownsRow_nil _ _ _ _, Below.refl _ _⟩
  case round =>
    obtain ⟨k, hk, rfl, hown, hb⟩ := hrel
    have hbs := hb.size
    by_cases hlt : k < l.length
    · obtain ⟨x, rfl, hxb, cx0⟩ := HI.out.at k hlt
      have htl : (l.take k).length = k := by rw [List.length_take]; omega
      obtain ⟨W, hWlt, hOl, hW, hpk⟩ := opened_next (l.take k) (l.getD k false)
      rw [htl] at hWlt hOl hW hpk
      have hpl := pack_length (l.take k)
      rw [htl] at hpl
      have hop : opened (l.take k) = if k % 8 = 0 then pack (l.take k) ++ [0] else pack (l.take k) := by unfold opened; rw [htl]
      obtain ⟨B, hBB⟩ : ∃ B, l.getD k false = B := ⟨_, rfl⟩
      rw [hBB] at cx0 hpk
      have HT := Lib.hid (takeB l k hlt)
      rw [hBB] at HT
      obtain ⟨O, hO⟩ : ∃ O, opened (l.take k) = O := ⟨_, rfl⟩
      rw [hO] at hOl hW hpk hop
      obtain ⟨J, hJ⟩ : ∃ J, k % 8 = J := ⟨_, rfl⟩
      rw [hJ] at hWlt hpk hop
      have HPK := Lib.hid (show pack (l.take (k + 1)) = if B then O.set (k / 8) (UInt8.ofNat (W + 2 ^ J)) else O by rw [HT.out]; exact hpk)
      have hJ8 : J < 8 := by omega
      have hJi : (k : Int) % 8 = (J : Int) := by omega
      clear hpk hBB hO htl
      by_cases hJ0 : J = 0
      · subst hJ0
        rw [if_pos rfl] at hop
        have HOP := Lib.hid hop
        have HPL := Lib.hid hpl
        have hpb : (pack (l.take k)).length ≤ 100000 := by omega
        clear hop hpl hJ
        go_wp2_with (at_builtin; refine wpList_append_at _ rfl (.tmp 14) (.tmp 15) 94 rfl w.heap.size 5 i0 (.int .u8 0) 1 Try.underlying94 hi hz0 hz1 hz2 rfl _ _ _ rfl (hown.alloc _) ⟨wr.heap.size, 0, none⟩ 1 1 [Value.int .u8 0] rfl rfl ?d1 ?d2 ?d3 ?d4 ?d5 ?d6 ?_)
        case d1 => exact u8_new1 _ _ _ _ rfl
        case d2 => exact u8_one _
        case d3 => unfold maxLen; omega
        case d4 => omega
        case d5 => simp; omega
        case d6 => decide
        intro g cap w1 hown1 hgrow hk1
        have hb1 : Below w.heap.size w w1 := (hb.alloc (by omega) _).grown hgrow (by simp; omega) (fun k hk => (hown.lt k hk).1)
        have e8 := cells8_snoc (pack (l.take k)) 0
        rw [← HOP.out] at e8
        have hown1 : w1.ownsRow w.heap.size 5 1 (.slice (some ⟨g, 0, none⟩) ((pack (l.take k)).length + 1) cap) ((pack (l.take k)).length + 1) (cells8 O) := by rw [← e8]; exact hown1
        obtain ⟨nn, hnn0⟩ : ∃ nn, (pack (l.take k)).length + 1 = nn := ⟨_, rfl⟩
        rw [hnn0] at hown1 ⊢
        have hnn2 : nn = k / 8 + 1 := by have := own_len8 hown1; omega
        clear hgrow hk1 hown hb e8 hnn0
        have hnn := own_len8 hown1
        have cx : w1.cell? (x.add k) = some (.bool B) := by rw [hb1.cell (by rw [add_block]; exact hxb)]; exact cx0
        rcases hB : B with _ | _
        · rw [hB] at cx
          have HO := Lib.hid hown1
          have HP := Lib.hid (show pack (l.take (k + 1)) = O from HPK.out.trans (by rw [hB]; rfl))
          clear hown1 cx0
          go_wp2_with fail
          go_roundw
          case rel => exact ⟨k + 1, by omega, by go_num, by rw [HP.out]; have e := own_len8 HO.out; rw [← e]; exact HO.out, hb1⟩
          case measure => simp [intOf]; omega
        · rw [hB] at cx
          have cb := cell8 hown1 (k / 8) (by rw [hOl]; omega) W hW
          have fb := hown1.frozenAt (k / 8)
          have HO := Lib.hid hown1
          have HP := Lib.hid (show pack (l.take (k + 1)) = O.set (k / 8) (UInt8.ofNat (W + 2 ^ 0)) from HPK.out.trans (by rw [hB]; rfl))
          have hor : bits .or .u8 (W : Int) (1) = (((UInt8.ofNat (W + 2 ^ 0)).toNat : Nat) : Int) := or_bit2 W 0 hJ8 hWlt _ (by first | rfl | (simp; done))
          obtain ⟨Z, hZ⟩ : ∃ Z, UInt8.ofNat (W + 2 ^ 0) = Z := ⟨_, rfl⟩
          rw [hZ] at HP hor
          clear hown1 cx0 hZ hWlt hW
          go_wp2_with fail
          go_roundw
          case rel => exact ⟨k + 1, by omega, by go_num, by
            have e := (HO.out.stored (k / 8) (.int .u8 (Z.toNat : Int))).1
            rw [cells8_set, ← HP.out] at e
            have e2 := own_len8 e
            rw [← e2]; exact e, hb1.setCell (by have := (HO.out.lt _ rfl).1; simpa using this) _⟩
          case measure => simp [intOf]; omega
      · rw [if_neg hJ0] at hop
        have hne : ((J : Int) == 0) = false := by rw [beq_eq_false_iff_ne]; omega
        obtain ⟨nn, hnn0⟩ : ∃ nn, (pack (l.take k)).length = nn := ⟨_, rfl⟩
        rw [← hop] at hown hnn0
        rw [hnn0] at hown
        rcases hown.2 with ⟨-, h0⟩ | ⟨g, cap, cur, rfl, -⟩
        · exfalso; omega
        have hown1 := hown
        have hb1 := hb
        have hnn2 : nn = k / 8 + 1 := by have := own_len8 hown1; omega
        clear hown hb hop hpl hJ hnn0
        have hnn := own_len8 hown1
        have cx : wr.cell? (x.add k) = some (.bool B) := by rw [hb1.cell (by rw [add_block]; exact hxb)]; exact cx0
        rcases hB : B with _ | _
        · rw [hB] at cx
          have HO := Lib.hid hown1
          have HP := Lib.hid (show pack (l.take (k + 1)) = O from HPK.out.trans (by rw [hB]; rfl))
          clear hown1 cx0
          go_wp2_with fail
          go_roundw
          case rel => exact ⟨k + 1, by omega, by go_num, by rw [HP.out]; have e := own_len8 HO.out; rw [← e]; exact HO.out, hb1⟩
          case measure => simp [intOf]; omega
        · rw [hB] at cx
          have cb := cell8 hown1 (k / 8) (by rw [hOl]; omega) W hW
          have fb := hown1.frozenAt (k / 8)
          have HO := Lib.hid hown1
          have HP := Lib.hid (show pack (l.take (k + 1)) = O.set (k / 8) (UInt8.ofNat (W + 2 ^ J)) from HPK.out.trans (by rw [hB]; rfl))
          have hor : bits .or .u8 (W : Int) (2 ^ J % 256) = (((UInt8.ofNat (W + 2 ^ J)).toNat : Nat) : Int) := or_bit2 W J hJ8 hWlt _ (by first | rfl | (simp; done))
          obtain ⟨Z, hZ⟩ : ∃ Z, UInt8.ofNat (W + 2 ^ J) = Z := ⟨_, rfl⟩
          rw [hZ] at HP hor
          clear hown1 cx0 hZ hWlt hW
          go_wp2_with fail
          go_roundw
          case rel => exact ⟨k + 1, by omega, by go_num, by
            have e := (HO.out.stored (k / 8) (.int .u8 (Z.toNat : Int))).1
            rw [cells8_set, ← HP.out] at e
            have e2 := own_len8 e
            rw [← e2]; exact e, hb1.setCell (by have := (HO.out.lt _ rfl).1; simpa using this) _⟩
          case measure => simp [intOf]; omega
    · have hkl : l.take k = l := List.take_of_length_le (by omega)
      rw [hkl] at hown
      have hcv := conv_own8 (P := Try.prog) (src := 94) (dst := 9) Try.underlying94 Try.underlying5 Try.underlying9 hown
      clear hkl
      go_wp2
      go_ret
      exact ⟨rfl, hb⟩
end Go.Proofs.Ytplopddlpoffoaa
