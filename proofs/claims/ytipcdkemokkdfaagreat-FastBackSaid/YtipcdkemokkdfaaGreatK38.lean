import Derived.Test.YtipcdkemokkdfaaGreatK37
/- Layer 11: (*Table).add of a code behind a head that is far. -/
namespace Go.Proofs.YtipcdkemokkdfaaGreat
open Go.ChangeShapes Go.WideShapes Go.ChangeAt Go.RowKit Go.Lib
set_option linter.unusedVariables false
set_option linter.unusedSimpArgs false
set_option maxRecDepth 100000
open Two
theorem mask_bits (x k : Nat) (hx : x ≤ 1000000000) (hk : k ≤ 31) : Go.bits .and .i64 (x : Int) (((2 ^ k : Nat) : Int) - 1) = ((x % 2 ^ k : Nat) : Int) := by
  have e : (((2 ^ k : Nat) : Int) - 1) = (2 : Int) ^ k - 1 := by simp
  rw [e]
  have hp : 0 < 2 ^ k := Nat.pow_pos (by decide)
  have hp2 : 2 ^ k ≤ 2 ^ 31 := Nat.pow_le_pow_right (by decide) hk
  have e : (2 : Int) ^ k - 1 = ((2 ^ k - 1 : Nat) : Int) := by
    rw [Int.ofNat_sub hp]; simp
  rw [e]
  have h := (bits_nat .i64 62 (by decide) (fun n h0 h1 => IntWalk.i64_in n (by omega)) x (2 ^ k - 1) (by omega) (by omega)).1
  rw [h, Nat.and_two_pow_sub_one_eq_mod]
set_option maxHeartbeats 1600000 in
theorem tAddFar (w : World) (B gt gs gl R root L D SZ T n s H f N C d : Nat) (short long : List Ent) (h : IsT2 w B gt gs R root L (.slice (some ⟨gl, 0, none⟩) N C) short long) (hR : 2 ^ root = R) (hSZ : 2 ^ D = SZ) (hL : root + D = L) (hL15 : L ≤ 15) (hr : 1 ≤ root) (hd : n = root + d) (hd0 : 0 < d) (hdD : d ≤ D) (hT : T < 2 ^ n) (hH : T % R = H)
    (hfar : short[H]? = some (0, 0, true, (f : Int))) (hf : f + SZ ≤ long.length) (hf2 : f ≤ 32768) (hN : N = long.length) (hC : N ≤ C) :
    Calls Tryz.prog 97 #[.pointer (some ⟨gt, 0, none⟩), .int .i64 T, .agg #[.int .i32 s, .int .i16 n, .bool false, .int .i32 0]] w fun e w' => e = .returned (.tuple #[]) ∧ IsT2 w' B gt gs R root L (.slice (some ⟨gl, 0, none⟩) N C) short (segF long f SZ (T / R) (2 ^ d) ((s : Int), (n : Int), false, 0)) ∧ Keeps (fun j => j = gl) w w' := by
  have hRp : 0 < R := by rw [← hR]; exact Nat.pow_pos (by decide)
  have hSp : 0 < SZ := by rw [← hSZ]; exact Nat.pow_pos (by decide)
  have hR15 : R ≤ 32768 := by rw [← hR]; exact Nat.le_trans (Nat.pow_le_pow_right (by decide) (show root ≤ 15 by omega)) (by decide)
  have hS15 : SZ ≤ 32768 := by rw [← hSZ]; exact Nat.le_trans (Nat.pow_le_pow_right (by decide) (show D ≤ 15 by omega)) (by decide)
  have hHR : H < R := by rw [← hH]; exact Nat.mod_lt _ hRp
  have hT15 : T < 32768 := Nat.lt_of_lt_of_le hT (Nat.le_trans (Nat.pow_le_pow_right (by decide) (show n ≤ 15 by omega)) (by decide))
  have hT2 : T / R < 2 ^ d := by rw [Nat.div_lt_iff_lt_mul hRp, ← hR, ← Nat.pow_add, Nat.add_comm, ← hd]; exact hT
  have hAnd : Go.bits .and .i64 (T : Int) ((R : Int) - 1) = (H : Int) := by rw [← hH, ← hR]; exact mask_bits T root (by omega) (by omega)
  have hW1 : IntKind.i64.wrap ((2 : Int) ^ root) = (R : Int) := by
    have e1 : (2 : Int) ^ root = ((2 ^ root : Nat) : Int) := by simp
    rw [e1, hR, IntKind.wrap_i64]; omega
  have hW2 : IntKind.i64.wrap ((2 : Int) ^ D) = (SZ : Int) := by
    have e1 : (2 : Int) ^ D = ((2 ^ D : Nat) : Int) := by simp
    rw [e1, hSZ, IntKind.wrap_i64]; omega
  obtain ⟨T2, hT2e⟩ : ∃ T2, T / R = T2 := ⟨_, rfl⟩
  have hShr : (T : Int) / 2 ^ root = (T2 : Int) := by
    have e1 : (2 : Int) ^ root = ((2 ^ root : Nat) : Int) := by simp
    rw [e1, hR, ← hT2e]; simp
  rw [hT2e] at hT2 ⊢
  have CF := Lib.hid (fun W (hk : Below w.heap.size w W) (o c : Nat) (ho : o = f * 4) => show Calls Tryz.prog 113 #[.slice (some ⟨gl, o, none⟩) SZ c, .int .i64 T2, .int .i64 d, .agg #[.int .i32 s, .int .i16 n, .bool false, .int .i32 0]] W _ from tFill W B gl f o SZ c T2 d N C ((s : Int), (n : Int), false, 0) long (h.kept hk).rl ho hf (by omega) (by omega) hT2)
  have HT0 := Lib.hid h
  have hgt : gt < w.heap.size := block_lt HT0.out.tb
  obtain ⟨gb, hgb⟩ : ∃ gb, w.heap.size = gb := ⟨_, rfl⟩
  obtain ⟨W, hWW⟩ : ∃ W, w.alloc (.cells #[.int .i32 s, .int .i16 n, .bool false, .int .i32 0] 168) = W := ⟨_, rfl⟩
  have hbox : W.heap[gb]? = some (.cells #[.int .i32 s, .int .i16 n, .bool false, .int .i32 0] 168 (0, 0)) := by rw [← hWW, ← hgb]; exact heap_alloc_new _ _
  have htab := heap_old HT0.out.tb (.cells #[.int .i32 s, .int .i16 n, .bool false, .int .i32 0] 168)
  have t1' := cell_lit htab 1 _ rfl
  rw [hWW] at htab
  have HBL := Lib.hid (show Below w.heap.size w W by rw [← hWW]; exact (Below.refl _ _).alloc (Nat.le_refl _) _)
  have HK1 := Lib.hid (show Keeps (fun j => j = gl) w W by rw [← hWW]; exact (Keeps.refl _ w).alloc _)
  have b0 : W.cell? ⟨gb, 0, none⟩ = some (.int .i32 s) := cell_lit hbox 0 _ rfl
  have b1 : W.cell? ⟨gb, 1, none⟩ = some (.int .i16 n) := cell_lit hbox 1 _ rfl
  have b2 : W.cell? ⟨gb, 2, none⟩ = some (.bool false) := cell_lit hbox 2 _ rfl
  have b3 : W.cell? ⟨gb, 3, none⟩ = some (.int .i32 0) := cell_lit hbox 3 _ rfl
  have t0 : W.cell? ⟨gt, 0, none⟩ = some (.slice (some ⟨gs, 0, none⟩) R R) := cell_lit htab 0 _ rfl
  have t1 : W.cell? ⟨gt, 1, none⟩ = some (.int .i64 root) := cell_lit htab 1 _ rfl
  have t2 : W.cell? ⟨gt, 2, none⟩ = some (.slice (some ⟨gl, 0, none⟩) N C) := cell_lit htab 2 _ rfl
  have t3 : W.cell? ⟨gt, 3, none⟩ = some (.int .i64 L) := cell_lit htab 3 _ rfl
  have hHi : (H : Int) < (R : Int) := by omega
  have s0 := OwnS.cell flatT (HT0.out.kept HBL.out).rs H 0 _ hfar (by decide)
  have s1 := OwnS.cell flatT (HT0.out.kept HBL.out).rs H 1 _ hfar (by decide)
  have s2 := OwnS.cell flatT (HT0.out.kept HBL.out).rs H 2 _ hfar (by decide)
  have s3 := OwnS.cell flatT (HT0.out.kept HBL.out).rs H 3 _ hfar (by decide)
  simp only [fT, List.getElem?_cons_zero, List.getElem?_cons_succ, Nat.add_zero] at s0 s1 s2 s3
  have HTT := Lib.hid hT
  have HSZ := Lib.hid hSZ
  have hn1 : n ≤ 15 := by omega
  have hW3 : IntKind.i64.wrap ((R : Int) - 1) = (R : Int) - 1 := by rw [IntKind.wrap_i64]; omega
  have hW4 : IntKind.i64.wrap ((n : Int) - (root : Int)) = (d : Int) := by rw [IntKind.wrap_i64]; omega
  have hW5 : IntKind.i64.wrap ((L : Int) - (root : Int)) = (D : Int) := by rw [IntKind.wrap_i64]; omega
  have hW6 : IntKind.i64.wrap ((f : Int) + (SZ : Int)) = (f : Int) + (SZ : Int) := by rw [IntKind.wrap_i64]; omega
  have hD15 : D ≤ 15 := by omega
  have hmin : min D 64 = D := by omega
  have hCf : ¬ (C = f) := by omega
  have hx1 : (0 : Int) ≤ (f : Int) + (SZ : Int) := by omega
  have hx2 : (f : Int) + (SZ : Int) ≤ (C : Int) := by omega
  have hx3 : ((f : Int) + (SZ : Int)).toNat = f + SZ := by omega
  have hW7 : IntKind.i64.wrap (f : Int) = (f : Int) := by rw [IntKind.wrap_i64]; omega
  have hfl : f + SZ ≤ C := by omega
  have hrn : root < n := by omega
  have hrn2 : (root : Int) < (n : Int) := by omega
  have HD := Lib.hid hd
  have HL := Lib.hid hL
  clear hd hL
  clear hbox htab h hT hT2 hH hfar hR hSZ hT2e
  go_enter Tryz.func97, Tryz.ntmps97
  go_wp2_with fail
  clear t1'
  go_quiet (fail)
  go_wp2_with fail
  rename_i nq
  obtain ⟨W2, hW2⟩ : ∃ W2, W.drewN nq = W2 := ⟨_, rfl⟩
  have b0 : W2.cell? ⟨gb, 0, none⟩ = some (.int .i32 s) := by rw [← hW2]; exact b0
  have b1 : W2.cell? ⟨gb, 1, none⟩ = some (.int .i16 n) := by rw [← hW2]; exact b1
  have b2 : W2.cell? ⟨gb, 2, none⟩ = some (.bool false) := by rw [← hW2]; exact b2
  have b3 : W2.cell? ⟨gb, 3, none⟩ = some (.int .i32 0) := by rw [← hW2]; exact b3
  have t0 : W2.cell? ⟨gt, 0, none⟩ = some (.slice (some ⟨gs, 0, none⟩) R R) := by rw [← hW2]; exact t0
  have t1 : W2.cell? ⟨gt, 1, none⟩ = some (.int .i64 root) := by rw [← hW2]; exact t1
  have t2 : W2.cell? ⟨gt, 2, none⟩ = some (.slice (some ⟨gl, 0, none⟩) N C) := by rw [← hW2]; exact t2
  have t3 : W2.cell? ⟨gt, 3, none⟩ = some (.int .i64 L) := by rw [← hW2]; exact t3
  have s3 : W2.cell? ⟨gs, H * 4 + 3, none⟩ = some (.int .i32 (f : Int)) := by rw [← hW2]; exact s3
  have HBL2 := Lib.hid (show Below w.heap.size w W2 by rw [← hW2]; exact below_dn HBL.out nq)
  have HK2 := Lib.hid (show Keeps (fun j => j = gl) w W2 by rw [← hW2]; exact HK1.out.drewN nq)
  rw [hW2]
  clear hW2 s0 s1 s2 HBL HK1
  go_still_tail 41, (by kernel_rfl)
  change wpList _ _ _ _ _ W2.drew
  go_wp2_with fail
  refine (CF.out W2.drew HBL2.out.drew (f * 4) (C - f) rfl).mono ?_; rintro e w5 ⟨rfl, h5, hk5⟩
  have HK := Lib.hid (HK2.out.drew.trans hk5)
  have HT := Lib.hid (show IsT2 w5 B gt gs R root L (.slice (some ⟨gl, 0, none⟩) N C) short (segF long f SZ T2 (2 ^ d) ((s : Int), (n : Int), false, 0)) by
    have hne : gs ≠ gl := fun e => HT0.out.sl (by rw [e]; rfl)
    have hn2 : gt ≠ gl := fun e => by
      have hh := HT0.out.tb
      rw [e] at hh
      exact own_ne HT0.out.rl hh (by decide) rfl
    refine ⟨HK.out.heap HT0.out.tb hn2, ?_, h5, HT0.out.sl⟩
    exact HK.out.ownsRow HT0.out.rs (fun k hk e => hne (by simp [Value.ownBlock] at hk; omega)))
  clear h5 hk5
  go_wp2_with fail
  go_end0
  exact ⟨rfl, HT.out, HK.out⟩
end Go.Proofs.YtipcdkemokkdfaaGreat
