/- Layer 9: the document's Decode. -/
import Derived.Test.YtbdhfmoididkgaaE4
import Derived.Test.YtbdhfmoididkgaaCg
import Derived.Deep.CutRange
namespace Go.Proofs.Ytbdhfmoididkgaa
open Go.ChangeShapes Go.WideShapes Go.ChangeAt Go.RowKit
set_option linter.unusedVariables false
set_option linter.unusedSimpArgs false
set_option maxRecDepth 100000
open KraftMath CanonMath
def hitAt (l : List Int) (row : List Bool) (s : Nat) : Bool := decide (len l s ≠ 0) && begL row (msb (code l s) (len l s))
def shortAt (l : List Int) (row : List Bool) (s : Nat) : Bool := decide (len l s ≠ 0) && begL (msb (code l s) (len l s)) row
def decL (l : List Int) (row : List Bool) : Int × Int × Int :=
  if check l 16 ≠ 0 then (0, 0, check l 16) else
  match (List.range l.length).find? (hitAt l row) with
  | some s => (((s : Nat) : Int), ((len l s : Nat) : Int), 0)
  | none => if (List.range l.length).any (shortAt l row) then (0, 0, 3) else (0, 0, 4)
theorem hitAt_iff {l : List Int} {row : List Bool} {s : Nat} (hs : s < l.length) : hitAt l row s = true ↔ Hit l row s := by
  unfold hitAt Hit
  rw [Bool.and_eq_true, decide_eq_true_iff]
  exact ⟨fun h => ⟨hs, h⟩, fun h => h.2⟩
theorem decL_hit {l : List Int} {row : List Bool} {s : Nat} (h : check l 16 = 0) (hh : Hit l row s) : decL l row = (((s : Nat) : Int), ((len l s : Nat) : Int), 0) := by
  unfold decL
  rw [if_neg (by simp [h])]
  cases hf : (List.range l.length).find? (hitAt l row) with
  | none =>
    rw [List.find?_eq_none] at hf
    exact absurd ((hitAt_iff hh.1).2 hh) (by simpa using hf s (List.mem_range.2 hh.1))
  | some t =>
    have h1 := List.find?_some hf
    have h2 := List.mem_range.1 (List.mem_of_find?_eq_some hf)
    have : t = s := hit_one h ((hitAt_iff h2).1 h1) hh
    rw [this]
theorem decL_none {l : List Int} {row : List Bool} (h : check l 16 = 0) (hh : ∀ s, ¬ Hit l row s) : decL l row = if (List.range l.length).any (shortAt l row) then (0, 0, 3) else (0, 0, 4) := by
  unfold decL
  rw [if_neg (by simp [h])]
  cases hf : (List.range l.length).find? (hitAt l row) with
  | none => rfl
  | some t =>
    have h1 := List.find?_some hf
    have h2 := List.mem_range.1 (List.mem_of_find?_eq_some hf)
    exact absurd ((hitAt_iff h2).1 h1) (hh t)
theorem codes_at {l : List Int} (h : check l 16 = 0) {s : Nat} (hs : s < l.length) : (codesL l).getD s 0 = (code l s : Nat) := by
  unfold codesL
  rw [if_pos h, codeTo_get l _ s hs, if_pos hs]
theorem codes_len {l : List Int} (h : check l 16 = 0) : (codesL l).length = l.length := by
  unfold codesL
  rw [if_pos h, codeTo_len]
theorem lenI {l : List Int} (h : check l 16 = 0) {s : Nat} (hs : s < l.length) : l.getD s 0 = (len l s : Nat) := by
  have := (ok_b h s hs).1
  unfold len; omega
set_option maxHeartbeats 3200000 in
theorem dDecode9 (a b : Option Addr) (ca cb : Nat) (l : List Int) (row : List Bool) (w : World) (h1 : IsInts w a l) (h2 : IsBoo w b row) (hl : l.length ≤ 1000) (hr : row.length ≤ 1000000) (X Y E : Int) (hR : decL l row = (X, Y, E)) :
    Calls Try.prog 12 #[.slice a l.length ca, .slice b row.length cb] w fun e w' => e = .returned (.tuple #[.int .i64 X, .int .i64 Y, .int .i64 E]) ∧ Below w.heap.size w w' := by
  have C1 := Lib.hid (rCodes a ca l w h1 (by omega))
  have G1 := Lib.hid h1; have G2 := Lib.hid h2
  clear h1 h2
  by_cases hE : check l 16 = 0
  · have HOK := Lib.hid hE
    have HHIT := Lib.hid (fun s h => decL_hit (l := l) (row := row) (s := s) hE h)
    have HNO := Lib.hid (fun h => decL_none (l := l) (row := row) hE h)
    rw [hE] at C1
    rw [hR] at HHIT HNO
    have HCA := Lib.hid (fun s hs => codes_at (l := l) hE (s := s) hs)
    have HCL := Lib.hid (codes_len (l := l) hE)
    have HLI := Lib.hid (fun s hs => lenI (l := l) hE (s := s) hs)
    have HLB := Lib.hid (fun s hs => ok_b (l := l) hE s hs)
    have HCB := Lib.hid (fun s hs => ok_c (l := l) hE (s := s) hs)
    clear hE hR
    go_enter Try.func12, Try.ntmps12
    go_wp2_with fail
    refine C1.out.mono ?_; rintro e w1 ⟨v1, rfl, hI1, hb1⟩
    obtain ⟨cc, cd, rfl, hI1⟩ := hI1
    have HI := Lib.hid hI1
    have HB := Lib.hid hb1
    clear hI1 hb1
    go_wp2_with fail
    go_loopw [9, 10] (fun sh i wr => ∃ k : Nat, k ≤ l.length ∧ i = .int .i64 k ∧ sh = .bool ((List.range k).any (shortAt l row)) ∧ Hid (∀ s, s < k → ¬ Hit l row s) ∧ Below w1.heap.size w1 wr) (fun _ i _ => l.length - (intOf i).toNat)
    case atStart => exact ⟨0, Nat.zero_le _, rfl, rfl, Lib.hid (by intro s hs; omega), Below.refl _ _⟩
    case round =>
      obtain ⟨k, hk, rfl, rfl, hno, hb⟩ := hrel
      by_cases hlt : k < l.length
      · have hgl := (G1.out.kept HB.out).kept hb
        have hgb := (G2.out.kept HB.out).kept hb
        have hcc := HI.out.kept hb
        obtain ⟨x, rfl, hxb, cx0⟩ := hgl.at k hlt
        have cx := cx0 k hlt
        rw [HLI.out k hlt] at cx
        have hk2 : k < (codesL l).length := by rw [HCL.out]; exact hlt
        obtain ⟨y, rfl, hyb, cy0⟩ := hcc.at k hk2
        have cy := cy0 k hk2
        rw [HCA.out k hlt] at cy
        have hL16 := (HLB.out k hlt).2
        have hC := HCB.out k hlt
        have HSH := Lib.hid (show (List.range (k + 1)).any (shortAt l row) = ((List.range k).any (shortAt l row) || shortAt l row k) by rw [List.range_succ, List.any_append]; simp)
        have HHI := Lib.hid (hitAt_iff (row := row) hlt)
        have HSA := Lib.hid (show shortAt l row k = (decide (len l k ≠ 0) && begL (msb (code l k) (len l k)) row) from rfl)
        have HHA := Lib.hid (show hitAt l row k = (decide (len l k ≠ 0) && begL row (msb (code l k) (len l k))) from rfl)
        have HHk := Lib.hid (HHIT.out k)
        obtain ⟨SH, hSH⟩ : ∃ SH, (List.range k).any (shortAt l row) = SH := ⟨_, rfl⟩
        rw [hSH] at HSH ⊢
        have HCL2 := Lib.hid hk2
        have HGB := Lib.hid hgb
        obtain ⟨L, hL⟩ : ∃ L, len l k = L := ⟨_, rfl⟩
        obtain ⟨C, hCe⟩ : ∃ C, code l k = C := ⟨_, rfl⟩
        rw [hL] at cx hL16 hC HSA HHA HHk
        rw [hCe] at cy hC HSA HHA
        have HBk := Lib.hid hb
        rw [HCL.out]
        clear hgl hcc cx0 cy0 hSH hL hCe hgb hb hk2
        by_cases hL0 : L = 0
        · subst hL0
          have HNX := Lib.hid (show (List.range (k + 1)).any (shortAt l row) = SH by rw [HSH.out, HSA.out]; simp)
          have HNH := Lib.hid (show ∀ s, s < k + 1 → ¬ Hit l row s by
            intro s hs
            by_cases e : s = k
            · subst e; rw [← HHI.out, HHA.out]; simp
            · exact hno.out s (by omega))
          go_wp2_with fail
          go_roundw
          case rel => exact ⟨k + 1, by omega, by go_num, by rw [HNX.out], HNH, HBk.out⟩
          case measure => simp [intOf]; omega
        · have hne : ((L : Int) == 0) = false := by rw [beq_eq_false_iff_ne]; omega
          have hC60 : C < 2 ^ 60 := Nat.lt_of_lt_of_le hC (Nat.pow_le_pow_right (by decide) (by omega))
          have hxw : x.block < wr.heap.size := by have := HBk.out.size; have := HB.out.size; omega
          have hyw : y.block < wr.heap.size := by have := HBk.out.size; omega
          have CM := Lib.hid (fun W => dMsb C L (by omega) hC60 W)
          have HCB2 := Lib.hid hC
          clear hC60 hC
          go_wp2_with fail
          obtain ⟨SZ, hSZ⟩ : ∃ SZ, wr.heap.size = SZ := ⟨_, rfl⟩
          have HSZ := Lib.hid hSZ
          go_cut [11] from 31 to 39 (fun s11 wc => ∃ va vc, s11 = .slice va L vc ∧ Hid (IsBoo wc va (msb C L)) ∧ Hid (Below wr.heap.size wr wc))
          case first =>
            go_region_held3 (fun w1 => w1.cell? (x.add k) = some (.int .i64 L) ∧ w1.cell? (y.add k) = some (.int .i64 C)) (first | exact ⟨cx, cy⟩ | exact ⟨(hb5.cell (by rw [add_block]; exact hxw)).trans cx, (hb5.cell (by rw [add_block]; exact hyw)).trans cy⟩) ((go_at_call 23; refine (CM.out _).mono ?_; rintro e w5 ⟨v5, rfl, ho5, hb5⟩))
            all_goals
              obtain ⟨va, vc, rfl, hi5⟩ := ho5.isB
              rw [msb_len]
              have HI5 := Lib.hid hi5
              have HB5 := Lib.hid ((Below.refl wr.heap.size wr).drew.trans hb5)
              clear ho5 hi5 hb5
              go_wp2_with fail
              go_meet
              case rel => exact ⟨va, vc, rfl, HI5, HB5⟩
          case rest =>
            obtain ⟨va, vc, rfl, HI5, HB5⟩ := hcut
            have hb5 := HBk.out.trans (HB5.out.mono HBk.out.size)
            have hgb5 := HGB.out.kept HB5.out
            obtain ⟨B1, hB1⟩ : ∃ B1, begL row (msb C L) = B1 := ⟨_, rfl⟩
            obtain ⟨B2, hB2⟩ : ∃ B2, begL (msb C L) row = B2 := ⟨_, rfl⟩
            have D1 := Lib.hid (fun q => dBegins b va cb vc row (msb C L) (wc.drewN q) hgb5 HI5.out hr (by rw [msb_len]; omega) B1 hB1)
            have D2 := Lib.hid (fun q => dBegins va b vc cb (msb C L) row (wc.drewN q) HI5.out hgb5 (by rw [msb_len]; omega) hr B2 hB2)
            rw [msb_len] at D1 D2
            rw [hB1] at HHA
            rw [hB2] at HSA
            have cx5 := (HB5.out.cell (p := x.add k) (by rw [add_block]; exact hxw)).trans cx
            have HB6 := Lib.hid hb5
            clear hb5 hgb5 hB1 hB2 CM cy HB5 HI5 cx hSZ
            go_wp2_with fail
            refine (D1.out 0).mono ?_; rintro e w6 ⟨rfl, q6, rfl⟩
            cases B1 with
            | true =>
              have hit := HHI.out.1 (by rw [HHA.out]; simp; omega)
              have hxyz := HHk.out hit
              injection hxyz with e1 e2
              injection e2 with e2 e3
              subst e1 e2 e3
              have cx6 : (wc.drewN q6).cell? (x.add k) = some (.int .i64 L) := cx5
              have HB7 := Lib.hid (HB.out.trans ((below_dn HB6.out (q6 + 1)).mono HB.out.size))
              clear hit
              go_wp2_with fail
              go_region_held3 (fun w1 => w1.cell? (x.add k) = some (.int .i64 L)) (first | exact cx6) (fail)
              go_wp2_with fail
              go_ret3
              exact ⟨rfl, HB7.out⟩
            | false =>
              have HNH := Lib.hid (show ∀ s, s < k + 1 → ¬ Hit l row s by
                intro s hs
                by_cases e : s = k
                · subst e; rw [← HHI.out, HHA.out]; simp
                · exact hno.out s (by omega))
              have HNX := Lib.hid (show (List.range (k + 1)).any (shortAt l row) = (SH || B2) by rw [HSH.out, HSA.out]; simp [hL0])
              cases SH with
              | true =>
                go_wp2_with fail
                go_roundw
                case rel => exact ⟨k + 1, by omega, by go_num, by rw [HNX.out]; rfl, HNH, below_dn HB6.out q6⟩
                case measure => simp [intOf]; omega
              | false =>
                go_wp2_with fail
                refine (D2.out q6).mono ?_; rintro e w7 ⟨rfl, q7, rfl⟩
                go_wp2_with fail
                go_roundw
                case rel => exact ⟨k + 1, by omega, by go_num, by rw [HNX.out]; rfl, HNH, below_dn HB6.out (q6 + q7)⟩
                case measure => simp [intOf]; omega
      · obtain rfl : k = l.length := by omega
        have hn : ∀ s, ¬ Hit l row s := by
          intro s hs
          exact hno.out s hs.1 hs
        have hD := HNO.out hn
        have HBk := Lib.hid (HB.out.trans (hb.mono HB.out.size))
        clear hb
        obtain ⟨SH, hSH⟩ : ∃ SH, (List.range l.length).any (shortAt l row) = SH := ⟨_, rfl⟩
        rw [hSH] at hD ⊢
        cases SH with
        | true =>
          rw [if_pos rfl] at hD
          injection hD with e1 e2
          injection e2 with e2 e3
          subst e1 e2 e3
          clear hSH
          go_wp2_with fail
          go_ret3
          exact ⟨rfl, HBk.out⟩
        | false =>
          rw [if_neg (by decide)] at hD
          injection hD with e1 e2
          injection e2 with e2 e3
          subst e1 e2 e3
          clear hSH
          go_wp2_with fail
          go_ret3
          exact ⟨rfl, HBk.out⟩
  · have hR2 : X = 0 ∧ Y = 0 ∧ E = check l 16 := by
      unfold decL at hR
      rw [if_pos hE] at hR
      injection hR with e1 e2
      injection e2 with e2 e3
      exact ⟨e1.symm, e2.symm, e3.symm⟩
    obtain ⟨rfl, rfl, rfl⟩ := hR2
    clear hR
    obtain ⟨CE, hCE⟩ : ∃ CE, check l 16 = CE := ⟨_, rfl⟩
    rw [hCE] at hE C1 ⊢
    have hne : (CE != 0) = true := by rw [bne_iff_ne]; exact hE
    clear hCE
    go_enter Try.func12, Try.ntmps12
    go_wp2_with fail
    refine C1.out.mono ?_; rintro e w1 ⟨v1, rfl, hI1, hb1⟩
    have HB := Lib.hid hb1
    clear hI1 hb1
    go_wp2_with fail
    go_ret3
    exact ⟨rfl, HB.out⟩
end Go.Proofs.Ytbdhfmoididkgaa
