import Derived.Test.YtedmnlfbmmlcbaaJ06
import Derived.Deep.RegionWith
import Derived.Deep.CutRange
/- Layer 45, the document's: Encode, Decode. -/
namespace Go.Proofs.Ytedmnlfbmmlcbaa
open Go.ChangeShapes Go.WideShapes Go.ChangeAt Go.RowKit Go.Deep
set_option linter.unusedVariables false
set_option maxRecDepth 100000
open Range

/-- The pairs of bits and chances. -/
def prs (bl : List Bool) (l : List Int) : List (Bool × Nat) := bl.zip (nats l)
theorem prs_take (bl : List Bool) (l : List Int) (k : Nat) (h1 : k < bl.length) (h2 : k < l.length) : (prs bl l).take (k + 1) = (prs bl l).take k ++ [(bl.getD k false, (l.getD k 0).toNat)] := by
  unfold prs
  rw [List.take_succ_eq_append_getElem (by simp [nats]; omega)]
  congr 2
  simp [nats, List.getD_eq_getElem?_getD, h1, h2]
theorem prs_lt (bl : List Bool) (l : List Int) (h : l.all okB = true) : ∀ x ∈ prs bl l, x.2 < 2048 := by
  intro x hx
  obtain ⟨c, p⟩ := x
  exact nats_lt l h p (List.of_mem_zip hx).2
theorem dEncodeArg (a a2 : Option Addr) (n m c c2 : Nat) (w : World) (h : n ≠ m) :
    Calls Try.prog 40 #[.slice a n c, .slice a2 m c2] w fun e w' => e = .returned (.tuple #[.string ⟨#[]⟩, .int .i64 1]) ∧ w' = w := by
  have hb : ((n : Int) != (m : Int)) = true := by rw [bne_iff_ne]; omega
  go_enter Try.func40, Try.ntmps40
  go_wp2
  go_ret2
  exact ⟨rfl, rfl⟩
theorem dEncodeRange (a a2 : Option Addr) (c c2 : Nat) (l : List Int) (w : World) (h : IsInts w a2 l) (ho : l.all okB = false) :
    Calls Try.prog 40 #[.slice a l.length c, .slice a2 l.length c2] w fun e w' => e = .returned (.tuple #[.string ⟨#[]⟩, .int .i64 2]) ∧ w' = w := by
  have C := Lib.hid (gFine a2 c2 l _ h)
  rw [ho] at C
  have hb : ((l.length : Int) != (l.length : Int)) = false := by simp
  clear h ho
  go_enter Try.func40, Try.ntmps40
  go_wp2_with fail
  refine C.out.mono ?_; rintro e w1 ⟨rfl, rfl⟩
  go_wp2_with fail
  go_ret2
  exact ⟨rfl, rfl⟩
theorem any_new {X w2 : World} {c0 c1 c2 c3 : Value} (h : Below (X.alloc (.cells #[c0, c1, c2, c3] 89)).drew.heap.size (X.alloc (.cells #[c0, c1, c2, c3] 89)).drew w2) : AnyR w2 X.heap.size :=
  ⟨c0, c1, c2, c3, (h.block _ (by simp)).trans (heap_alloc_new X _)⟩
theorem below_new {X w2 : World} {o : Obj} (h : Below (X.alloc o).drew.heap.size (X.alloc o).drew w2) : Below X.heap.size X w2 :=
  (((Below.refl _ _).alloc (Nat.le_refl _) o).drew).trans (h.mono (by simp))
theorem undrewB {X w2 : World} {B : Nat} (h : Below B X.drew w2) : Below B X w2 := ⟨h.os, h.tape, h.output, h.size, h.block⟩
theorem conv_four (Y : World) (A T : Nat) (hA : A < 4294967296) : (convert 52 9 (.slice (some ⟨Y.heap.size, 0, none⟩) 4 4)).run Try.prog (Y.alloc (.cells #[.int .u8 ((A : Int) / 16777216), .int .u8 ((A : Int) / 65536 % 256), .int .u8 ((A : Int) / 256 % 256), .int .u8 ((A : Int) % 256)] T)) =
            .ok (.string (sB (four A))) (Y.alloc (.cells #[.int .u8 ((A : Int) / 16777216), .int .u8 ((A : Int) / 65536 % 256), .int .u8 ((A : Int) / 256 % 256), .int .u8 ((A : Int) % 256)] T)) := by
  have hg := heap_alloc_new Y (.cells #[.int .u8 ((A : Int) / 16777216), .int .u8 ((A : Int) / 65536 % 256), .int .u8 ((A : Int) / 256 % 256), .int .u8 ((A : Int) % 256)] T)
  refine run_convert_bytes_back (P := Try.prog) _ 52 9 5 ⟨Y.heap.size, 0, none⟩ 4 (four A) Try.underlying52 Try.underlying5 Try.underlying9 (fun j hj => ?_)
  have hj4 : j < 4 := hj
  have ha : (⟨Y.heap.size, 0, none⟩ : Addr).add j = ⟨Y.heap.size, j, none⟩ := by unfold Addr.add; split <;> simp_all
  rw [ha, cell_in hg]
  obtain rfl | rfl | rfl | rfl : j = 0 ∨ j = 1 ∨ j = 2 ∨ j = 3 := by omega
  · simp [four]; omega
  · simp [four]
  · simp [four]
  · simp [four]
set_option maxHeartbeats 6400000 in
theorem dEncode (a a2 : Option Addr) (c c2 : Nat) (bl : List Bool) (l : List Int) (w : World) (h1 : IsBoo w a bl) (h : IsInts w a2 l) (hlen : bl.length = l.length) (hl : l.length ≤ 100000) (ho : l.all okB = true) :
    Calls Try.prog 40 #[.slice a l.length c, .slice a2 l.length c2] w fun e w' => e = .returned (.tuple #[.string (sB (told (prs bl l))), .int .i64 0]) ∧ Below w.heap.size w w' := by
  have C := Lib.hid (gFine a2 c2 l _ h)
  rw [ho] at C
  have hb : ((l.length : Int) != (l.length : Int)) = false := by simp
  have HI := Lib.hid h
  have HJ := Lib.hid h1
  have HO := Lib.hid ho
  have HLN := Lib.hid hlen
  clear h h1 ho hlen
  go_enter Try.func40, Try.ntmps40
  go_wp2_with fail
  refine C.out.mono ?_; rintro e w1 ⟨rfl, hww⟩
  obtain rfl := hww.symm
  go_wp2_with fail
  obtain ⟨g, hg⟩ : ∃ g, w.heap.size = g := ⟨_, rfl⟩
  obtain ⟨W, hW⟩ : ∃ W, w.alloc (.cells #[.int .u64 0, .int .u64 4294967295, .int .u64 0, .string ⟨#[]⟩] 89) = W := ⟨_, rfl⟩
  have HR := Lib.hid (show IsR W g ⟨0, top, 0, []⟩ by rw [← hW, ← hg]; exact heap_alloc_new _ _)
  have HB := Lib.hid (show Below g w W by rw [← hW, ← hg]; exact (Below.refl _ _).alloc (Nat.le_refl _) _)
  rw [hg, hW]
  have hgl : w.heap.size ≤ g := by omega
  clear hW C
  clear hb
  go_loopw [7, 8] (fun o i wr => ∃ (k : Nat) (O : ByteArray), k ≤ l.length ∧ i = .int .i64 k ∧ o = .string O ∧ O.size ≤ 4 * k ∧ Hid (O.data.toList = (run 0 top ((prs bl l).take k)).1) ∧ IsR wr g ⟨(run 0 top ((prs bl l).take k)).2.1, (run 0 top ((prs bl l).take k)).2.2, 0, []⟩ ∧ Below g w wr) (fun _ i _ => l.length - (intOf i).toNat)
  case atStart => exact ⟨0, ⟨#[]⟩, Nat.zero_le _, rfl, rfl, by decide, Lib.hid rfl, HR.out, HB.out⟩
  case round =>
    obtain ⟨k, O, hk, rfl, rfl, hOs, hO, hr, hb⟩ := hrel
    by_cases hlt : k < l.length
    · obtain ⟨x, rfl, hxb, hc⟩ := HI.out.at k hlt
      obtain ⟨y, rfl, hyb, cy⟩ := HJ.out.at k (by rw [HLN.out]; exact hlt)
      have cx := hc k hlt
      have hxk : (x.add k).block < g := by rw [add_block]; omega
      have hyk : (y.add k).block < g := by rw [add_block]; omega
      rw [← hb.cell hxk] at cx
      rw [← hb.cell hyk] at cy
      have hok := all_at l HO.out k hlt
      have HT := Lib.hid (prs_take bl l k (by rw [HLN.out]; exact hlt) hlt)
      have hap := run_apart 0 top ((prs bl l).take k) apart_all (fun x hx => prs_lt bl l HO.out x (List.mem_of_mem_take hx))
      obtain ⟨Z, hZ⟩ : ∃ Z, l.getD k 0 = Z := ⟨_, rfl⟩
      rw [hZ] at cx hok HT
      obtain ⟨P, rfl⟩ : ∃ P : Nat, Z = P := ⟨Z.toNat, by have := okB_yes hok; omega⟩
      rw [Int.toNat_natCast] at HT
      obtain ⟨BT, hBT⟩ : ∃ BT, bl.getD k false = BT := ⟨_, rfl⟩
      rw [hBT] at cy HT
      have HRS := Lib.hid (run_snoc 0 top ((prs bl l).take k) BT P)
      rw [← HT.out] at HRS
      obtain ⟨⟨RB, A, Bb⟩, hR⟩ : ∃ r, run 0 top ((prs bl l).take k) = r := ⟨_, rfl⟩
      rw [hR] at hO hr hap HRS
      simp only at hO hr hap HRS
      have hpp : 1 ≤ P ∧ P ≤ 2047 := by have := okB_yes hok; omega
      have hpl := part_len A Bb P BT
      have CP := Lib.hid (fun W => dPart ⟨A, Bb, 0, []⟩ P BT hap hpp W)
      obtain ⟨⟨TL, TA, TB⟩, hT⟩ : ∃ r, Range.part A Bb P BT = r := ⟨_, rfl⟩
      simp only [hT] at CP HRS hpl
      have hTs : (sB TL).size ≤ 4 := by rw [sB_size]; exact hpl
      obtain ⟨lg, c0, c1, c2, c3, f0, f1, f2, f3⟩ := hr.cells
      simp only at c0 c1 c2 c3
      have HR1 := Lib.hid hr
      have HB1 := Lib.hid hb
      have hgs := hb.size
      have CP2 := Lib.hid (fun W (hb : Below wr.heap.size wr W) => (CP.out W).mono (R' := fun e w' => e = .returned (.tuple #[rV ⟨TA, TB, 0, []⟩, .string (sB TL)]) ∧ Below wr.heap.size wr w') (by rintro e w' ⟨h1, h2⟩; exact ⟨h1, hb.trans (h2.mono hb.size)⟩))
      have hOB : O.size ≤ 400000 := by omega
      have HO2 := Lib.hid (show (O ++ sB TL).data.toList = (run 0 top ((prs bl l).take (k + 1))).1 by rw [HRS.out, sB_app, hO.out])
      have HO3 := Lib.hid (show (O ++ sB TL).size ≤ 4 * (k + 1) by rw [ByteArray.size_append]; omega)
      have HRS2 := Lib.hid (show (run 0 top ((prs bl l).take (k + 1))).2 = (TA, TB) by rw [HRS.out])
      clear hr hb hZ hBT hR hap hT hok hc hpl hO HRS hyk hxk
      have hxk : (x.add k).block < wr.heap.size := by rw [add_block]; omega
      have hyk : (y.add k).block < wr.heap.size := by rw [add_block]; omega
      go_wp2_with fail
      obtain ⟨SZ, hSZ⟩ : ∃ SZ, wr.heap.size = SZ := ⟨_, rfl⟩
      have HSZ := Lib.hid hSZ
      clear hSZ CP2
      go_cut [9, 10] from 20 to 42 (fun s9 s10 wc => ∃ gb, s9 = .pointer (some ⟨gb, 0, none⟩) ∧ s10 = .string (sB TL) ∧ Below SZ wr wc ∧ SZ ≤ gb ∧ IsR wc gb ⟨TA, TB, 0, []⟩)
      case first =>
        go_region_with (go_at_call 61; refine (CP.out _).mono ?_; rintro e w2 ⟨rfl, hb2⟩; (first | (have ha2 := any_new hb2; obtain ⟨lga, ⟨a0, a1, a2, a3, b0, b1, b2, b3⟩, h0, h1, h2, h3⟩ := ha2.free; have HHB := Lib.hid (below_new hb2); clear hb2) | (have HHC := Lib.hid hb2; have hszc := hb2.size; clear hb2)))
        all_goals
          go_wp2_with fail
          go_meet
          case rel => first
            | exact ⟨_, rfl, rfl, by rw [← HSZ.out]; exact below_setR HHB.out (Nat.le_refl _) ⟨TA, TB, 0, []⟩, Nat.le_of_eq HSZ.out.symm, ha2.set ⟨TA, TB, 0, []⟩⟩
            | exact ⟨_, rfl, rfl, by rw [← HSZ.out]; exact (undrewB HHC.out).alloc (show wr.heap.size ≤ _ from hszc) _, by rw [← HSZ.out]; exact hszc, heap_alloc_new _ _⟩
      case rest =>
        obtain ⟨gb, rfl, rfl, hb3, hgb, hI⟩ := hcut
        have hsz3 : SZ ≤ wc.heap.size := by have := hb3.size; have := HSZ.out; omega
        have hgs : g < SZ := by rw [← HSZ.out]; exact lg
        have hrg : IsR wc g ⟨A, Bb, 0, []⟩ := (hb3.block g hgs).trans HR1.out
        obtain ⟨la, a0, a1, a2, a3, b0, b1, b2, b3⟩ := hI.cells
        obtain ⟨lg', d0, d1, d2, d3, e0, e1, e2, e3⟩ := hrg.cells
        simp only at a0 a1 a2 a3 d0 d1 d2 d3
        have HR4 := Lib.hid (hrg.any.set ⟨TA, TB, 0, []⟩)
        have HB4 := Lib.hid (below_setR (g := g) (HB1.out.trans (hb3.mono (by omega))) (Nat.le_refl _) ⟨TA, TB, 0, []⟩)
        have hpair := HRS2.out
        rw [Prod.ext_iff] at hpair
        have HA2 := Lib.hid hpair.1
        have HB2 := Lib.hid hpair.2
        clear hb3 hI hrg c0 c1 c2 c3 f0 f1 f2 f3 hxk hyk cx cy hpair
        go_wp2_with fail
        go_roundw
        case rel => exact ⟨k + 1, _, by omega, by go_num, rfl, HO3.out, HO2, by rw [HA2.out, HB2.out]; exact HR4.out, HB4.out⟩
        case measure => simp [intOf]; omega
    · obtain rfl : k = l.length := by omega
      have HT := Lib.hid (show (prs bl l).take l.length = prs bl l by rw [List.take_of_length_le]; unfold prs; rw [List.length_zip, nats_len]; omega)
      rw [HT.out] at hO hr
      have hap := run_apart 0 top (prs bl l) apart_all (fun x hx => prs_lt bl l HO.out x hx)
      by_cases h0 : l.length = 0
      · have HN := Lib.hid (show told (prs bl l) = [] by
          have : prs bl l = [] := by apply List.eq_nil_of_length_eq_zero; unfold prs; rw [List.length_zip, nats_len]; omega
          rw [this]; rfl)
        have hz : ((l.length : Int) == 0) = true := by rw [beq_iff_eq]; omega
        have HB1 := Lib.hid hb
        clear hO hr hb hap
        go_wp2_with fail
        go_ret2
        exact ⟨by rw [HN.out]; rfl, HB1.out.mono hgl⟩
      · have hz : ((l.length : Int) == 0) = false := by rw [beq_eq_false_iff_ne]; omega
        have HN := Lib.hid (show told (prs bl l) = (run 0 top (prs bl l)).1 ++ four (run 0 top (prs bl l)).2.1 by
          unfold told
          rw [if_neg]
          intro e
          have := congrArg List.length e
          unfold prs at this
          rw [List.length_zip, nats_len, HLN.out, Nat.min_self, List.length_nil] at this
          omega)
        obtain ⟨⟨RB, A, Bb⟩, hR⟩ : ∃ r, run 0 top (prs bl l) = r := ⟨_, rfl⟩
        rw [hR] at hO hr hap HN
        simp only at hO hr hap HN
        have hA32 : A < 4294967296 := by have := hap.1; have := hap.2.1; omega
        obtain ⟨lg, c0, c1, c2, c3, f0, f1, f2, f3⟩ := hr.cells
        simp only at c0 c1 c2 c3
        have HB1 := Lib.hid hb
        have HOO := Lib.hid hO
        have hOB : O.size ≤ 400000 := by omega
        have hcv : ∀ (Y : World) (T : Nat), (convert 52 9 (.slice (some ⟨Y.heap.size, 0, none⟩) 4 4)).run Try.prog (Y.alloc (.cells #[.int .u8 ((A : Int) / 16777216), .int .u8 ((A : Int) / 65536 % 256), .int .u8 ((A : Int) / 256 % 256), .int .u8 ((A : Int) % 256)] T)) =
            .ok (.string (sB (four A))) (Y.alloc (.cells #[.int .u8 ((A : Int) / 16777216), .int .u8 ((A : Int) / 65536 % 256), .int .u8 ((A : Int) / 256 % 256), .int .u8 ((A : Int) % 256)] T)) := by
          intro Y T
          exact conv_four Y A T hA32
        have hf4 : (sB (four A)).size ≤ 4 := by rw [sB_size]; simp [four]
        have HSR := Lib.hid (show O ++ sB (four A) = sB (told (prs bl l)) by
          rw [HN.out, ← hO.out, ← sB_of (O ++ sB (four A)), sB_app])
        clear hO hr hb hap hR HN
        go_wp2_with fail
        go_ret2
        exact ⟨by rw [HSR.out]; rfl, (HB1.out.mono hgl).alloc (by have := HB1.out.size; omega) _⟩
end Go.Proofs.Ytedmnlfbmmlcbaa
