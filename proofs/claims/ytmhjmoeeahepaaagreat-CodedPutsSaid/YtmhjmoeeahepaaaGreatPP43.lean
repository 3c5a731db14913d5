import Derived.Test.YtmhjmoeeahepaaaGreatPP42
/- Layer 27: Tokens, of what was written. -/
namespace Go.Proofs.YtmhjmoeeahepaaaGreat
open Go.ChangeShapes Go.WideShapes Go.ChangeAt Go.RowKit
set_option linter.unusedVariables false
set_option linter.unusedSimpArgs false
set_option maxRecDepth 100000
open Bits hiding packF pack_length
open RunsMath KraftMath CanonMath TurnMath Pm
theorem endR_good (H X : List Bool) (k : Nat) (hk : k < 8) (a : List Tk) : endR (H ++ (X ++ List.replicate k false)) (H.length + X.length) a = .good a := by
  have e : H ++ (X ++ List.replicate k false) = (H ++ X) ++ List.replicate k false := by rw [List.append_assoc]
  unfold endR
  rw [e, ← List.length_append, List.drop_left, List.length_append, List.length_replicate, Nat.add_sub_cancel_left]
  have hp : peek (List.replicate k false) k = 0 := by
    unfold peek
    rw [List.take_of_length_le (by simp)]
    have := word_pad [] k
    rw [List.nil_append] at this
    rw [this]; rfl
  rw [hp, if_neg (by omega)]
theorem endR_more (H X Y : List Bool) (hY : 8 ≤ Y.length) (a : List Tk) : endR (H ++ (X ++ Y)) (H.length + X.length) a = .bad 4 := by
  unfold endR
  rw [if_pos (.inl (by simp only [List.length_append]; omega))]
/-- What is known of tokens that are written. -/
structure Kt27 (l : List Tk) : Prop where
  some : l ≠ []
  few : l.length ≤ 300
  ok : ∀ t ∈ l, t.ok
theorem Kt27.tabs {l : List Tk} (h : Kt27 l) : Tabs l (tabM l) (tabD l) := tabs_of l h.some h.few h.ok
theorem Kt27.far {l : List Tk} (h : Kt27 l) : (∃ t ∈ l, t.k = 1) → (if farB l then Option.some (tabD l) else none) = Option.some (tabD l) := fun e => by rw [if_pos ((far_iff l).2 e)]
theorem Kt27.size {l : List Tk} (h : Kt27 l) : (bytesK l).length ≤ 7501 := by
  have h1 := bitsK_few l h.some h.few h.ok
  obtain ⟨k, hk, hs⟩ := bytesK_spread l
  have h2 := congrArg List.length hs
  rw [spread_length, List.length_append, List.length_replicate] at h2
  omega
theorem str_list (b : List UInt8) : (⟨b.toArray⟩ : ByteArray).data.toList = b := by simp
theorem str_size (b : List UInt8) : (⟨b.toArray⟩ : ByteArray).size = b.length := by simp [ByteArray.size]
theorem bitsK_eq (l : List Tk) : bitsK l = headsB (farB l) (tabM l) (tabD l) ++ l.flatMap (tokB (tabM l) (tabD l)) := rfl
theorem cTok27 (l : List Tk) (h : Kt27 l) (s : List UInt8) (hs : s.length ≤ 10000) (rest : List Bool) (hr : spread s = headsB (farB l) (tabM l) (tabD l) ++ rest) (raw : Nat) (h1 : 1 ≤ raw) (h2 : raw ≤ 65536) (R : FR) (hL : loopR (tabM l) (if farB l then some (tabD l) else none) (headsB (farB l) (tabM l) (tabD l) ++ rest) (raw + 1) raw (headsB (farB l) (tabM l) (tabD l)).length [] = R) (w : World) :
    Calls Tryz.prog 13 #[.string ⟨s.toArray⟩, .int .i64 raw] w fun e w' => ∃ v E, e = .returned (.tuple #[v, .int .i64 E]) ∧ Below w.heap.size w w' ∧ EndK R w v E w' :=
  cTokAll w ⟨s.toArray⟩ (by rw [str_size]; unfold maxLen; omega) raw h1 h2 R (fun W g hW => by
    rw [str_list] at hW
    exact read27W l _ _ h.tabs s rest hr raw h2 R (by rw [hr]; exact hL) W g hW)
/-- What is written is read. -/
theorem cTokBack (l : List Tk) (h : Kt27 l) (hz : sumK l ≤ 65536) (w : World) :
    Calls Tryz.prog 13 #[.string ⟨(bytesK l).toArray⟩, .int .i64 (sumK l)] w fun e w' => ∃ v, e = .returned (.tuple #[v, .int .i64 0]) ∧ Below w.heap.size w w' ∧ OwnK w.heap.size w' v l := by
  obtain ⟨k, hk, hs⟩ := bytesK_spread l
  have hsz := h.size
  have hsl := sum_len l h.ok
  have h1 : 1 ≤ sumK l := by have := List.length_pos_iff.2 h.some; omega
  refine (cTok27 l h (bytesK l) (by omega) (l.flatMap (tokB (tabM l) (tabD l)) ++ List.replicate k false) (by rw [hs, bitsK_eq, List.append_assoc]) (sumK l) h1 hz (.good l) ?_ w).mono ?_
  · have := loop_back h.tabs h.ok _ h.far (List.replicate k false) 0 l (headsB (farB l) (tabM l) (tabD l)) [] (sumK l + 1) (fun t e => e) (by omega)
    change loopR _ _ _ (sumK l + 1) (sumK l) _ _ = _ at this
    rw [this, loop_end _ _ _ _ _ _ (by omega), endR_good _ _ _ hk, List.nil_append]
  · rintro e w' ⟨v, E, rfl, hb, rfl, ho⟩
    exact ⟨v, rfl, hb, ho⟩
/-- With a byte more it is another form. -/
theorem cTokMore (l : List Tk) (h : Kt27 l) (hz : sumK l ≤ 65536) (b : UInt8) (w : World) :
    Calls Tryz.prog 13 #[.string ⟨(bytesK l ++ [b]).toArray⟩, .int .i64 (sumK l)] w fun e w' => e = .returned (.tuple #[.slice none 0 0, .int .i64 4]) ∧ Below w.heap.size w w' := by
  obtain ⟨k, hk, hs⟩ := bytesK_spread l
  have hsz := h.size
  have hsl := sum_len l h.ok
  have h1 : 1 ≤ sumK l := by have := List.length_pos_iff.2 h.some; omega
  refine (cTok27 l h (bytesK l ++ [b]) (by rw [List.length_append, List.length_singleton]; omega) (l.flatMap (tokB (tabM l) (tabD l)) ++ (List.replicate k false ++ spread [b])) (by rw [spread_append, hs, bitsK_eq]; simp only [List.append_assoc]) (sumK l) h1 hz (.bad 4) ?_ w).mono ?_
  · have := loop_back h.tabs h.ok _ h.far (List.replicate k false ++ spread [b]) 0 l (headsB (farB l) (tabM l) (tabD l)) [] (sumK l + 1) (fun t e => e) (by omega)
    change loopR _ _ _ (sumK l + 1) (sumK l) _ _ = _ at this
    rw [this, loop_end _ _ _ _ _ _ (by omega), endR_more _ _ _ (by rw [List.length_append, spread_length]; simp)]
  · rintro e w' ⟨v, E, rfl, hb, rfl, rfl⟩
    exact ⟨rfl, hb⟩
/-- With a byte less it is too short. -/
theorem cTokLess (l : List Tk) (h : Kt27 l) (hz : sumK l ≤ 65536) (w : World) :
    Calls Tryz.prog 13 #[.string ⟨((bytesK l).take ((bytesK l).length - 1)).toArray⟩, .int .i64 (sumK l)] w fun e w' => e = .returned (.tuple #[.slice none 0 0, .int .i64 3]) ∧ Below w.heap.size w w' := by
  obtain ⟨k, hk, hs⟩ := bytesK_spread l
  have hsz := h.size
  have hsl := sum_len l h.ok
  have h1 : 1 ≤ sumK l := by have := List.length_pos_iff.2 h.some; omega
  have hl2 := congrArg List.length hs
  rw [spread_length, List.length_append, List.length_replicate] at hl2
  have hpos : 1 ≤ (bytesK l).length := by
    refine Decidable.byContradiction fun hn => ?_
    obtain ⟨t, ht⟩ := List.exists_mem_of_ne_nil l h.some
    have h3 : (tabB (tabM l)).length ≤ (bitsK l).length := by rw [bitsK_eq]; unfold headsB; simp only [List.length_append]; omega
    have h4 : 4 ≤ (tabB (tabM l)).length := by
      unfold tabB writeB
      rw [List.length_append, show (headB (ofR (packL (tabM l)))).length = 4 + 3 * headN (ofR (packL (tabM l))) 19 from headTo_len _ _ _]
      omega
    omega
  refine (cTokAll w ⟨((bytesK l).take ((bytesK l).length - 1)).toArray⟩ (by rw [str_size, List.length_take]; unfold maxLen; omega) (sumK l) h1 hz (.bad 3) (fun W g hW => ?_)).mono ?_
  · rw [str_list] at hW
    refine read27Cut l _ _ h.tabs h.ok h.some _ (8 * ((bytesK l).length - 1)) ?_ (show 8 * ((bytesK l).length - 1) < (bitsK l).length by omega) (show (bitsK l).length ≤ _ by omega) hz W g hW
    rw [spread_take, hs, take_lo (by omega)]
    rfl
  · rintro e w' ⟨v, E, rfl, hb, rfl, rfl⟩
    exact ⟨rfl, hb⟩
/-- Of fewer bytes than the tokens are, it is another form. -/
theorem cTokPart (q : List Tk) (t : Tk) (l : List Tk) (hl : l = q ++ [t]) (h : Kt27 l) (m : Nat) (h1 : 1 ≤ m) (hm : m < szN t) (hz : sumK q + m ≤ 65536) (w : World) :
    Calls Tryz.prog 13 #[.string ⟨(bytesK l).toArray⟩, .int .i64 (sumK q + m : Nat)] w fun e w' => e = .returned (.tuple #[.slice none 0 0, .int .i64 4]) ∧ Below w.heap.size w w' := by
  obtain ⟨k, hk, hs⟩ := bytesK_spread l
  have hsz := h.size
  have hsq := sum_len q (fun x hx => h.ok x (by rw [hl]; simp [hx]))
  have hfm : l.flatMap (tokB (tabM l) (tabD l)) = q.flatMap (tokB (tabM l) (tabD l)) ++ tokB (tabM l) (tabD l) t := by
    conv => lhs; arg 2; rw [hl]
    simp
  have ht : t ∈ l := by rw [hl]; simp
  refine (cTok27 l h (bytesK l) (by omega) (q.flatMap (tokB (tabM l) (tabD l)) ++ (tokB (tabM l) (tabD l) t ++ List.replicate k false)) (by rw [hs, bitsK_eq, hfm]; simp only [List.append_assoc]) (sumK q + m) (by omega) hz (.bad 4) ?_ w).mono ?_
  · have := loop_back h.tabs h.ok _ h.far (tokB (tabM l) (tabD l) t ++ List.replicate k false) m q (headsB (farB l) (tabM l) (tabD l)) [] (sumK q + m + 1) (fun x hx => by rw [hl]; simp [hx]) (by omega)
    rw [this]
    obtain ⟨f, hf⟩ : ∃ f, sumK q + m + 1 - q.length = f + 1 := ⟨sumK q + m - q.length, by omega⟩
    have hb := tok_back h.tabs ht (h.ok t ht) _ (fun e => h.far ⟨t, ht, e⟩) (headsB (farB l) (tabM l) (tabD l) ++ q.flatMap (tokB (tabM l) (tabD l))) (List.replicate k false)
    rw [List.append_assoc, List.length_append] at hb
    rw [hf, loopR, if_neg (by omega), hb]
    simp only
    rw [if_pos hm]
  · rintro e w' ⟨v, E, rfl, hb, rfl, rfl⟩
    exact ⟨rfl, hb⟩
/-- Of no bytes it is too short. -/
theorem cTokVoid (w : World) : Calls Tryz.prog 13 #[.string ⟨#[]⟩, .int .i64 9] w fun e w' => e = .returned (.tuple #[.slice none 0 0, .int .i64 3]) ∧ Below w.heap.size w w' := by
  refine (cTokAll w ⟨#[]⟩ (by decide) 9 (by decide) (by decide) (.bad 3) (fun W g hW => ?_)).mono ?_
  · have := read27No1 W g 9 [] hW 3 (by decide) (rdt_none g 401 [] 0 (by decide) (by decide) (by decide))
    exact this
  · rintro e w' ⟨v, E, rfl, hb, rfl, rfl⟩
    exact ⟨rfl, hb⟩
end Go.Proofs.YtmhjmoeeahepaaaGreat

/- Layer 27: the document's Same; how many bytes. -/
namespace Go.Proofs.YtmhjmoeeahepaaaGreat
open Go.ChangeShapes Go.WideShapes Go.ChangeAt Go.RowKit
set_option linter.unusedVariables false
set_option linter.unusedSimpArgs false
set_option maxRecDepth 100000
set_option maxHeartbeats 1600000 in
theorem dSameK (a b : Option Addr) (ca cb n : Nat) (l : List Tk) (hn : l.length = n) (hn2 : n ≤ 100000) (w : World) (h1 : IsTk w a l) (h2 : IsTk w b l) :
    Calls Tryz.prog 14 #[.slice a n ca, .slice b n cb] w fun e w' => e = .returned (.bool true) ∧ ∃ k, w' = w.drewN k := by
  have hne : ((n : Int) == (n : Int)) = true := by simp
  have hne' : ((n : Int) != (n : Int)) = false := by simp
  have H1 := Lib.hid h1
  have H2 := Lib.hid h2
  clear h1 h2
  go_enter Tryz.func14, Tryz.ntmps14
  go_wp2
  clear hne hne'
  go_loopw [5] (fun i wr => ∃ k : Nat, k ≤ n ∧ i = .int .i64 k ∧ ∃ q, wr = w.drewN q) (fun i _ => n - (intOf i).toNat)
  case atStart => exact ⟨0, Nat.zero_le _, rfl, 0, rfl⟩
  case round =>
    obtain ⟨k, hk, rfl, q, rfl⟩ := hrel
    by_cases hlt : k < n
    · obtain ⟨x, rfl, -, hx⟩ := H1.out.at k (by omega)
      obtain ⟨y, rfl, -, hy⟩ := H2.out.at k (by omega)
      obtain ⟨⟨tk, tb, tl, td, tr⟩, hX⟩ : ∃ t, l[k] = t := ⟨_, rfl⟩
      rw [hX] at hx hy
      obtain ⟨x0, x1, x2, x3, x4⟩ := hx
      obtain ⟨y0, y1, y2, y3, y4⟩ := hy
      simp only at x0 x1 x2 x3 x4 y0 y1 y2 y3 y4
      clear hX
      go_wp2
      go_region
      go_wp2
      go_roundw
      case rel => exact ⟨k + 1, by omega, by go_num, _, rfl⟩
      case measure => simp [intOf]; omega
    · obtain rfl : k = n := by omega
      go_wp2
      go_ret
      exact ⟨rfl, _, rfl⟩
end Go.Proofs.YtmhjmoeeahepaaaGreat

/- Layer 27: the example. -/
namespace Go.Proofs.YtmhjmoeeahepaaaGreat
open Go.ChangeShapes Go.WideShapes Go.ChangeAt Go.RowKit
set_option linter.unusedVariables false
set_option linter.unusedSimpArgs false
set_option maxRecDepth 100000
open Bits hiding packF pack_length
open RunsMath KraftMath CanonMath TurnMath Pm
def exq : List Tk := [⟨0, 97, 0, 0, 0⟩, ⟨0, 98, 0, 0, 0⟩, ⟨1, 0, 30, 2, 0⟩]
def ext : Tk := ⟨2, 0, 4, 0, 1⟩
def exl : List Tk := [⟨0, 97, 0, 0, 0⟩, ⟨0, 98, 0, 0, 0⟩, ⟨1, 0, 30, 2, 0⟩, ⟨2, 0, 4, 0, 1⟩]
theorem ex_kt : Kt27 exl := ⟨by decide, by decide, by decide⟩
theorem bitsK_pos (l : List Tk) : 0 < (bitsK l).length := by
  have h3 : (tabB (tabM l)).length ≤ (bitsK l).length := by rw [bitsK_eq]; unfold headsB; simp only [List.length_append]; omega
  have h4 : 4 ≤ (tabB (tabM l)).length := by
    unfold tabB writeB
    rw [List.length_append, show (headB (ofR (packL (tabM l)))).length = 4 + 3 * headN (ofR (packL (tabM l))) 19 from headTo_len _ _ _]
    omega
  omega
theorem bytesK_len (l : List Tk) : (bytesK l).length = ((bitsK l).length + 7) / 8 := by
  obtain ⟨k, hk, hs⟩ := bytesK_spread l
  have h2 := congrArg List.length hs
  rw [spread_length, List.length_append, List.length_replicate] at h2
  omega
theorem isTk4 {w : World} {g : Nat} {t : TypeId} (h : w.heap[g]? = some (.cells #[.int .i64 0, .int .i64 97, .int .i64 0, .int .i64 0, .int .i64 0, .int .i64 0, .int .i64 98, .int .i64 0, .int .i64 0, .int .i64 0, .int .i64 1, .int .i64 0, .int .i64 30, .int .i64 2, .int .i64 0, .int .i64 2, .int .i64 0, .int .i64 4, .int .i64 0, .int .i64 1] t (0, 0))) : IsTk w (some ⟨g, 0, none⟩) exl := by
  refine .inr ⟨_, rfl, fun i t ht => ?_⟩
  have e1 : (⟨g, 0, none⟩ : Addr).add (i * 5) = ⟨g, i * 5 + 0, none⟩ := by unfold Addr.add; split <;> simp_all
  unfold tkAt
  rw [e1]
  rcases i with _ | _ | _ | _ | i
  · have ht' : exl.getD 0 ⟨0, 0, 0, 0, 0⟩ = t := by simpa [exl] using ht
    subst ht'
    exact ⟨cell_in h 0, cell_in h 1, cell_in h 2, cell_in h 3, cell_in h 4⟩
  · have ht' : exl.getD 1 ⟨0, 0, 0, 0, 0⟩ = t := by simpa [exl] using ht
    subst ht'
    exact ⟨cell_in h 5, cell_in h 6, cell_in h 7, cell_in h 8, cell_in h 9⟩
  · have ht' : exl.getD 2 ⟨0, 0, 0, 0, 0⟩ = t := by simpa [exl] using ht
    subst ht'
    exact ⟨cell_in h 10, cell_in h 11, cell_in h 12, cell_in h 13, cell_in h 14⟩
  · have ht' : exl.getD 3 ⟨0, 0, 0, 0, 0⟩ = t := by simpa [exl] using ht
    subst ht'
    exact ⟨cell_in h 15, cell_in h 16, cell_in h 17, cell_in h 18, cell_in h 19⟩
  · simp [exl] at ht
set_option maxHeartbeats 3200000 in
theorem awake27 (w : World) : Calls Tryz.prog 5 #[] w fun e w' => e = .returned (.bool true) ∧ Below w.heap.size w w' := by
  have CP := Lib.hid (fun a c W h => cPutK a c 4 exl W rfl h (by decide) (by decide) ex_kt.ok)
  have CT := Lib.hid (fun W => cTokBack exl ex_kt (by decide) W)
  have CTP := Lib.hid (fun W => cTokPart exq ext exl rfl ex_kt 3 (by decide) (by decide) (by decide) W)
  have CTV := Lib.hid cTokVoid
  have CPN := Lib.hid (fun W => cPutNone none 0 W)
  have CS := Lib.hid (fun a c W h => cSizeK a c 4 exl W rfl h (by decide) (by decide) ex_kt.ok)
  have CSN := Lib.hid (fun W => cSizeNone none 0 W)
  have hp := bitsK_pos exl
  have hl := bytesK_len exl
  have hfew := bitsK_few exl ex_kt.some ex_kt.few ex_kt.ok
  obtain ⟨S, hS⟩ : ∃ S : ByteArray, ⟨(bytesK exl).toArray⟩ = S := ⟨_, rfl⟩
  have hz : S.size = (bytesK exl).length := by rw [← hS, str_size]
  rw [← hz] at hl
  obtain ⟨n, hn⟩ : ∃ n, (bitsK exl).length = n := ⟨_, rfl⟩
  rw [hn] at hp hl hfew CS
  rw [hS] at CP CT CTP
  have e36 : sumK exl = 36 := by decide
  have e35 : sumK exq + 3 = 35 := by decide
  rw [e36] at CT
  rw [e35] at CTP
  have CT0 := Lib.hid (fun W => cTokArg S 0 (.inl (by decide)) W)
  have CSM := Lib.hid (fun a b c d W (h1 : IsTk W a exl) (h2 : IsTk W b exl) => dSameK a b c d 4 exl rfl (by decide) W h1 h2)
  obtain ⟨z, hz2⟩ : ∃ z, S.size = z := ⟨_, rfl⟩
  have HZ := Lib.hid hz2
  rw [hz2] at hl
  have hni : (0 : Int) < (n : Int) := by omega
  have hnd : IntKind.i64.wrap ((n : Int) + 7) = (n : Int) + 7 := by rw [IntKind.wrap_i64]; omega
  have hzd : wrap64 (((n : Int) + 7).tdiv 8) = (z : Int) := by
    have e1 : ((n : Int) + 7).tdiv 8 = (z : Int) := by rw [Int.tdiv_eq_ediv_of_nonneg (by omega)]; omega
    rw [e1]
    unfold wrap64
    omega
  clear hS hz hn hz2 hp hl hfew e36 e35
  have hlen4 : exl.length = 4 := rfl
  have HI := Lib.hid (fun W (h : W = w.alloc (.cells #[.int .i64 0, .int .i64 97, .int .i64 0, .int .i64 0, .int .i64 0, .int .i64 0, .int .i64 98, .int .i64 0, .int .i64 0, .int .i64 0, .int .i64 1, .int .i64 0, .int .i64 30, .int .i64 2, .int .i64 0, .int .i64 2, .int .i64 0, .int .i64 4, .int .i64 0, .int .i64 1] 35)) => show IsTk W (some ⟨w.heap.size, 0, none⟩) exl by rw [h]; exact isTk4 (heap_alloc_new w _))
  obtain ⟨L, hL⟩ : ∃ L, exl = L := ⟨_, rfl⟩
  rw [hL] at CP CT CS CSM HI hlen4
  clear hL
  go_enter Tryz.func5, Tryz.ntmps5
  go_wp2_with fail
  have HB := Lib.hid ((Below.refl w.heap.size w).alloc (Nat.le_refl _) (.cells #[.int .i64 0, .int .i64 97, .int .i64 0, .int .i64 0, .int .i64 0, .int .i64 0, .int .i64 98, .int .i64 0, .int .i64 0, .int .i64 0, .int .i64 1, .int .i64 0, .int .i64 30, .int .i64 2, .int .i64 0, .int .i64 2, .int .i64 0, .int .i64 4, .int .i64 0, .int .i64 1] 35))
  obtain ⟨w1, hw1⟩ : ∃ w1, w.alloc (.cells #[.int .i64 0, .int .i64 97, .int .i64 0, .int .i64 0, .int .i64 0, .int .i64 0, .int .i64 98, .int .i64 0, .int .i64 0, .int .i64 0, .int .i64 1, .int .i64 0, .int .i64 30, .int .i64 2, .int .i64 0, .int .i64 2, .int .i64 0, .int .i64 4, .int .i64 0, .int .i64 1] 35) = w1 := ⟨_, rfl⟩
  have HT : Hid (IsTk w1 (some ⟨w.heap.size, 0, none⟩) L) := Lib.hid (HI.out w1 hw1.symm)
  rw [hw1] at HB ⊢
  obtain ⟨g, hg⟩ : ∃ g, w.heap.size = g := ⟨_, rfl⟩
  rw [hg] at HT ⊢
  have HG := Lib.hid hg
  clear hw1 hg
  refine (CP.out _ _ w1 HT.out).mono ?_; rintro e w2 ⟨rfl, hb2⟩
  have HT := Lib.hid (HT.out.kept hb2)
  have HB := Lib.hid (HB.out.trans (hb2.mono HB.out.size))
  clear hb2 CP
  go_wp2_with fail
  refine (CT.out w2).mono ?_; rintro e w3 ⟨v, rfl, hb3, ho⟩
  obtain ⟨va, vc, hv, hvt⟩ := ho.isTk
  rw [hlen4] at hv
  subst hv
  have HV := Lib.hid hvt
  have HT := Lib.hid (HT.out.kept hb3)
  have HB := Lib.hid (HB.out.trans (hb3.mono HB.out.size))
  clear hb3 ho hvt CT
  go_wp2_with fail
  refine (CTP.out w3).mono ?_; rintro e w4 ⟨rfl, hb4⟩
  have HV := Lib.hid (HV.out.kept hb4)
  have HT := Lib.hid (HT.out.kept hb4)
  have HB := Lib.hid (HB.out.trans (hb4.mono HB.out.size))
  clear hb4 CTP
  go_wp2_with fail
  refine (CTV.out w4).mono ?_; rintro e w5 ⟨rfl, hb5⟩
  have HV := Lib.hid (HV.out.kept hb5)
  have HT := Lib.hid (HT.out.kept hb5)
  have HB := Lib.hid (HB.out.trans (hb5.mono HB.out.size))
  clear hb5 CTV
  go_wp2_with fail
  refine (CPN.out w5).mono ?_; rintro e w6 ⟨rfl, hb6⟩
  have HV := Lib.hid (HV.out.kept hb6)
  have HT := Lib.hid (HT.out.kept hb6)
  have HB := Lib.hid (HB.out.trans (hb6.mono HB.out.size))
  clear hb6 CPN
  go_wp2_with fail
  refine (CT0.out w6).mono ?_; rintro e w7 ⟨rfl, hb7⟩
  have HV := Lib.hid (HV.out.kept hb7)
  have HT := Lib.hid (HT.out.kept hb7)
  have HB := Lib.hid (HB.out.trans (hb7.mono HB.out.size))
  clear hb7 CT0
  go_wp2_with fail
  refine (CSM.out _ _ _ _ w7 HT.out HV.out).mono ?_; rintro e w8 ⟨rfl, k8, rfl⟩
  have HT := Lib.hid (HT.out.kept (below_dn (Below.refl _ w7) k8))
  have HB := Lib.hid (below_dn HB.out k8)
  obtain ⟨w8, hw8⟩ : ∃ w8, w7.drewN k8 = w8 := ⟨_, rfl⟩
  rw [hw8] at HT HB ⊢
  clear hw8 CSM HV
  go_wp2_with fail
  refine (CS.out _ _ w8 HT.out).mono ?_; rintro e w9 ⟨rfl, hb9⟩
  have HT := Lib.hid (HT.out.kept hb9)
  have HB := Lib.hid (HB.out.trans (hb9.mono HB.out.size))
  clear hb9
  go_wp2_with fail
  refine (CS.out _ _ w9 HT.out).mono ?_; rintro e w10 ⟨rfl, hb10⟩
  have HB := Lib.hid (HB.out.trans (hb10.mono HB.out.size))
  have hzz := HZ.out
  clear hb10 CS HT
  go_wp2_with fail
  refine (CSN.out w10).mono ?_; rintro e w11 ⟨rfl, hb11⟩
  have HB := Lib.hid (HB.out.trans (hb11.mono HB.out.size))
  clear hb11 CSN
  go_wp2_with fail
  go_ret
  exact ⟨rfl, HB.out⟩
end Go.Proofs.YtmhjmoeeahepaaaGreat

/- Layer 27: the law CodedBack. -/
namespace Go.Proofs.YtmhjmoeeahepaaaGreat
open Go.ChangeShapes Go.WideShapes Go.ChangeAt Go.RowKit
set_option linter.unusedVariables false
set_option linter.unusedSimpArgs false
set_option maxRecDepth 100000
open Bits hiding packF pack_length
def zT (t : Tk) : Int := Tok.szTok t.k t.b t.l t.d t.r
def szF : Int → List Tk → Int
  | n, [] => n
  | n, t :: l => if zT t = 0 ∨ 65536 - zT t < n then -1 else szF (n + zT t) l
theorem zT_ok (t : Tk) : (t.ok ∧ zT t = (szN t : Int) ∧ 1 ≤ szN t ∧ szN t ≤ 258) ∨ (¬ t.ok ∧ zT t = 0) := by
  by_cases h : t.ok
  · obtain ⟨h1, h2, h3⟩ := sz_ok h
    exact .inl ⟨h, h1, h2, h3⟩
  · exact .inr ⟨h, if_neg h⟩
theorem szF_ok : ∀ (l : List Tk) (n : Nat) (m : Int), n ≤ 65536 → szF n l = m → 1 ≤ m → (∀ t ∈ l, t.ok) ∧ m = ((n + sumK l : Nat) : Int) ∧ n + sumK l ≤ 65536
  | [], n, m, hn, h, hm => by
    unfold szF at h
    exact ⟨by simp, by rw [← h]; simp [sumK], by simp [sumK]; exact hn⟩
  | t :: l, n, m, hn, h, hm => by
    unfold szF at h
    by_cases hc : zT t = 0 ∨ 65536 - zT t < (n : Int)
    · rw [if_pos hc] at h; omega
    · rw [if_neg hc] at h
      rcases zT_ok t with ⟨h1, h2, h3, h4⟩ | ⟨h1, h2⟩
      · rw [h2] at h hc
        have ih := szF_ok l (n + szN t) m (by omega) (by rw [← h]; congr 1) hm
        rw [sumK_cons]
        refine ⟨fun x hx => ?_, by rw [ih.2.1]; omega, by omega⟩
        rcases List.mem_cons.1 hx with rfl | hx
        · exact h1
        · exact ih.1 x hx
      · exact absurd (.inl h2) hc
theorem zT_bd (t : Tk) : 0 ≤ zT t ∧ zT t ≤ 258 := by
  rcases zT_ok t with ⟨-, h, h2, h3⟩ | ⟨-, h⟩ <;> omega
set_option maxHeartbeats 1600000 in
theorem size27 (a : Option Addr) (c n : Nat) (l : List Tk) (hn : l.length = n) (hn2 : n ≤ 9223372036854775807) (w : World) (h : IsTk w a l) (Z : Int) (hZ : szF 0 l = Z) :
    Calls Tryz.prog 12 #[.slice a n c] w fun e w' => e = .returned (.int .i64 Z) ∧ Below w.heap.size w w' := by
  have HT := Lib.hid h
  have HZ := Lib.hid hZ
  clear h hZ
  go_enter Tryz.func12, Tryz.ntmps12
  go_wp2
  go_loopw [3, 4] (fun nv iv wr => ∃ k N : Nat, k ≤ n ∧ iv = .int .i64 k ∧ nv = .int .i64 N ∧ N ≤ 65536 ∧ Hid (szF N (l.drop k) = Z) ∧ Hid (Below w.heap.size w wr)) (fun _ iv _ => n - (intOf iv).toNat)
  case atStart => exact ⟨0, 0, Nat.zero_le _, rfl, rfl, by decide, HZ, Lib.hid (Below.refl _ _)⟩
  case round =>
    obtain ⟨k, N, hk, rfl, rfl, hN, hz, hb⟩ := hrel
    by_cases hlt : k < n
    · obtain ⟨x, rfl, -, hx⟩ := (HT.out.kept hb.out).at k (by omega)
      obtain ⟨t, ht⟩ : ∃ t, l[k] = t := ⟨_, rfl⟩
      have hdr : l.drop k = t :: l.drop (k + 1) := by rw [← ht]; exact List.drop_eq_getElem_cons (by omega)
      have hz2 := hz.out
      rw [hdr, szF] at hz2
      obtain ⟨hb0, hb1⟩ := zT_bd t
      rw [ht] at hx
      have CS := Lib.hid (fun W => Tok.refSize_any t.k t.b t.l t.d t.r W)
      have CS : Hid (∀ W, Calls Tryz.prog 29 #[.agg #[.int .i64 t.k, .int .i64 t.b, .int .i64 t.l, .int .i64 t.d, .int .i64 t.r]] W fun e w' => e = .returned (.int .i64 (zT t)) ∧ Below W.heap.size W w') := CS
      obtain ⟨tk, tb, tl, td, tr⟩ := t
      obtain ⟨x0, x1, x2, x3, x4⟩ := hx
      simp only at x0 x1 x2 x3 x4 CS
      obtain ⟨q, hq⟩ : ∃ q, zT ⟨tk, tb, tl, td, tr⟩ = q := ⟨_, rfl⟩
      rw [hq] at CS hz2 hb0 hb1
      have hki : (k : Int) < (n : Int) := by omega
      clear hdr ht hq hz
      by_cases h0 : q = 0
      · subst h0
        rw [if_pos (.inl rfl)] at hz2
        have HZZ := Lib.hid hz2
        clear hz2
        go_wp2_with fail
        refine (CS.out _).mono ?_; rintro e w1 ⟨rfl, hb2⟩
        have HB := Lib.hid (hb.out.trans (hb2.mono hb.out.size))
        clear hb2
        go_wp2_with fail
        go_ret
        exact ⟨ret_i HZZ.out, HB.out⟩
      · have h0b : (q == 0) = false := by rw [beq_eq_false_iff_ne]; exact h0
        have hws : IntKind.i64.wrap (65536 - q) = 65536 - q := by rw [IntKind.wrap_i64]; omega
        by_cases h1 : 65536 - q < (N : Int)
        · rw [if_pos (.inr h1)] at hz2
          have HZZ := Lib.hid hz2
          have hd1 : decide (65536 - q < (N : Int)) = true := decide_eq_true h1
          clear hz2
          go_wp2_with fail
          refine (CS.out _).mono ?_; rintro e w1 ⟨rfl, hb2⟩
          have HB := Lib.hid (hb.out.trans (hb2.mono hb.out.size))
          clear hb2
          go_wp2_with fail
          go_ret
          exact ⟨ret_i HZZ.out, HB.out⟩
        · rw [if_neg (fun e => e.elim h0 h1)] at hz2
          obtain ⟨Q, rfl⟩ : ∃ Q : Nat, q = Q := ⟨q.toNat, by omega⟩
          obtain ⟨N2, hN2⟩ : ∃ N2, N + Q = N2 := ⟨_, rfl⟩
          rw [show (N : Int) + (Q : Int) = (N2 : Int) by omega] at hz2
          have HZZ := Lib.hid hz2
          have hwN : IntKind.i64.wrap ((N : Int) + (Q : Int)) = (N2 : Int) := by rw [IntKind.wrap_i64]; omega
          have hd1 : decide (65536 - (Q : Int) < (N : Int)) = false := decide_eq_false h1
          have hN2b := Lib.hid (show N2 ≤ 65536 by omega)
          clear hz2
          go_wp2_with fail
          refine (CS.out _).mono ?_; rintro e w1 ⟨rfl, hb2⟩
          have HB := Lib.hid (hb.out.trans (hb2.mono hb.out.size))
          clear hb2 hb CS
          go_wp2_with fail
          go_roundw
          case rel => exact ⟨k + 1, N2, by omega, by go_num, rfl, hN2b.out, HZZ, HB⟩
          case measure => simp [intOf]; omega
    · obtain rfl : k = n := by omega
      have hki : ¬ (k : Int) < (k : Int) := by omega
      have hz2 := hz.out
      rw [List.drop_of_length_le (by omega), szF] at hz2
      have HZZ := Lib.hid hz2
      have HB := hb
      clear hz2 hz hb
      go_wp2_with fail
      go_ret
      exact ⟨ret_i HZZ.out, HB.out⟩
def sK (b : List UInt8) : ByteArray := ⟨b.toArray⟩
theorem sK_size (b : List UInt8) : (sK b).size = b.length := str_size b
theorem sK_cut (b : List UInt8) (k : Nat) : (sK b).extract 0 k = sK (b.take k) := by
  apply ByteArray.ext
  apply Array.ext'
  rw [ByteArray.data_extract]
  unfold sK
  simp
theorem conv27 (X : World) (k : Nat) (Y : UInt8) (hX : X.cell? ⟨k, 0, none⟩ = some (.int .u8 (Y.toNat : Int))) : (convert 40 9 (.slice (some ⟨k, 0, none⟩) 1 1)).run Tryz.prog X = .ok (.string (sK [Y])) X := by
  have h := run_convert_bytes_back (P := Tryz.prog) X 40 9 5 ⟨k, 0, none⟩ 1 [Y] Tryz.underlying40 Tryz.underlying5 Tryz.underlying9 (fun j hj => by
    have hj0 : j = 0 := by simpa using hj
    subst hj0
    have e : (⟨k, 0, none⟩ : Addr).add 0 = ⟨k, 0, none⟩ := by simp [Addr.add]
    rw [e, hX]
    simp)
  simpa [sK] using h
theorem cat27 (X : World) (b : List UInt8) (Y : UInt8) (hl : b.length ≤ 100000) : (Op.stringOp .add (sK b) (sK [Y])).run Tryz.prog X = .ok (.string (sK (b ++ [Y]))) X := by
  have h := run_string_add_sum (P := Tryz.prog) X ⟨b.toArray⟩ ⟨[Y].toArray⟩ (by simp [ByteArray.size]; omega)
  rw [ByteArray.mk_append_mk] at h
  simpa [sK] using h
theorem less27 (X : World) (b : List UInt8) (z : Nat) (hz : b.length = z) (h1 : 1 ≤ z) (h2 : z ≤ 100000) : (Instr.slice 9 (.string (sK b)) none (some (.int .i64 ((z : Int) - 1))) none).run Tryz.prog X = .ok (.string (sK (b.take (z - 1)))) X := by
  have hs : (sK b).size = z := by rw [sK_size, hz]
  rw [run_slice_string_h X 9 (sK b) Tryz.underlying9 .i64 ((z : Int) - 1) (by omega) (by rw [hs]; omega), sK_cut, show ((z : Int) - 1).toNat = z - 1 by omega]
set_option maxHeartbeats 3200000 in
theorem back27_walk (a : Option Addr) (c n : Nat) (l : List Tk) (hn : l.length = n) (hn2 : n ≤ 9223372036854775807) (Y : UInt8) (w : World) (h : IsTk w a l) :
    Calls Tryz.prog 4 #[.slice a n c, .int .u8 (Y.toNat : Int)] w fun e w' => e = .returned (.bool true) ∧ Below w.heap.size w w' := by
  obtain ⟨Z, hZ⟩ : ∃ Z, szF 0 l = Z := ⟨_, rfl⟩
  have CZ := Lib.hid (size27 a c n l hn hn2 w h Z hZ)
  have CA := Lib.hid awake27
  by_cases h80 : 80 < n
  · have h80i : (80 : Int) < (n : Int) := by omega
    clear hZ h
    go_enter Tryz.func4, Tryz.ntmps4
    go_wp2_with fail
    refine CZ.out.mono ?_; rintro e w1 ⟨rfl, hb⟩
    have HB := Lib.hid hb
    clear hb
    go_wp2_with fail
    refine (CA.out w1).mono ?_; rintro e w2 ⟨rfl, hb⟩
    have HB := Lib.hid (HB.out.trans (hb.mono HB.out.size))
    clear hb
    go_wp2_with fail
    go_ret
    exact ⟨rfl, HB.out⟩
  · have h80i : ¬ (80 : Int) < (n : Int) := by omega
    have h80d : decide ((80 : Int) < (n : Int)) = false := decide_eq_false h80i
    by_cases hz1 : Z < 1
    · have hzd : decide (Z < 1) = true := decide_eq_true hz1
      clear hZ h
      go_enter Tryz.func4, Tryz.ntmps4
      go_wp2_with fail
      refine CZ.out.mono ?_; rintro e w1 ⟨rfl, hb⟩
      have HB := Lib.hid hb
      clear hb
      go_wp2_with fail
      refine (CA.out w1).mono ?_; rintro e w2 ⟨rfl, hb⟩
      have HB := Lib.hid (HB.out.trans (hb.mono HB.out.size))
      clear hb
      go_wp2_with fail
      go_ret
      exact ⟨rfl, HB.out⟩
    · have hzd : decide (Z < 1) = false := decide_eq_false hz1
      obtain ⟨hok, hm, hle⟩ := szF_ok l 0 Z (by decide) hZ (by omega)
      rw [Nat.zero_add] at hm hle
      have h0 : l ≠ [] := by
        rintro rfl
        simp [sumK] at hm
        omega
      have hk : Kt27 l := ⟨h0, by omega, hok⟩
      have CP := Lib.hid (fun W h => cPutK a c n l W hn h (by rw [← hn]; have := List.length_pos_iff.2 h0; omega) (by omega) hok)
      have CB := Lib.hid (fun W => cTokBack l hk hle W)
      have CM := Lib.hid (fun W => cTokMore l hk hle Y W)
      have CL := Lib.hid (fun W => cTokLess l hk hle W)
      rw [← hm] at CB CM CL
      have hsz := hk.size
      have hpos : 1 ≤ (bytesK l).length := by
        have h1 := bitsK_pos l
        rw [bytesK_len]; omega
      have HCV := Lib.hid (fun X k hX => conv27 X k Y hX)
      have HCAT := Lib.hid (fun X => cat27 X (bytesK l) Y (by omega))
      have HLESS := Lib.hid (fun X => less27 X (bytesK l) _ rfl hpos (by omega))
      obtain ⟨z, hz⟩ : ∃ z, (bytesK l).length = z := ⟨_, rfl⟩
      have hS0 := sK_size (bytesK l)
      rw [hz] at HLESS CL hsz hpos hS0
      change Hid (∀ W, _ → Calls Tryz.prog _ _ W fun e w' => e = .returned (.tuple #[.string (sK (bytesK l)), .int .i64 0]) ∧ _) at CP
      change Hid (∀ W, Calls Tryz.prog _ #[.string (sK (bytesK l)), _] W _) at CB
      change Hid (∀ W, Calls Tryz.prog _ #[.string (sK (bytesK l ++ [Y])), _] W _) at CM
      change Hid (∀ W, Calls Tryz.prog _ #[.string (sK ((bytesK l).take (z - 1))), _] W _) at CL
      obtain ⟨S, hS⟩ : ∃ S, sK (bytesK l) = S := ⟨_, rfl⟩
      obtain ⟨S1, hS1⟩ : ∃ S, sK (bytesK l ++ [Y]) = S := ⟨_, rfl⟩
      obtain ⟨S2, hS2⟩ : ∃ S, sK ((bytesK l).take (z - 1)) = S := ⟨_, rfl⟩
      obtain ⟨S3, hS3⟩ : ∃ S, sK [Y] = S := ⟨_, rfl⟩
      rw [hS] at CP CB HCAT HLESS hS0
      rw [hS1] at CM HCAT
      rw [hS2] at CL HLESS
      rw [hS3] at HCV HCAT
      have hzb : ((z : Int) == 0) = false := by rw [beq_eq_false_iff_ne]; omega
      have CSM := Lib.hid (fun (b : Option Addr) (d : Nat) W (h1 : IsTk W a l) (h2 : IsTk W b l) => dSameK a b c d n l hn (by omega) W h1 h2)
      have HT := Lib.hid h
      have HN := Lib.hid hn
      obtain ⟨y, hy⟩ : ∃ y : Int, (Y.toNat : Int) = y := ⟨_, rfl⟩
      have hy0 : 0 ≤ y ∧ y ≤ 255 := by have := Y.toNat_lt; omega
      rw [hy] at HCV ⊢
      clear hZ h hm hle h0 hk hok hz hS hS1 hS2 hS3 hz1 hn hy
      go_enter Tryz.func4, Tryz.ntmps4
      go_wp2_with fail
      refine CZ.out.mono ?_; rintro e w1 ⟨rfl, hb⟩
      have HT := Lib.hid (HT.out.kept hb)
      have HB := Lib.hid hb
      clear hb CZ
      go_wp2_with fail
      refine (CP.out w1 HT.out).mono ?_; rintro e w2 ⟨rfl, hb⟩
      have HT := Lib.hid (HT.out.kept hb)
      have HB := Lib.hid (HB.out.trans (hb.mono HB.out.size))
      clear hb CP
      go_wp2_with fail
      refine (CB.out w2).mono ?_; rintro e w3 ⟨v, rfl, hb, ho⟩
      obtain ⟨va, vc, hv, hvt⟩ := ho.isTk
      rw [HN.out] at hv
      subst hv
      have HV := Lib.hid hvt
      have HT := Lib.hid (HT.out.kept hb)
      have HB := Lib.hid (HB.out.trans (hb.mono HB.out.size))
      clear hb ho hvt CB
      have hcat := HCAT.out
      have hcv := fun X => HCV.out X w3.heap.size
      have hcell : (w3.alloc (.cells #[.int .u8 y] 5)).cell? ⟨w3.heap.size, 0, none⟩ = some (.int .u8 y) := cell_in (heap_alloc_new w3 _) 0
      have hcv2 := hcv _ hcell
      clear hcv
      go_wp2_with fail
      have hb4 := (Below.refl w3.heap.size w3).alloc (Nat.le_refl _) (.cells #[.int .u8 y] 5)
      obtain ⟨w4, hw4⟩ : ∃ w4, w3.alloc (.cells #[.int .u8 y] 5) = w4 := ⟨_, rfl⟩
      rw [hw4] at hb4 ⊢
      have HV := Lib.hid (HV.out.kept hb4)
      have HT := Lib.hid (HT.out.kept hb4)
      have HB := Lib.hid (HB.out.trans (hb4.mono HB.out.size))
      clear hb4 hw4 hcat hcv2 hcell HCAT HCV
      refine (CM.out w4).mono ?_; rintro e w5 ⟨rfl, hb⟩
      have HV := Lib.hid (HV.out.kept hb)
      have HT := Lib.hid (HT.out.kept hb)
      have HB := Lib.hid (HB.out.trans (hb.mono HB.out.size))
      clear hb CM
      have hless := HLESS.out
      have hwz : IntKind.i64.wrap ((z : Int) - 1) = (z : Int) - 1 := by rw [IntKind.wrap_i64]; omega
      go_wp2_with fail
      refine (CL.out w5).mono ?_; rintro e w6 ⟨rfl, hb⟩
      have HV := Lib.hid (HV.out.kept hb)
      have HT := Lib.hid (HT.out.kept hb)
      have HB := Lib.hid (HB.out.trans (hb.mono HB.out.size))
      clear hb CL hless HLESS hwz
      go_wp2_with fail
      refine (CSM.out va vc w6 HT.out HV.out).mono ?_; rintro e w7 ⟨rfl, k, rfl⟩
      have HB := Lib.hid (below_dn HB.out k)
      obtain ⟨w7, hw7⟩ : ∃ w7, w6.drewN k = w7 := ⟨_, rfl⟩
      rw [hw7] at HB ⊢
      clear hw7 CSM HV HT
      go_wp2_with fail
      refine (CA.out w7).mono ?_; rintro e w8 ⟨rfl, hb⟩
      have HB := Lib.hid (HB.out.trans (hb.mono HB.out.size))
      clear hb CA
      go_wp2_with fail
      go_ret
      exact ⟨rfl, HB.out⟩
end Go.Proofs.YtmhjmoeeahepaaaGreat
