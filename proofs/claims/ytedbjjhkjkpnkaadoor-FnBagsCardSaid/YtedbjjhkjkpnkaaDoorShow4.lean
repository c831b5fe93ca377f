/- The contract of the program's ShowBag: what a bag shows as; nothing that lay has turned. For bags and rows of at most 2^40, where the library's table of powers lies as the program text lays it. -/
import Derived.Test.YtedbjjhkjkpnkaaDoorShow3
namespace Go.Proofs.YtedbjjhkjkpnkaaDoor
open Go.RowKit

theorem implBagOk_yes (A : Option Addr) (c : Nat) (bag : List (List Int × Int)) (w : World) (hB : Bag w w.heap.size A bag) (hl : bag.length ≤ 1099511627776) (h : bagOkB bag = true) :
    Calls Tryd.prog 15 #[.slice A bag.length c] w fun e w' => e = .returned (.bool true) ∧ Below w.heap.size w w' := by rw [← h]; exact implBagOk_any A c bag w hB hl
theorem implBagOk_no (A : Option Addr) (c : Nat) (bag : List (List Int × Int)) (w : World) (hB : Bag w w.heap.size A bag) (hl : bag.length ≤ 1099511627776) (h : bagOkB bag = false) :
    Calls Tryd.prog 15 #[.slice A bag.length c] w fun e w' => e = .returned (.bool false) ∧ Below w.heap.size w w' := by rw [← h]; exact implBagOk_any A c bag w hB hl
/-- What has been written when k of the counts have come. -/
def bt (bag : List (List Int × Int)) (k : Nat) : List UInt8 := bagText (bag.take k)
theorem bt_zero (bag : List (List Int × Int)) : bt bag 0 = [] := rfl
theorem strCells_mk (l : List UInt8) : Lib.strCells ⟨l.toArray⟩ = Lib.byteCells l := by simp [Lib.strCells, Lib.byteCells]

theorem reads_new1 (w : World) (t : TypeId) (v : Value) : Reads (w.alloc (.cells #[v] t)) (w.heap.size + 1) 1 (some ⟨w.heap.size, 0, none⟩) 1 [v] := ⟨rfl, fun _ => ⟨_, rfl, Nat.lt_succ_self _, cell_one_new _ _ _⟩⟩
theorem bel_step0 {B : Nat} {a b c : World} (h : Below B a b) (k : Below b.heap.size b c) (hB : B ≤ b.heap.size) : Below B a c := h.trans (k.mono hB)
/-- A block of another type is not the row's own. -/
theorem blk_not_row {w : World} {base G : Nat} {t e : TypeId} {size : Nat} {v : Value} {n : Nat} {xs : List Value} {cs : Array Value} (h : Blk w G t cs) (hte : t ≠ e) (hown : w.ownsRow base e size v n xs) : some G ≠ v.ownBlock := by
  intro he
  rcases hown.2 with ⟨rfl, _⟩ | ⟨g, cap, cur, rfl, _, hg, _⟩
  · cases he
  · have : G = g := Option.some.inj he
    subst this
    unfold Blk at h
    rw [h] at hg
    injection hg with hg
    injection hg with _ h2 _
    exact hte h2

set_option maxRecDepth 100000 in
set_option maxHeartbeats 4000000 in
theorem implShowBag_any (A : Option Addr) (c : Nat) (bag : List (List Int × Int)) (w : World) (hB : Bag w w.heap.size A bag) (hl : bag.length ≤ 1099511627776) (htab : Lib.TabBelow Tryd.prog w.heap.size w "internal/strconv.uint64pow10" .u64 Lib.pow10Tab) :
    Calls Tryd.prog 13 #[.slice A bag.length c] w fun e w' => e = .returned (.string ⟨(showBagL bag).toArray⟩) ∧ Below w.heap.size w w' := by
  obtain ⟨i0, hi0, hz0, hz1, hz2⟩ := info_parts info_u8
  cases hok : bagOkB bag with
  | false =>
    have HS := Lib.hid (show showBagL bag = [] by unfold showBagL; rw [hok]; rfl)
    have HOK := Lib.hid hok
    clear hok
    go_enter Tryd.func13, Tryd.ntmps13
    go_wp2_with fail
    refine (implBagOk_no A c bag w hB hl HOK.out).mono ?_
    rintro e w1 ⟨rfl, hb1⟩
    go_wp2
    go_ret
    exact ⟨ret_str HS.out.symm, hb1⟩
  | true =>
    have HS := Lib.hid (show showBagL bag = bagText bag by unfold showBagL; rw [hok]; rfl)
    have hl3 := bagOk_len hok
    have HOK := Lib.hid hok
    clear hok
    go_enter Tryd.func13, Tryd.ntmps13
    go_wp2_with fail
    refine (implBagOk_yes A c bag w hB hl HOK.out).mono ?_
    rintro e w1 ⟨rfl, hb1⟩
    go_wp2
    go_loopw [3, 11] (fun v i wr => ∃ k : Nat, k ≤ bag.length ∧ i = .int .i64 k ∧ wr.ownsRow w.heap.size 5 1 v (bt bag k).length (Lib.byteCells (bt bag k)) ∧ Below w.heap.size w wr) (fun _ i _ => bag.length - (intOf i).toNat)
    case atStart => exact ⟨0, Nat.zero_le _, rfl, World.ownsRow_nil _ _ _ _, hb1⟩
    case round =>
      obtain ⟨k, hk, rfl, hown, hW⟩ := hrel
      have hbt : (bt bag k).length ≤ 46500 := by have := bagText_take HOK.out k hk; unfold bt; omega
      clear hb1
      by_cases hlt : k < bag.length
      · obtain ⟨hr, hn0, hn1⟩ := bagOk_at HOK.out hlt
        have hsl := showL_len _ hr
        have hil := Lib.itoa_length_le (nx bag k) (by omega) (by omega)
        clear hr
        obtain ⟨b, off, rfl, hblt, hc⟩ := hB (by omega)
        obtain ⟨Ar, cap, h1w, h2w, h3w, h4⟩ := hc k hlt
        have h1 : wr.cell? ⟨b, off + k * 2, none⟩ = some (.slice Ar (rx bag k).length cap) := (hW.cell hblt).trans h1w
        have h2 : wr.cell? ⟨b, off + k * 2 + 1, none⟩ = some (.int .i64 (nx bag k)) := (hW.cell hblt).trans h2w
        clear hc h1w h2w
        have bc := (Below.refl wr.heap.size wr).alloc (Nat.le_refl _) (.cells #[.slice Ar (rx bag k).length cap, .int .i64 (nx bag k)] 37)
        have BC := Blk.new wr 37 #[.slice Ar (rx bag k).length cap, .int .i64 (nx bag k)]
        have hWa : Below w.heap.size w (wr.alloc (.cells #[.slice Ar (rx bag k).length cap, .int .i64 (nx bag k)] 37)) := hW.alloc hW.size _
        have hownA := hown.alloc (.cells #[.slice Ar (rx bag k).length cap, .int .i64 (nx bag k)] 37)
        have hnA := blk_not_row BC (by decide) hownA
        have hRd := reads_new1 (wr.alloc (.cells #[.slice Ar (rx bag k).length cap, .int .i64 (nx bag k)] 37)) 5 (.int .u8 59)
        rw [World.size_alloc] at hRd
        by_cases h0 : 0 < k
        · go_wp2_with (at_builtin; refine wpList_append_any _ rfl (.tmp 18) (.tmp 19) 22 rfl w.heap.size 5 i0 (.int .u8 0) 1 1 Tryd.underlying22 hi0 hz0 hz1 hz2 rfl (by decide) _ _ _ rfl (hownA.alloc _) _ (some ⟨wr.heap.size + 1, 0, none⟩) 1 1 [.int .u8 59] rfl hRd (by simp [Value.oneCell']) (by simp only [maxLen]; omega) (by omega) (by rw [World.size_alloc]; have := hWa.size; omega) ?_; intro vX wX hown2 hg2 _; have hWX : Below w.heap.size w wX := (hWa.alloc hWa.size _).grown hg2 (by rw [World.size_alloc]; have := hWa.size; omega) (fun r e => (hownA.lt r e).1); have BX := (BC.alloc _).grown hg2 hnA; have c0 : wX.cell? ⟨wr.heap.size, 0, none⟩ = some (.slice Ar (rx bag k).length cap) := BX.cell 0)
          have h3X := h3w.on hWX
          have hownX : wX.ownsRow w.heap.size 5 1 vX (bt bag k ++ [59]).length (Lib.byteCells (bt bag k ++ [59])) := by
            rw [List.length_append, Lib.byteCells_append]; exact hown2
          have htx : (bt bag k ++ [59]).length ≤ 46501 := by simp; omega
          have hbk := bagText_step hlt h0
          have HBK := Lib.hid hbk
          clear hbk hown2 hg2 hownA hnA BC bc hWa hown hW h1 h2 hRd
          refine (implShowRow_any Ar cap (rx bag k) wX h3X h4 (fun w' h' => htab w' (hWX.trans (h'.mono hWX.size)))).mono ?_
          rintro e w3 ⟨rfl, hb3⟩
          have hown3 := own_keepB hownX (fun g hg => hb3.block g (hownX.lt g hg).2)
          have hW3 := bel_step0 hWX hb3 hWX.size
          have B3 := BX.below hb3 BX.lt
          have hn3 := blk_not_row B3 (by decide) hown3
          obtain ⟨sx1, hsx1⟩ : ∃ s : ByteArray, s = ⟨(showL (rx bag k)).toArray⟩ := ⟨_, rfl⟩
          rw [← hsx1]
          have hss : sx1.size ≤ 132 := by rw [hsx1, size_mk]; exact hsl
          have hsc : Lib.strCells sx1 = Lib.byteCells (showL (rx bag k)) := by rw [hsx1, strCells_mk]
          have hsn : sx1.size = (showL (rx bag k)).length := by rw [hsx1, size_mk]
          have HSC := Lib.hid hsc
          have HSN := Lib.hid hsn
          clear hsx1 hsc hsn BX hb3 hownX hWX h3X
          by_cases hn : nx bag k = 1
          · have hz : (nx bag k != 1) = false := by simpa using hn
            have HBT := Lib.hid (show bt bag (k + 1) = (bt bag k ++ [59]) ++ showL (rx bag k) by rw [show bt bag (k + 1) = _ from HBK.out]; unfold cntL; rw [if_pos hn]; simp [bt])
            clear hn
            go_wp2_with (at_builtin; refine Lib.wpList_append_own_string _ rfl (.tmp 21) (.tmp 24) 22 9 rfl w.heap.size 5 i0 Tryd.underlying22 Tryd.underlying9 hi0 hz0 hz1 hz2 _ _ _ rfl hown3 sx1 rfl (by simp only [maxLen]; omega) (by omega) hW3.size ?_; intro v4 w4 hown4 hg4 _; have hW4 : Below w.heap.size w w4 := hW3.grown hg4 hW3.size (fun r e => (hown3.lt r e).1); have B4 := B3.grown hg4 hn3; have c4 : w4.cell? ⟨wr.heap.size, 1, none⟩ = some (.int .i64 (nx bag k)) := B4.cell 1)
            rw [HSC.out, HSN.out, ← Lib.byteCells_append] at hown4
            go_wp2
            go_roundw
            case rel => exact ⟨k + 1, by omega, by go_num, by rw [HBT.out, List.length_append]; exact hown4, hW4⟩
            case measure => simp [intOf]; omega
          · have hz : (nx bag k != 1) = true := by simpa using hn
            have HBT := Lib.hid (show bt bag (k + 1) = (bt bag k ++ [59]) ++ showL (rx bag k) ++ [120] ++ Lib.itoa (nx bag k) by rw [show bt bag (k + 1) = _ from HBK.out]; unfold cntL; rw [if_neg hn]; simp [bt])
            clear hn
            go_wp2_with (first | (at_builtin; refine Lib.wpList_append_own_string _ rfl (.tmp 21) (.tmp 24) 22 9 rfl w.heap.size 5 i0 Tryd.underlying22 Tryd.underlying9 hi0 hz0 hz1 hz2 _ _ _ rfl hown3 sx1 rfl (by simp only [maxLen]; omega) (by omega) hW3.size ?_; intro v4 w4 hown4 hg4 _; have hW4 : Below w.heap.size w w4 := hW3.grown hg4 hW3.size (fun r e => (hown3.lt r e).1); have B4 := B3.grown hg4 hn3; have c4 : w4.cell? ⟨wr.heap.size, 1, none⟩ = some (.int .i64 (nx bag k)) := B4.cell 1; rw [HSC.out, HSN.out, ← Lib.byteCells_append] at hown4; have hn4 := blk_not_row B4 (by decide) hown4) | (at_builtin; refine wpList_append_any _ rfl (.tmp 29) (.tmp 30) 22 rfl w.heap.size 5 i0 (.int .u8 0) 1 1 Tryd.underlying22 hi0 hz0 hz1 hz2 rfl (by decide) _ _ _ rfl (hown4.alloc _) _ (some ⟨w4.heap.size, 0, none⟩) 1 1 [.int .u8 120] rfl (reads_new1 w4 _ _) (by simp [Value.oneCell']) (by simp only [maxLen]; omega) (by omega) (by rw [World.size_alloc]; have := hW4.size; omega) ?_; intro v5 w5 hown5 hg5 _; have hW5 : Below w.heap.size w w5 := (hW4.alloc hW4.size _).grown hg5 (by rw [World.size_alloc]; have := hW4.size; omega) (fun r e => (hown4.lt r e).1); have B5 := (B4.alloc _).grown hg5 hn4; have c5 : w5.cell? ⟨wr.heap.size, 1, none⟩ = some (.int .i64 (nx bag k)) := B5.cell 1))
            clear hg5 hg4 c4 B4 hown4 hown3 B3 hW3 hW4
            refine (Tryd.strconv_AppendInt_10 w.heap.size _ (nx bag k) (by omega) (by omega) _ _ w5 hown5 hW5.size (by omega) (htab.on hW5)).mono ?_
            rintro e w6 ⟨v6, rfl, hown6, hb6, _⟩
            have hW6 := hW5.trans hb6
            clear hown5 hb6 c5 B5 hW5
            go_wp2
            go_roundw
            case rel =>
              refine ⟨k + 1, by omega, by go_num, ?_, hW6⟩
              rw [HBT.out, List.length_append, List.length_append, List.length_append, Lib.byteCells_append, Lib.byteCells_append]
              exact hown6
            case measure => simp [intOf]; omega
        · have hd0 : decide (0 < k) = false := by simpa using h0
          have hk0 : k = 0 := by omega
          have HBK := Lib.hid (show bt bag (k + 1) = cntL (rx bag k, nx bag k) by rw [hk0]; exact bagText_first (by omega))
          have hb0 : bt bag k = [] := by rw [hk0]; rfl
          have HB0 := Lib.hid hb0
          clear hk0 hb0 h0 hRd
          go_wp2_with fail
          have hWX := hWa
          have BX := BC
          have hownX := hownA
          have h3X := h3w.on hWX
          have htx := hbt
          clear hWa BC hownA hnA hown hW h1 h2 bc
          generalize wr.alloc (.cells #[.slice Ar (rx bag k).length cap, .int .i64 (nx bag k)] 37) = wX at *
          refine (implShowRow_any Ar cap (rx bag k) wX h3X h4 (fun w' h' => htab w' (hWX.trans (h'.mono hWX.size)))).mono ?_
          rintro e w3 ⟨rfl, hb3⟩
          have hown3 := own_keepB hownX (fun g hg => hb3.block g (hownX.lt g hg).2)
          have hW3 := bel_step0 hWX hb3 hWX.size
          have B3 := BX.below hb3 BX.lt
          have hn3 := blk_not_row B3 (by decide) hown3
          obtain ⟨sx1, hsx1⟩ : ∃ s : ByteArray, s = ⟨(showL (rx bag k)).toArray⟩ := ⟨_, rfl⟩
          rw [← hsx1]
          have hss : sx1.size ≤ 132 := by rw [hsx1, size_mk]; exact hsl
          have hsc : Lib.strCells sx1 = Lib.byteCells (showL (rx bag k)) := by rw [hsx1, strCells_mk]
          have hsn : sx1.size = (showL (rx bag k)).length := by rw [hsx1, size_mk]
          have HSC := Lib.hid hsc
          have HSN := Lib.hid hsn
          clear hsx1 hsc hsn BX hb3 hownX hWX h3X
          by_cases hn : nx bag k = 1
          · have hz : (nx bag k != 1) = false := by simpa using hn
            have HBT := Lib.hid (show bt bag (k + 1) = (bt bag k) ++ showL (rx bag k) by rw [HBK.out, HB0.out]; unfold cntL; rw [if_pos hn]; simp)
            clear hn
            go_wp2_with (at_builtin; refine Lib.wpList_append_own_string _ rfl (.tmp 21) (.tmp 24) 22 9 rfl w.heap.size 5 i0 Tryd.underlying22 Tryd.underlying9 hi0 hz0 hz1 hz2 _ _ _ rfl hown3 sx1 rfl (by simp only [maxLen]; omega) (by omega) hW3.size ?_; intro v4 w4 hown4 hg4 _; have hW4 : Below w.heap.size w w4 := hW3.grown hg4 hW3.size (fun r e => (hown3.lt r e).1); have B4 := B3.grown hg4 hn3; have c4 : w4.cell? ⟨wr.heap.size, 1, none⟩ = some (.int .i64 (nx bag k)) := B4.cell 1)
            rw [HSC.out, HSN.out, ← Lib.byteCells_append] at hown4
            go_wp2
            go_roundw
            case rel => exact ⟨k + 1, by omega, by go_num, by rw [HBT.out, List.length_append]; exact hown4, hW4⟩
            case measure => simp [intOf]; omega
          · have hz : (nx bag k != 1) = true := by simpa using hn
            have HBT := Lib.hid (show bt bag (k + 1) = (bt bag k) ++ showL (rx bag k) ++ [120] ++ Lib.itoa (nx bag k) by rw [HBK.out, HB0.out]; unfold cntL; rw [if_neg hn]; simp)
            clear hn
            go_wp2_with (first | (at_builtin; refine Lib.wpList_append_own_string _ rfl (.tmp 21) (.tmp 24) 22 9 rfl w.heap.size 5 i0 Tryd.underlying22 Tryd.underlying9 hi0 hz0 hz1 hz2 _ _ _ rfl hown3 sx1 rfl (by simp only [maxLen]; omega) (by omega) hW3.size ?_; intro v4 w4 hown4 hg4 _; have hW4 : Below w.heap.size w w4 := hW3.grown hg4 hW3.size (fun r e => (hown3.lt r e).1); have B4 := B3.grown hg4 hn3; have c4 : w4.cell? ⟨wr.heap.size, 1, none⟩ = some (.int .i64 (nx bag k)) := B4.cell 1; rw [HSC.out, HSN.out, ← Lib.byteCells_append] at hown4; have hn4 := blk_not_row B4 (by decide) hown4) | (at_builtin; refine wpList_append_any _ rfl (.tmp 29) (.tmp 30) 22 rfl w.heap.size 5 i0 (.int .u8 0) 1 1 Tryd.underlying22 hi0 hz0 hz1 hz2 rfl (by decide) _ _ _ rfl (hown4.alloc _) _ (some ⟨w4.heap.size, 0, none⟩) 1 1 [.int .u8 120] rfl (reads_new1 w4 _ _) (by simp [Value.oneCell']) (by simp only [maxLen]; omega) (by omega) (by rw [World.size_alloc]; have := hW4.size; omega) ?_; intro v5 w5 hown5 hg5 _; have hW5 : Below w.heap.size w w5 := (hW4.alloc hW4.size _).grown hg5 (by rw [World.size_alloc]; have := hW4.size; omega) (fun r e => (hown4.lt r e).1); have B5 := (B4.alloc _).grown hg5 hn4; have c5 : w5.cell? ⟨wr.heap.size, 1, none⟩ = some (.int .i64 (nx bag k)) := B5.cell 1))
            clear hg5 hg4 c4 B4 hown4 hown3 B3 hW3 hW4
            refine (Tryd.strconv_AppendInt_10 w.heap.size _ (nx bag k) (by omega) (by omega) _ _ w5 hown5 hW5.size (by omega) (htab.on hW5)).mono ?_
            rintro e w6 ⟨v6, rfl, hown6, hb6, _⟩
            have hW6 := hW5.trans hb6
            clear hown5 hb6 c5 B5 hW5
            go_wp2
            go_roundw
            case rel =>
              refine ⟨k + 1, by omega, by go_num, ?_, hW6⟩
              rw [HBT.out, List.length_append, List.length_append, List.length_append, Lib.byteCells_append, Lib.byteCells_append]
              exact hown6
            case measure => simp [intOf]; omega
      · have hd : decide (k < bag.length) = false := by simpa using hlt
        have hkl : k = bag.length := by omega
        have hbl : bt bag k = bagText bag := by unfold bt; rw [hkl, List.take_length]
        have HBL := Lib.hid hbl
        clear hbl hkl
        rcases hown.2 with ⟨rfl, hn0⟩ | ⟨g, capg, cur, rfl, hg, hh, hnc, _, hs, ht⟩
        · have HN0 := Lib.hid (List.length_eq_zero_iff.1 hn0)
          clear hown hn0
          have hcv : (convert 22 9 (.slice none 0 0)).run Tryd.prog wr = .ok (.string ByteArray.empty) wr := by
            rw [run_convert_bytes_string wr 22 9 5 none 0 0 Tryd.underlying22 Tryd.underlying5 Tryd.underlying9]
            simp [Conv.bytesToString]
          have HE := Lib.hid (show showBagL bag = [] by rw [HS.out, ← HBL.out, HN0.out])
          go_wp2
          go_ret
          exact ⟨(by rw [HE.out]; rfl), hW⟩
        · have hcv := run_convert_bytes_back (P := Tryd.prog) wr 22 9 5 ⟨g, 0, none⟩ capg (bt bag k) Tryd.underlying22 Tryd.underlying5 Tryd.underlying9 (fun j hj => by
            have e := hown.cells (g := g) rfl j (.int .u8 ((bt bag k)[j].toNat : Int)) (by simp [Lib.byteCells, hj])
            exact e)
          clear ht hs hh hnc
          go_wp2
          go_ret
          exact ⟨ret_str (by rw [HS.out, HBL.out]), hW⟩
end Go.Proofs.YtedbjjhkjkpnkaaDoor
