/- The contract of the model's BagIn: a bag of the call's own; nothing that lay has turned. -/
import Derived.Test.YtoncfodlffofdaaTab3
import Derived.Test.YtoncfodlffofdaaBag7
import Derived.Test.YtoncfodlffofdaaBagCopy
namespace Go.Proofs.Ytoncfodlffofdaa
open Go.RowKit

def bagInB (s : ByteArray) (wd : Int) (rows : List (List Int)) (f t : Int) : List (List Int × Int) := if tabB s wd rows = true then bagIn rows f t else []
theorem bagIn_yes {rows : List (List Int)} {f t : Int} {k : Nat} (h : k < rows.length) (h1 : f < ky (rr rows k)) (h2 : ky (rr rows k) ≤ t) : bagIn (rows.take (k + 1)) f t = bagIn (rows.take k) f t ++ [(rr rows k, 1)] := by
  unfold bagIn
  rw [List.take_succ_eq_append_getElem h, ← rr_eq h, List.filter_append, List.map_append]
  simp [h1, h2]
theorem bagIn_no {rows : List (List Int)} {f t : Int} {k : Nat} (h : k < rows.length) (h1 : ¬ (f < ky (rr rows k) ∧ ky (rr rows k) ≤ t)) : bagIn (rows.take (k + 1)) f t = bagIn (rows.take k) f t := by
  unfold bagIn
  rw [List.take_succ_eq_append_getElem h, ← rr_eq h, List.filter_append, List.map_append]
  have : (decide (f < ky (rr rows k)) && decide (ky (rr rows k) ≤ t)) = false := by
    rw [Bool.and_eq_false_iff, decide_eq_false_iff_not, decide_eq_false_iff_not]
    omega
  simp [this]
set_option maxRecDepth 100000 in
set_option maxHeartbeats 8000000 in
theorem specBagIn_any (s : ByteArray) (wd : Int) (A : Option Addr) (c : Nat) (rows : List (List Int)) (f t : Int) (w : World) (hR : Rws w w.heap.size A rows) (hs : s.size ≤ 1099511627776) (hl : rows.length ≤ 1099511627776) :
    Calls Try.prog 63 #[.agg #[.string s, .int .i64 wd, .slice A rows.length c], .int .i64 f, .int .i64 t] w (OwnBag w.heap.size (bagInB s wd rows f t) w) := by
  obtain ⟨i0, hi0, hz0, hz1, hz2⟩ := info_parts info_count
  have bc := bel_two (w := w) (.cells #[.string s, .int .i64 wd, .slice A rows.length c] 44) (.cells #[] 34)
  have BG := (Blk.new w 44 #[.string s, .int .i64 wd, .slice A rows.length c]).alloc (.cells #[] 34)
  have hE := OBag.nil (empty_counts (w.alloc (.cells #[.string s, .int .i64 wd, .slice A rows.length c] 44)))
  have e2 : (w.alloc (.cells #[.string s, .int .i64 wd, .slice A rows.length c] 44)).heap.size = w.heap.size + 1 := by simp
  rw [e2] at hE
  have hRb := hR.on bc
  clear e2
  go_enter Try.func63, Try.ntmps63
  go_wp2
  generalize (w.alloc (.cells #[.string s, .int .i64 wd, .slice A rows.length c] 44)).alloc (.cells #[] 34) = wb at *
  generalize hGG : w.heap.size = G at *
  clear hGG
  go_loopw [7, 8] (fun v i wr => ∃ (k g cap : Nat) (es : List Ent), k ≤ rows.length ∧ i = .int .i64 k ∧ v = .slice (some ⟨g, 0, none⟩) es.length cap ∧ OB wr (G + 1) g cap es ∧ es.map Ent.pair = bagIn (rows.take k) f t ∧ (tabB s wd rows = false → k = 0) ∧ Blk wr G 44 #[.string s, .int .i64 wd, .slice A rows.length c] ∧ Below G w wr) (fun _ i _ => rows.length - (intOf i).toNat)
  case atStart => exact ⟨0, G + 1, 0, [], Nat.zero_le _, rfl, rfl, hE, rfl, fun _ => rfl, BG, bc⟩
  case round =>
    clear BG hE bc hRb
    obtain ⟨k, g, cap, es, hk, rfl, rfl, hO, he, ht0, BG, hW⟩ := hrel
    have HE := Lib.hid he
    have HT0 := Lib.hid ht0
    have hel : es.length ≤ k := by
      have h1 := congrArg List.length HE.out
      have h2 := List.length_filter_le (fun r => decide (f < ky r) && decide (ky r ≤ t)) (rows.take k)
      unfold bagIn at h1
      rw [List.length_map, List.length_map] at h1
      rw [List.length_take] at h2
      omega
    have g0 := BG.cell 0
    have g1 := BG.cell 1
    have g2 := BG.cell 2
    simp only [List.getElem?_toArray, List.getElem?_cons_zero, List.getElem?_cons_succ] at g0 g1 g2
    have hGl := BG.lt
    clear he ht0
    by_cases hlt : k < rows.length
    · have hRr := (hR.below hW).more (show G ≤ wr.heap.size by omega)
      go_wp2_with fail
      refine (specTableOk_any s wd A c rows wr hRr hs hl).mono ?_
      rintro e w1 ⟨rfl, hb1⟩
      have BG1 := BG.below hb1 hGl
      have hO1 : OB w1 (G + 1) g cap es := OBag.on hO hb1
      have hW1 : Below G w w1 := hW.trans (hb1.mono (by omega))
      have hs1 : G < w1.heap.size := BG1.lt
      clear g0 g1 g2 BG hO hW hRr hGl
      cases htab : tabB s wd rows with
      | false =>
        have HF := Lib.hid (show bagInB s wd rows f t = es.map Ent.pair by unfold bagInB; rw [htab, HE.out, HT0.out htab]; rfl)
        clear htab
        go_wp2
        go_ret
        exact ⟨g, cap, es, rfl, OBag.lower hO1 (by omega), HF.out.symm, hW1⟩
      | true =>
        have HP := Lib.hid (tab_pos htab)
        have hlen := tab_len htab
        have HTT := Lib.hid htab
        clear htab
        obtain ⟨b, off, Ar, cr, rfl, hb, h1, h2, h3⟩ := (hR.below hW1).here1 hlt
        obtain ⟨b1, o1, rfl, hb1', c1⟩ := h2.first (HP.out k hlt)
        have hpos := HP.out k hlt
        have g2 := BG1.cell 2
        simp only [List.getElem?_toArray, List.getElem?_cons_zero, List.getElem?_cons_succ] at g2
        by_cases hin : f < ky (rr rows k) ∧ ky (rr rows k) ≤ t
        · obtain ⟨hf1, hf2⟩ := hin
          have HS := Lib.hid (bagIn_yes hlt hf1 hf2)
          have h2r := h2.more (show G ≤ w1.heap.size by omega)
          go_wp2_with fail
          refine (l1Row_row (some ⟨b1, o1, none⟩) cr (rr rows k) w1 h2r h3).mono ?_
          rintro e w2 ⟨A2, cap2, gr, rfl, hgr, hR2, hb2⟩
          have hO2 : OBag w2 (G + 1) (.slice (some ⟨g, 0, none⟩) es.length cap) es := OBag.on hO1 hb2
          have BG2 := BG1.below hb2 BG1.lt
          have hW2 : Below G w w2 := hW1.trans (hb2.mono (by omega))
          have hs2 : G < w2.heap.size := BG2.lt
          go_wp2_with (at_builtin; refine wpList_append_any _ rfl (.tmp 37) (.tmp 45) 24 rfl (G + 1) 34 i0 _ 2 32 Try.underlying24 hi0 hz0 hz1 hz2 rfl (by decide) _ _ (entCells es) rfl (hO2.1.alloc _) _ (some ⟨w2.heap.size, 0, none⟩) 1 1 [.slice A2 (rr rows k).length cap2, .int .i64 1] rfl (reads_new2 w2 _ _ _) (by simp [Value.oneCell']) (by simp only [maxLen]; omega) (by omega) (by rw [World.size_alloc]; omega) ?_; intro v6 w6 hown6 hg6 hat6)
          have hO6 : OBag w6 (G + 1) v6 (es ++ [⟨rr rows k, 1, A2, cap2, gr⟩]) := OBag.pushRow hO1 rfl (by omega) hgr hR2 hO2 hown6 hg6 hat6
          have hgv : ∃ g6, v6.ownBlock = some g6 := by
            rcases hat6 with e | e
            · exact ⟨_, e⟩
            · exact ⟨_, e⟩
          obtain ⟨g6, hg6'⟩ := hgv
          obtain ⟨cap6, hv6, hOB6⟩ := OBag.ob hO6 hg6'
          have hW6 : Below G w w6 := (hW2.alloc (by omega) _).grown hg6 (by rw [World.size_alloc]; omega) (fun r e => by have := (hO2.1.lt r e).1; omega)
          have BG6 := (BG2.alloc (.cells #[.slice A2 (rr rows k).length cap2, .int .i64 1] 34)).grown hg6 (fun e => by have := (hO2.1.lt G e.symm).1; omega)
          have HP6 := Lib.hid (show (es ++ [(⟨rr rows k, 1, A2, cap2, gr⟩ : Ent)]).map Ent.pair = bagIn (rows.take (k + 1)) f t by rw [List.map_append, HE.out, HS.out]; rfl)
          have HV := Lib.hid hv6
          clear hv6 hO6 hg6' hown6 hg6 hat6 hO2 BG2 hW2 hR2 hb2 hgr hO1 BG1 hW1 g2 h1 h2 c1 h2r
          go_wp2
          go_roundw
          case rel => exact ⟨k + 1, g6, cap6, _, by omega, by go_num, HV.out, hOB6, HP6.out, (fun h => by rw [HTT.out] at h; cases h), BG6, hW6⟩
          case measure => simp [intOf]; omega
        · have HS := Lib.hid (bagIn_no hlt hin)
          by_cases hf1 : f < ky (rr rows k)
          · have hf2 : ¬ ky (rr rows k) ≤ t := fun h => hin ⟨hf1, h⟩
            have hd2 := decide_eq_false hf2
            clear hin
            go_wp2
            go_roundw
            case rel => exact ⟨k + 1, g, cap, es, by omega, by go_num, rfl, hO1, by rw [HS.out]; exact HE.out, (fun h => by rw [HTT.out] at h; cases h), BG1, hW1⟩
            case measure => simp [intOf]; omega
          · have hd1 := decide_eq_false hf1
            clear hin
            go_wp2
            go_roundw
            case rel => exact ⟨k + 1, g, cap, es, by omega, by go_num, rfl, hO1, by rw [HS.out]; exact HE.out, (fun h => by rw [HTT.out] at h; cases h), BG1, hW1⟩
            case measure => simp [intOf]; omega
    · have hd : decide (k < rows.length) = false := by simpa using hlt
      have HF := Lib.hid (show bagInB s wd rows f t = es.map Ent.pair by
        unfold bagInB
        cases htab : tabB s wd rows with
        | false =>
          have h0 := HT0.out htab
          rw [HE.out, h0]; rfl
        | true => rw [HE.out, List.take_of_length_le (by omega)]; rfl)
      go_wp2
      go_ret
      exact ⟨g, cap, es, rfl, OBag.lower hO (by omega), HF.out.symm, hW⟩
end Go.Proofs.Ytoncfodlffofdaa
