/- Contracts of Once, the model's and the program's: of a right bag the rows that are there more than 0 times, each once, in memory of the call's own; nothing that lay has turned. For bags and rows of at most 2^40. -/
import Derived.Test.YtcfnbpofbcendaaJD
import Derived.Test.YtcfnbpofbcendaaJB
namespace Go.Proofs.Ytcfnbpofbcendaa
open Go.RowKit

def onceL (bag : List (List Int × Int)) : List (List Int × Int) := (bag.filter fun p => decide (0 < p.2)).map fun p => (p.1, 1)
def onceB (bag : List (List Int × Int)) : List (List Int × Int) := if bagOkB bag then onceL bag else []
theorem once_step {bag : List (List Int × Int)} {k : Nat} (h : k < bag.length) : onceL (bag.take (k + 1)) = onceL (bag.take k) ++ if 0 < nx bag k then [(rx bag k, 1)] else [] := by
  unfold onceL
  rw [List.take_succ_eq_append_getElem h, bag_ix h, List.filter_append, List.map_append]
  congr 1
  by_cases e : 0 < nx bag k
  · rw [if_pos e, List.filter_cons_of_pos (by simpa using e)]; simp
  · rw [if_neg e, List.filter_cons_of_neg (by simpa using e)]; simp
theorem once_len (bag : List (List Int × Int)) : (onceL bag).length ≤ bag.length := by
  unfold onceL; rw [List.length_map]; exact List.length_filter_le _ _
theorem OB.of_val {w : World} {lo : Nat} {v : Value} {es : List Ent} (h : OBag w lo v es) (hn : ∃ g, v.ownBlock = some g) : ∃ g cap, v = .slice (some ⟨g, 0, none⟩) es.length cap ∧ OB w lo g cap es := by
  obtain ⟨g, hg⟩ := hn
  obtain ⟨cap, h1, h2⟩ := h.ob hg
  exact ⟨g, cap, h1, h2⟩

set_option maxRecDepth 100000 in
set_option maxHeartbeats 4000000 in
theorem specOnce_any (A : Option Addr) (c : Nat) (bag : List (List Int × Int)) (w : World) (hB : Bag w w.heap.size A bag) (hl : bag.length ≤ 549755813888) :
    Calls Try.prog 10 #[.slice A bag.length c] w (OwnBag w.heap.size (onceB bag) w) := by
  obtain ⟨i0, hi0, hz0, hz1, hz2⟩ := info_parts info_count
  have b1 := (Below.refl w.heap.size w).alloc (Nat.le_refl _) (.cells #[] 50)
  have hE := OBag.nil (empty_counts w)
  go_enter Try.func10, Try.ntmps10
  go_wp2
  go_loopw [3, 4] (fun v i wr => ∃ (k : Nat) (es : List Ent), k ≤ bag.length ∧ i = .int .i64 k ∧ OBag wr w.heap.size v es ∧ (∃ g, v.ownBlock = some g) ∧ es.map Ent.pair = onceL (bag.take k) ∧ (0 < k → bagOkB bag = true) ∧ Below w.heap.size w wr) (fun _ i _ => bag.length - (intOf i).toNat)
  case atStart => exact ⟨0, [], Nat.zero_le _, rfl, hE, ⟨_, rfl⟩, rfl, fun h => absurd h (by omega), b1⟩
  case round =>
    obtain ⟨k, es, hk, rfl, hO, hnn, he, hok, hW⟩ := hrel
    have HNN := Lib.hid hnn
    have HOK := Lib.hid hok
    have HE := Lib.hid he
    have hel : es.length ≤ k := by
      have h1 := congrArg List.length HE.out
      have h2 := once_len (bag.take k)
      rw [List.length_map] at h1
      rw [List.length_take] at h2
      omega
    clear he hE b1 hnn hok
    by_cases hlt : k < bag.length
    · obtain ⟨b, off, rfl, hblt, hc⟩ := hB (by omega)
      obtain ⟨Ar, cap, c1, c2, h3, h4⟩ := hc k hlt
      clear hc
      have h1 : wr.cell? ⟨b, off + k * 2, none⟩ = some (.slice Ar (rx bag k).length cap) := (hW.cell hblt).trans c1
      have h2 : wr.cell? ⟨b, off + k * 2 + 1, none⟩ = some (.int .i64 (nx bag k)) := (hW.cell hblt).trans c2
      have hk0 : (0 : Int) ≤ (k : Int) := Int.natCast_nonneg _
      have hk1 : (k : Int) < (bag.length : Int) := by omega
      have h3r : Ints wr wr.heap.size Ar (rx bag k) := h3.on hW
      have HC := Lib.hid (And.intro c1 c2)
      have hBr := hB.on hW
      clear c1 c2 h3
      go_wp2_with fail
      refine (specBagOk_any _ _ bag wr _ hBr (by omega)).mono ?_
      rintro e w1 ⟨rfl, n1, rfl⟩
      cases hob : bagOkB bag with
      | false =>
        have hk00 : k = 0 := by
          rcases Nat.eq_zero_or_pos k with h | h
          · exact h
          · have := HOK.out h; rw [hob] at this; cases this
        have HB0 := Lib.hid (show onceB bag = [] by unfold onceB; rw [hob]; rfl)
        have HK := Lib.hid hk00
        have HOB := Lib.hid hob
        clear hk00 hob
        go_wp2
        go_ret
        obtain ⟨g, cap', rfl, hOB⟩ := OB.of_val hO HNN.out
        refine ⟨g, cap', es, rfl, hOB, ?_, bel_drewN hW n1⟩
        rw [HE.out, HB0.out, HK.out]; rfl
      | true =>
        have HOB := Lib.hid hob
        clear hob
        have hbd := bel_drewN hW n1
        have hOd := hO.drewN n1
        have h3d := h3r.drewN n1
        have h1d : (wr.drewN n1).cell? ⟨b, off + k * 2, none⟩ = some (.slice Ar (rx bag k).length cap) := h1
        have h2d : (wr.drewN n1).cell? ⟨b, off + k * 2 + 1, none⟩ = some (.int .i64 (nx bag k)) := h2
        clear hO hW h1 h2 h3r hBr
        have h3e : Ints (wr.drewN n1) (wr.drewN n1).heap.size Ar (rx bag k) := h3d
        clear h3d
        generalize wr.drewN n1 = wr at *
        by_cases hn : 0 < nx bag k
        · have hnd := decide_eq_true hn
          have HS := Lib.hid (show onceL (bag.take (k + 1)) = onceL (bag.take k) ++ [(rx bag k, 1)] by rw [once_step hlt, if_pos hn])
          clear hn
          go_wp2_with fail
          refine (l1Row_row Ar cap (rx bag k) _ h3e h4).mono ?_
          rintro e w1 ⟨A1, cap1, g1, rfl, hg1, hR1, hb1⟩
          have hk1' : Below w.heap.size w w1 := hbd.trans (hb1.mono hbd.size)
          have hO1 := hOd.on hb1
          have hs1 : w.heap.size ≤ w1.heap.size := hk1'.size
          go_wp2_with (at_builtin; refine wpList_append_any _ rfl (.tmp 22) (.tmp 30) 24 rfl w.heap.size 50 i0 _ 2 32 Try.underlying24 hi0 hz0 hz1 hz2 rfl (by decide) _ _ (entCells es) rfl (hO1.1.alloc _) _ (some ⟨w1.heap.size, 0, none⟩) 1 1 [.slice A1 (rx bag k).length cap1, .int .i64 1] rfl (reads_new2 w1 _ _ _) (by simp [Value.oneCell']) (by simp only [maxLen]; omega) (by omega) (by rw [World.size_alloc]; omega) ?_; intro v2 w2 hown2 hgrow2 hat2; have hk2 : Below w.heap.size w w2 := (hk1'.alloc hk1'.size _).grown hgrow2 (by rw [World.size_alloc]; omega) (fun g e => (hO1.1.lt g e).1))
          have hO2 : OBag w2 w.heap.size v2 (es ++ [⟨rx bag k, 1, A1, cap1, g1⟩]) := hOd.pushRow (wd := wr) rfl hbd.size hg1 hR1 hO1 hown2 hgrow2 hat2
          have HP := Lib.hid (show (es ++ [(⟨rx bag k, 1, A1, cap1, g1⟩ : Ent)]).map Ent.pair = onceL (bag.take (k + 1)) by rw [List.map_append, HE.out, HS.out]; rfl)
          have HN2 := Lib.hid (show ∃ g, v2.ownBlock = some g by
            rcases hat2 with e | e
            · exact HNN.out.imp fun g hg => e.trans hg
            · exact ⟨_, e⟩)
          clear hown2 hgrow2 hat2 hO1 hk1' hb1 hR1 hg1 hOd hbd h1d h2d h3e
          go_wp2
          go_roundw
          case rel => exact ⟨k + 1, _, by omega, by go_num, hO2, HN2.out, HP.out, fun _ => HOB.out, hk2⟩
          case measure => simp [intOf]; omega
        · have hnd := decide_eq_false hn
          have HS := Lib.hid (show onceL (bag.take (k + 1)) = onceL (bag.take k) by rw [once_step hlt, if_neg hn, List.append_nil])
          clear hn
          go_wp2
          go_roundw
          case rel => exact ⟨k + 1, es, by omega, by go_num, hOd, HNN.out, HE.out.trans HS.out.symm, fun _ => HOB.out, hbd⟩
          case measure => simp [intOf]; omega
    · have hd : decide (k < bag.length) = false := by simpa using hlt
      have HB1 := Lib.hid (show onceL (bag.take k) = onceB bag by
        rw [List.take_of_length_le (by omega)]
        unfold onceB
        rcases Nat.eq_zero_or_pos k with h | h
        · have : bag = [] := List.length_eq_zero_iff.1 (by omega)
          subst this; simp [onceL]
        · rw [HOK.out h]; rfl)
      go_wp2
      go_ret
      obtain ⟨g, cap', rfl, hOB⟩ := OB.of_val hO HNN.out
      exact ⟨g, cap', es, rfl, hOB, HE.out.trans HB1.out, hW⟩

set_option maxRecDepth 100000 in
set_option maxHeartbeats 4000000 in
theorem implOnce_any (A : Option Addr) (c : Nat) (bag : List (List Int × Int)) (w : World) (hB : Bag w w.heap.size A bag) (hl : bag.length ≤ 549755813888) :
    Calls Try.prog 12 #[.slice A bag.length c] w (OwnBag w.heap.size (onceB bag) w) := by
  obtain ⟨i0, hi0, hz0, hz1, hz2⟩ := info_parts info_count
  have b1 := (Below.refl w.heap.size w).alloc (Nat.le_refl _) (.cells #[] 50)
  have hE := OBag.nil (empty_counts w)
  have hB1 := hB.on ((Below.refl w.heap.size w).alloc (Nat.le_refl _) (.cells #[] 50))
  go_enter Try.func12, Try.ntmps12
  go_wp2_with fail
  refine (implBagOk_any A c bag _ hB1 (by omega)).mono ?_
  rintro e w1 ⟨rfl, hb1⟩
  have hE1 := hE.on hb1
  have hW1 := bel_step b1 hb1
  clear hE b1 hB1 hb1
  cases hob : bagOkB bag with
  | false =>
    have HB0 := Lib.hid (show onceB bag = [] by unfold onceB; rw [hob]; rfl)
    clear hob
    go_wp2
    go_ret
    exact ⟨w.heap.size, 0, [], rfl, hE1, by rw [HB0.out]; rfl, hW1⟩
  | true =>
    have HB1 := Lib.hid (show onceB bag = onceL bag by unfold onceB; rw [hob]; rfl)
    clear hob
    go_wp2
    go_loopw [3, 13] (fun v i wr => ∃ (k : Nat) (es : List Ent), k ≤ bag.length ∧ i = .int .i64 k ∧ OBag wr w.heap.size v es ∧ (∃ g, v.ownBlock = some g) ∧ es.map Ent.pair = onceL (bag.take k) ∧ Below w.heap.size w wr) (fun _ i _ => bag.length - (intOf i).toNat)
    case atStart => exact ⟨0, [], Nat.zero_le _, rfl, hE1, ⟨_, rfl⟩, rfl, hW1⟩
    case round =>
      obtain ⟨k, es, hk, rfl, hO, hnn, he, hW⟩ := hrel
      have HNN := Lib.hid hnn
      have HE := Lib.hid he
      have hel : es.length ≤ k := by
        have h1 := congrArg List.length HE.out
        have h2 := once_len (bag.take k)
        rw [List.length_map] at h1
        rw [List.length_take] at h2
        omega
      clear he hE1 hW1 hnn
      by_cases hlt : k < bag.length
      · obtain ⟨b, off, rfl, hblt, hc⟩ := hB (by omega)
        obtain ⟨Ar, cap, c1, c2, h3, h4⟩ := hc k hlt
        clear hc
        have h1 : wr.cell? ⟨b, off + k * 2, none⟩ = some (.slice Ar (rx bag k).length cap) := (hW.cell hblt).trans c1
        have h2 : wr.cell? ⟨b, off + k * 2 + 1, none⟩ = some (.int .i64 (nx bag k)) := (hW.cell hblt).trans c2
        have hk0 : (0 : Int) ≤ (k : Int) := Int.natCast_nonneg _
        have hk1 : (k : Int) < (bag.length : Int) := by omega
        have h3r : Ints wr wr.heap.size Ar (rx bag k) := h3.on hW
        have bc := (Below.refl wr.heap.size wr).alloc (Nat.le_refl _) (.cells #[.slice Ar (rx bag k).length cap, .int .i64 (nx bag k)] 50)
        have BC := Blk.new wr 50 #[.slice Ar (rx bag k).length cap, .int .i64 (nx bag k)]
        have d0 := BC.cell 0
        have d1 := BC.cell 1
        simp only [List.getElem?_toArray, List.getElem?_cons_zero, List.getElem?_cons_succ] at d0 d1
        have hGl := BC.lt
        clear c1 c2 h3 BC
        have hO' := hO.on bc
        have h3' := h3r.on bc
        have hW' := hW.trans (bc.mono hW.size)
        by_cases hn : 0 < nx bag k
        · have hnd := decide_eq_true hn
          have HS := Lib.hid (show onceL (bag.take (k + 1)) = onceL (bag.take k) ++ [(rx bag k, 1)] by rw [once_step hlt, if_pos hn])
          clear hn
          go_wp2_with fail
          refine (copyOfRow_row Ar cap (rx bag k) _ h3' h4).mono ?_
          rintro e w1 ⟨A1, cap1, g1, rfl, hg1, hR1, hb1⟩
          have hk1' : Below w.heap.size w w1 := hW'.trans (hb1.mono hW'.size)
          have hO1 := hO'.on hb1
          have hs1 : w.heap.size ≤ w1.heap.size := hk1'.size
          go_wp2_with (at_builtin; refine wpList_append_any _ rfl (.tmp 20) (.tmp 25) 24 rfl w.heap.size 50 i0 _ 2 32 Try.underlying24 hi0 hz0 hz1 hz2 rfl (by decide) _ _ (entCells es) rfl (hO1.1.alloc _) _ (some ⟨w1.heap.size, 0, none⟩) 1 1 [.slice A1 (rx bag k).length cap1, .int .i64 1] rfl (reads_new2 w1 _ _ _) (by simp [Value.oneCell']) (by simp only [maxLen]; omega) (by omega) (by rw [World.size_alloc]; omega) ?_; intro v2 w2 hown2 hgrow2 hat2; have hk2 : Below w.heap.size w w2 := (hk1'.alloc hk1'.size _).grown hgrow2 (by rw [World.size_alloc]; omega) (fun g e => (hO1.1.lt g e).1))
          have hO2 : OBag w2 w.heap.size v2 (es ++ [⟨rx bag k, 1, A1, cap1, g1⟩]) := hO'.pushRow (wd := wr.alloc (.cells #[.slice Ar (rx bag k).length cap, .int .i64 (nx bag k)] 50)) rfl hW'.size hg1 hR1 hO1 hown2 hgrow2 hat2
          have HP := Lib.hid (show (es ++ [(⟨rx bag k, 1, A1, cap1, g1⟩ : Ent)]).map Ent.pair = onceL (bag.take (k + 1)) by rw [List.map_append, HE.out, HS.out]; rfl)
          have HN2 := Lib.hid (show ∃ g, v2.ownBlock = some g by
            rcases hat2 with e | e
            · exact HNN.out.imp fun g hg => e.trans hg
            · exact ⟨_, e⟩)
          clear hown2 hgrow2 hat2 hO1 hk1' hb1 hR1 hg1 hO' hO hW hW' h1 h2 d0 d1 h3' h3r bc
          go_wp2
          go_roundw
          case rel => exact ⟨k + 1, _, by omega, by go_num, hO2, HN2.out, HP.out, hk2⟩
          case measure => simp [intOf]; omega
        · have hnd := decide_eq_false hn
          have HS := Lib.hid (show onceL (bag.take (k + 1)) = onceL (bag.take k) by rw [once_step hlt, if_neg hn, List.append_nil])
          clear hn
          go_wp2
          go_roundw
          case rel => exact ⟨k + 1, es, by omega, by go_num, hO', HNN.out, HE.out.trans HS.out.symm, hW'⟩
          case measure => simp [intOf]; omega
      · have hd : decide (k < bag.length) = false := by simpa using hlt
        go_wp2
        go_ret
        obtain ⟨g, cap', rfl, hOB⟩ := OB.of_val hO HNN.out
        exact ⟨g, cap', es, rfl, hOB, by rw [HE.out, HB1.out, List.take_of_length_le (by omega)], hW⟩
end Go.Proofs.Ytcfnbpofbcendaa
