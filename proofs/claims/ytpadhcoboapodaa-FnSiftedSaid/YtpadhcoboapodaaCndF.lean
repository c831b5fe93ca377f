/- What is sifted: the model's and the program's Sifted: a bag of the call's own; nothing that lay has turned. For conds, bags and rows of at most 2^40. -/
import Derived.Test.YtpadhcoboapodaaCndK
import Derived.Test.YtpadhcoboapodaaJD
import Derived.Test.YtpadhcoboapodaaBagI2
namespace Go.Proofs.Ytpadhcoboapodaa
open Go.RowKit

def sif (l : List Cnd) (e : List Int × Int) : Bool := holdsB l e.1
def siftL (l : List Cnd) (bag : List (List Int × Int)) : List (List Int × Int) := if bagOkB bag = true then bag.filter (sif l) else []
theorem sift_no {l : List Cnd} {bag : List (List Int × Int)} (h : bagOkB bag = false) : siftL l bag = [] := by unfold siftL; rw [h]; rfl
theorem sift_is {l : List Cnd} {bag : List (List Int × Int)} (h : bagOkB bag = true) : siftL l bag = bag.filter (sif l) := by unfold siftL; rw [h]; rfl
theorem sift_yes {l : List Cnd} {bag : List (List Int × Int)} {k : Nat} (h : k < bag.length) (hh : holdsB l (rx bag k) = true) : (bag.take (k + 1)).filter (sif l) = (bag.take k).filter (sif l) ++ [(rx bag k, nx bag k)] := by
  rw [List.take_succ_eq_append_getElem h, List.filter_append, bag_ix h]
  simp [sif, hh]
theorem sift_none {l : List Cnd} {bag : List (List Int × Int)} {k : Nat} (h : k < bag.length) (hh : holdsB l (rx bag k) = false) : (bag.take (k + 1)).filter (sif l) = (bag.take k).filter (sif l) := by
  rw [List.take_succ_eq_append_getElem h, List.filter_append, bag_ix h]
  simp [sif, hh]
theorem sift_len (l : List Cnd) (bag : List (List Int × Int)) (k : Nat) : ((bag.take k).filter (sif l)).length ≤ k := Nat.le_trans (List.length_filter_le _ _) (by simp; omega)
theorem pair_more {es : List Ent} {xs : List (List Int × Int)} {r : List Int} {n : Int} {A : Option Addr} {c g : Nat} (h : es.map Ent.pair = xs) : (es ++ [(⟨r, n, A, c, g⟩ : Ent)]).map Ent.pair = xs ++ [(r, n)] := by
  rw [List.map_append, h]; rfl

set_option maxRecDepth 100000 in
set_option maxHeartbeats 8000000 in
theorem specSifted_any (A A' : Option Addr) (c c' : Nat) (l : List Cnd) (bag : List (List Int × Int)) (w : World) (hC : Cnds w w.heap.size A l) (hB : Bag w w.heap.size A' bag) (hlc : l.length ≤ 1099511627776) (hl : bag.length ≤ 1099511627776) :
    Calls Try.prog 8 #[.slice A l.length c, .slice A' bag.length c'] w (OwnB (siftL l bag) w) := by
  obtain ⟨R, hR⟩ : ∃ R, siftL l bag = R := ⟨_, rfl⟩
  have HQ := Lib.hid hR
  rw [hR]
  clear hR
  obtain ⟨i0, hi0, hz0, hz1, hz2⟩ := info_parts info_count
  have b1 := (Below.refl w.heap.size w).alloc (Nat.le_refl _) (.cells #[] 42)
  have hE := OBag.nil (empty_counts w)
  go_enter Try.func8, Try.ntmps8
  go_wp2
  go_loopw [5, 6] (fun v i wr => ∃ (k : Nat) (es : List Ent), k ≤ bag.length ∧ i = .int .i64 k ∧ OBag wr w.heap.size v es ∧ es.map Ent.pair = (bag.take k).filter (sif l) ∧ Below w.heap.size w wr ∧ (bagOkB bag = false → k = 0)) (fun _ i _ => bag.length - (intOf i).toNat)
  case atStart => exact ⟨0, [], Nat.zero_le _, rfl, hE, by simp, b1, fun _ => rfl⟩
  case round =>
    clear hE b1
    obtain ⟨k, es, hk, rfl, hO, he, hW, h0⟩ := hrel
    have HE := Lib.hid he
    have H0 := Lib.hid h0
    have HEL := Lib.hid (show es.length ≤ k by have h1 := congrArg List.length he; rw [List.length_map] at h1; have := sift_len l bag k; omega)
    clear he h0
    by_cases hlt : k < bag.length
    · have hBr := hB.on hW
      have hCr := hC.on hW
      go_wp2_with fail
      refine (specBagOk_any A' c' bag wr wr.heap.size hBr hl).mono ?_
      rintro e w1 ⟨rfl, n1, rfl⟩
      cases hbo : bagOkB bag with
      | false =>
        have HD := Lib.hid (show es.map Ent.pair = R by rw [HE.out, ← HQ.out, sift_no hbo, H0.out hbo]; rfl)
        clear hbo
        go_wp2
        go_ret
        exact ⟨_, es, rfl, hO.drewN n1, HD.out, bel_drewN hW n1⟩
      | true =>
        have HBO := Lib.hid hbo
        clear hbo
        obtain ⟨b, off, rfl, hblt, hc⟩ := hB (by omega)
        obtain ⟨Ar, cap, c1, c2, h3, h4⟩ := hc k hlt
        clear hc
        have hW1 := bel_drewN hW n1
        have hO1' := hO.drewN n1
        have hC1 : Cnds (wr.drewN n1) (wr.drewN n1).heap.size A l := hCr.drewN n1
        have h1 : (wr.drewN n1).cell? ⟨b, off + k * 2, none⟩ = some (.slice Ar (rx bag k).length cap) := (hW1.cell hblt).trans c1
        have h2 : (wr.drewN n1).cell? ⟨b, off + k * 2 + 1, none⟩ = some (.int .i64 (nx bag k)) := (hW1.cell hblt).trans c2
        have h3r : Ints (wr.drewN n1) (wr.drewN n1).heap.size Ar (rx bag k) := h3.on hW1
        clear hBr hCr hW hO
        have hk0 : (0 : Int) ≤ (k : Int) := Int.natCast_nonneg _
        have hk1 : (k : Int) < (bag.length : Int) := by omega
        generalize wr.drewN n1 = wd at *
        go_wp2_with fail
        refine (specHolds_any A Ar c cap l (rx bag k) wd hC1 h3r hlc h4).mono ?_
        rintro e wh ⟨rfl, hbh⟩
        have hW2 := bel_step hW1 hbh
        have hO2' := hO1'.on hbh
        have h3h := h3r.on hbh
        have h1h : wh.cell? ⟨b, off + k * 2, none⟩ = some (.slice Ar (rx bag k).length cap) := (hW2.cell hblt).trans c1
        have h2h : wh.cell? ⟨b, off + k * 2 + 1, none⟩ = some (.int .i64 (nx bag k)) := (hW2.cell hblt).trans c2
        clear h1 h2 hW1 hO1' h3r hbh hC1
        cases hh : holdsB l (rx bag k) with
        | false =>
          have HS := Lib.hid (show es.map Ent.pair = (bag.take (k + 1)).filter (sif l) by rw [HE.out, sift_none hlt hh])
          have HX := Lib.hid (show bagOkB bag = false → k + 1 = 0 from fun h => by rw [HBO.out] at h; cases h)
          clear hh c1 c2 h3
          go_wp2
          go_roundw
          case rel => exact ⟨k + 1, es, by omega, by go_num, hO2', HS.out, hW2, HX.out⟩
          case measure => simp [intOf]; omega
        | true =>
          have HS := Lib.hid (sift_yes (l := l) hlt hh)
          have HX := Lib.hid (show bagOkB bag = false → k + 1 = 0 from fun h => by rw [HBO.out] at h; cases h)
          have HC := Lib.hid (And.intro c1 c2)
          clear hh c1 c2 h3
          go_wp2_with fail
          go_region_held3 (fun w' => w'.cell? ⟨b, off + k * 2, none⟩ = some (.slice Ar (rx bag k).length cap) ∧ w'.cell? ⟨b, off + k * 2 + 1, none⟩ = some (.int .i64 (nx bag k)))
            (first | go_keep | exact ⟨(hk2.cell hblt).trans HC.out.1, (hk2.cell hblt).trans HC.out.2⟩ | exact ⟨(hk1'.cell hblt).trans HC.out.1, (hk1'.cell hblt).trans HC.out.2⟩)
            (first | (refine step_append_any _ rfl (.tmp 25) (.tmp 38) 25 (by rfl) w.heap.size 42 i0 _ 2 32 Try.underlying25 hi0 hz0 hz1 hz2 rfl (by omega) _ _ (entCells es) (by rfl) (hO1.1.alloc _) _ (some ⟨w1.heap.size, 0, none⟩) 1 1 [.slice A1 (rx bag k).length cap1, .int .i64 (nx bag k)] (by rfl) (reads_new2 w1 _ _ _) (by simp [Value.oneCell']) (by simp only [maxLen]; have := HEL.out; omega) (by have := HEL.out; omega) (by rw [World.size_alloc]; have := hk1'.size; omega) ?_; intro v2 w2 hown2 hgrow2 hat2; have hk2 : Below w.heap.size w w2 := (hk1'.alloc hk1'.size _).grown hgrow2 (by rw [World.size_alloc]; have := hk1'.size; omega) (fun g e => (hO1.1.lt g e).1)) | (go_at_call 22; refine (l1Row_row Ar cap (rx bag k) _ (by exact h3h) h4).mono ?_; rintro e w1 ⟨A1, cap1, g1, rfl, hg1, hR1, hb1⟩; have hk1' : Below w.heap.size w w1 := (bel_drewN hW2 1).trans (hb1.mono hW2.size); have hO1 := (hO2'.drewN 1).on hb1))
          have hO2 : OBag w2 w.heap.size v2 (es ++ [⟨rx bag k, nx bag k, A1, cap1, g1⟩]) := hO2'.pushRow rfl hW2.size hg1 hR1 hO1 hown2 hgrow2 hat2
          have hp2 : (es ++ [(⟨rx bag k, nx bag k, A1, cap1, g1⟩ : Ent)]).map Ent.pair = (bag.take (k + 1)).filter (sif l) := by rw [HS.out]; exact pair_more HE.out
          have HP := Lib.hid hp2
          clear hp2 hown2 hgrow2 hat2 hO1 hk1' hb1 hR1 hg1 hO2' hW2 h1h h2h h3h
          go_wp2
          go_roundw
          case rel => exact ⟨k + 1, _, by omega, by go_num, hO2, HP.out, hk2, HX.out⟩
          case measure => simp [intOf]; omega
    · have hd : decide (k < bag.length) = false := by simpa using hlt
      have HD := Lib.hid (show es.map Ent.pair = R by
        cases hbo : bagOkB bag with
        | false => rw [HE.out, ← HQ.out, sift_no hbo, H0.out hbo]; rfl
        | true => rw [HE.out, ← HQ.out, sift_is hbo, List.take_of_length_le (by omega)])
      go_wp2
      go_ret
      exact ⟨_, es, rfl, hO, HD.out, hW⟩

set_option maxRecDepth 100000 in
set_option maxHeartbeats 8000000 in
theorem implSifted_any (A A' : Option Addr) (c c' : Nat) (l : List Cnd) (bag : List (List Int × Int)) (w : World) (hC : Cnds w w.heap.size A l) (hB : Bag w w.heap.size A' bag) (hlc : l.length ≤ 1099511627776) (hl : bag.length ≤ 1099511627776) :
    Calls Try.prog 6 #[.slice A l.length c, .slice A' bag.length c'] w (OwnB (siftL l bag) w) := by
  obtain ⟨R, hR⟩ : ∃ R, siftL l bag = R := ⟨_, rfl⟩
  have HQ := Lib.hid hR
  rw [hR]
  clear hR
  obtain ⟨i0, hi0, hz0, hz1, hz2⟩ := info_parts info_count
  have b1 := (Below.refl w.heap.size w).alloc (Nat.le_refl _) (.cells #[] 42)
  have hE := OBag.nil (empty_counts w)
  have hBr := hB.on b1
  have hCr := hC.on b1
  go_enter Try.func6, Try.ntmps6
  go_wp2_with fail
  generalize hwe : w.alloc (.cells #[] 42) = we at *
  refine (implBagOk_any A' c' bag we hBr hl).mono ?_
  rintro e wf ⟨rfl, hbf⟩
  have hE1 := hE.on hbf
  have hW1 := bel_step b1 hbf
  clear hE b1 hBr hCr hbf hwe
  cases hbo : bagOkB bag with
  | false =>
    have HD := Lib.hid (show ([] : List Ent).map Ent.pair = R by rw [← HQ.out, sift_no hbo]; rfl)
    clear hbo
    go_wp2
    go_ret
    exact ⟨_, [], rfl, hE1, HD.out, hW1⟩
  | true =>
    have HS := Lib.hid (show bag.filter (sif l) = R by rw [← HQ.out, sift_is hbo])
    clear hbo
    go_wp2
    go_loopw [5, 15] (fun v i wr => ∃ (k : Nat) (es : List Ent), k ≤ bag.length ∧ i = .int .i64 k ∧ OBag wr w.heap.size v es ∧ es.map Ent.pair = (bag.take k).filter (sif l) ∧ Below w.heap.size w wr) (fun _ i _ => bag.length - (intOf i).toNat)
    case atStart => exact ⟨0, [], Nat.zero_le _, rfl, hE1, by simp, hW1⟩
    case round =>
      clear hE1 hW1
      obtain ⟨k, es, hk, rfl, hO, he, hW⟩ := hrel
      have HE := Lib.hid he
      have HEL := Lib.hid (show es.length ≤ k by have h1 := congrArg List.length he; rw [List.length_map] at h1; have := sift_len l bag k; omega)
      clear he
      by_cases hlt : k < bag.length
      · obtain ⟨b, off, rfl, hblt, hc⟩ := hB (by omega)
        obtain ⟨Ar, cap, c1, c2, h3, h4⟩ := hc k hlt
        clear hc
        have h1 : wr.cell? ⟨b, off + k * 2, none⟩ = some (.slice Ar (rx bag k).length cap) := (hW.cell hblt).trans c1
        have h2 : wr.cell? ⟨b, off + k * 2 + 1, none⟩ = some (.int .i64 (nx bag k)) := (hW.cell hblt).trans c2
        have hk0 : (0 : Int) ≤ (k : Int) := Int.natCast_nonneg _
        have hk1 : (k : Int) < (bag.length : Int) := by omega
        have h3r : Ints wr wr.heap.size Ar (rx bag k) := h3.on hW
        have hCr := hC.on hW
        have bc := (Below.refl wr.heap.size wr).alloc (Nat.le_refl _) (.cells #[.slice Ar (rx bag k).length cap, .int .i64 (nx bag k)] 42)
        have BC := Blk.new wr 42 #[.slice Ar (rx bag k).length cap, .int .i64 (nx bag k)]
        have d0 := BC.cell 0
        simp only [List.getElem?_toArray, List.getElem?_cons_zero] at d0
        have hnG : some wr.heap.size ≠ u5.ownBlock := fun e => by have := hO.inside.1 _ e.symm; omega
        have hO' := hO.on bc
        have h3' := h3r.on bc
        have hCb := hCr.on bc
        have hWb := bel_step hW bc
        clear c1 c2 h3 hO h3r hCr hW bc
        go_wp2_with fail
        generalize wr.alloc (.cells #[.slice Ar (rx bag k).length cap, .int .i64 (nx bag k)] 42) = wa at *
        refine (implHolds_any A Ar c cap l (rx bag k) wa hCb h3' hlc h4).mono ?_
        rintro e wh ⟨rfl, hbh⟩
        have hW2 := bel_step hWb hbh
        have hO2' := hO'.on hbh
        have h3h := h3'.on hbh
        have BCh := BC.on hbh
        clear d0 h1 h2 hWb hO' h3' BC hCb hbh
        have hGl := BCh.lt
        generalize wr.heap.size = G at *
        cases hh : holdsB l (rx bag k) with
        | false =>
          have HT := Lib.hid (show es.map Ent.pair = (bag.take (k + 1)).filter (sif l) by rw [HE.out, sift_none hlt hh])
          clear hh
          go_wp2
          go_roundw
          case rel => exact ⟨k + 1, es, by omega, by go_num, hO2', HT.out, hW2⟩
          case measure => simp [intOf]; omega
        | true =>
          have HT := Lib.hid (sift_yes (l := l) hlt hh)
          have d0 := BCh.cell 0
          have d1 := BCh.cell 1
          simp only [List.getElem?_toArray, List.getElem?_cons_zero, List.getElem?_cons_succ] at d0 d1
          have hlo' : w.heap.size ≤ wh.heap.size := hW2.size
          clear hh BCh
          go_wp2_with fail
          go_region_held3 (fun w' => w'.cell? ⟨G, 0, none⟩ = some (.slice Ar (rx bag k).length cap) ∧ w'.cell? ⟨G, 1, none⟩ = some (.int .i64 (nx bag k)))
            (first | go_keep | exact ⟨(far_cell (p := ⟨G, 0, none⟩) hb1 hgrow2 hGl hnG).trans d0, (far_cell (p := ⟨G, 1, none⟩) hb1 hgrow2 hGl hnG).trans d1⟩ | exact ⟨(hb1.cell (p := ⟨G, 0, none⟩) hGl).trans d0, (hb1.cell (p := ⟨G, 1, none⟩) hGl).trans d1⟩)
            (first | (refine step_append_any _ rfl (.tmp 23) (.tmp 30) 25 (by rfl) w.heap.size 42 i0 _ 2 32 Try.underlying25 hi0 hz0 hz1 hz2 rfl (by omega) _ _ (entCells es) (by rfl) (hO1.1.alloc _) _ (some ⟨w1.heap.size, 0, none⟩) 1 1 [.slice A1 (rx bag k).length cap1, .int .i64 (nx bag k)] (by rfl) (reads_new2 w1 _ _ _) (by simp [Value.oneCell']) (by simp only [maxLen]; have := HEL.out; omega) (by have := HEL.out; omega) (by rw [World.size_alloc]; have hs1 : wh.heap.size ≤ w1.heap.size := hb1.size; omega) ?_; intro v2 w2 hown2 hgrow2 hat2; have hk2 : Below w.heap.size w w2 := (hk1'.alloc (by have hs1 : wh.heap.size ≤ w1.heap.size := hb1.size; omega) _).grown hgrow2 (by rw [World.size_alloc]; have hs1 : wh.heap.size ≤ w1.heap.size := hb1.size; omega) (fun g e => (hO1.1.lt g e).1)) | (go_at_call 19; refine (copyOfRow_row Ar cap (rx bag k) _ (by exact h3h) h4).mono ?_; rintro e w1 ⟨A1, cap1, g1, rfl, hg1, hR1, hb1⟩; have hk1' : Below w.heap.size w w1 := (bel_drewN hW2 1).trans (hb1.mono hlo'); have hO1 := (hO2'.drewN 1).on hb1))
          have hO2 : OBag w2 w.heap.size v2 (es ++ [⟨rx bag k, nx bag k, A1, cap1, g1⟩]) := hO2'.pushRow rfl hlo' hg1 hR1 hO1 hown2 hgrow2 hat2
          have HP := Lib.hid (show (es ++ [(⟨rx bag k, nx bag k, A1, cap1, g1⟩ : Ent)]).map Ent.pair = (bag.take (k + 1)).filter (sif l) by rw [HT.out]; exact pair_more HE.out)
          clear hown2 hgrow2 hat2 hO1 hk1' hb1 hR1 hg1 hO2' hW2 d0 d1 h3h
          go_wp2
          go_roundw
          case rel => exact ⟨k + 1, _, by omega, by go_num, hO2, HP.out, hk2⟩
          case measure => simp [intOf]; omega
      · have hd : decide (k < bag.length) = false := by simpa using hlt
        have HD := Lib.hid (show es.map Ent.pair = R by rw [HE.out, ← HS.out, List.take_of_length_le (by omega)])
        go_wp2
        go_ret
        exact ⟨_, es, rfl, hO, HD.out, hW⟩
end Go.Proofs.Ytpadhcoboapodaa
