/- The contract of the program's together, with the room of the rows: counts of any N, those of a row in one (none of 0), in order, in memory of the call's own; their list itself is left in another order. For lists of at most 2^20, rows of at most 2^40. -/
import Derived.Test.YtcfnbpofbcendabDel1
namespace Go.Proofs.Ytcfnbpofbcendab
open Go.RowKit

set_option maxRecDepth 100000 in
set_option maxHeartbeats 8000000 in
theorem together_own (lo g cap : Nat) (es : List Ent) (w : World) (hC : HC w lo w.heap.size g cap es) (hN : N64 (es.map Ent.pair)) (hl : es.length ≤ 1048576) :
    Calls Try.prog 37 #[.slice (some ⟨g, 0, none⟩) es.length cap] w fun e w' => ∃ gb cb bs, e = .returned (.slice (some ⟨gb, 0, none⟩) bs.length cb) ∧ OB w' w.heap.size gb cb bs ∧ bs.map Ent.pair = togL (es.map Ent.pair) ∧ Below lo w w' ∧ DC w' w.heap.size (some gb) bs := by
  have hta := assert_count
  have HN64 := Lib.hid hN
  have HLe := Lib.hid (show ∀ p ∈ es.map Ent.pair, p.1.length ≤ 1099511627776 from fun p hp => by
    obtain ⟨e, he, rfl⟩ := List.mem_map.1 hp
    exact (hC.2 e he).2)
  clear hN
  obtain ⟨i0, hi0, hz0, hz1, hz2⟩ := info_parts info_count
  have hlog := hC.lt
  obtain ⟨w1, hw1⟩ : ∃ w1, w1 = w.alloc (.cells #[.slice (some ⟨g, 0, none⟩) es.length cap] 68) := ⟨_, rfl⟩
  have hW : Below w.heap.size w w1 := by rw [hw1]; exact (Below.refl _ _).alloc (Nat.le_refl _) _
  have hWlo : Below lo w w1 := by rw [hw1]; exact (Below.refl _ _).alloc (by omega) _
  have hH : HP w1 lo w.heap.size w.heap.size g cap es := by
    refine ⟨?_, ⟨by omega, Nat.le_refl _⟩, hC.on hW⟩
    rw [hw1]; exact Blk.new w 68 #[.slice (some ⟨g, 0, none⟩) es.length cap]
  have hgl : g < w1.heap.size := by have := hW.size; omega
  clear hC
  go_enter Try.func37, Try.ntmps37
  go_wp2_with fail
  rw [← hw1]
  clear hw1
  refine (heapInit_any lo w.heap.size w1.heap.size w.heap.size g cap es w1 hH hgl (by omega)).mono ?_
  rintro e w2 ⟨⟨v2, rfl⟩, hs, hH2, hl2, hp2, hF2, hW2⟩
  have hlow : w.heap.size ≤ w1.heap.size := hW.size
  have hb2 : Below lo w w2 := hWlo.trans (hW2.bel (by omega))
  have hgt : g < w2.heap.size := by have := hW2.size; omega
  have hpt : w.heap.size < w2.heap.size := by have := hW2.size; have := hH.1.lt; omega
  have hE3 := OBag.nil (empty_counts w2)
  have b3 := (Below.refl w2.heap.size w2).alloc (Nat.le_refl _) (.cells #[] 33)
  have hH3 := hH2.on b3
  have hb3 : Below lo w (w2.alloc (.cells #[] 33)) := hb2.trans (b3.mono (by have := hb2.size; omega))
  have HPM := Lib.hid (show (es.map Ent.pair).Perm ([] ++ hs.map Ent.pair) by
    have := (hp2.map Ent.pair).symm
    simpa using this)
  have HF3 := Lib.hid (show HF hs hs.length 0 by rw [hl2]; exact hF2)
  clear hl2 hp2 hF2 hW2 hH2 hH hW hgl b3 hWlo
  go_wp2
  go_loopw [4, 5, 6, 7] (fun v _ _ _ wq => ∃ (gb cb : Nat) (bs hs : List Ent) (pre : List (List Int × Int)), v = .slice (some ⟨gb, 0, none⟩) bs.length cb ∧ HP wq lo w.heap.size w.heap.size g cap hs ∧ HF hs hs.length 0 ∧ OB wq w2.heap.size gb cb bs ∧ CL (bs.map Ent.pair) pre ∧ (es.map Ent.pair).Perm (pre ++ hs.map Ent.pair) ∧ (∀ f ∈ hs, ∀ q ∈ pre, lessB f.r q.1 = false) ∧ Below lo w wq ∧ DC wq w2.heap.size (some gb) bs) (fun _ _ _ _ wq => lenAt w.heap.size wq)
  case atStart => exact ⟨w2.heap.size, 0, [], hs, [], rfl, hH3, HF3.out, hE3, CL.nil, HPM.out, fun f _ q hq => (by cases hq), hb3, DC.nil _ _ _⟩
  case round =>
    obtain ⟨gb, cb, bs, ts, pre, rfl, hH, hF, hO, hbs, hpm, hle, hW, hDC⟩ := hrel
    have HHF := Lib.hid hF
    have HBS := Lib.hid hbs
    have HPM2 := Lib.hid hpm
    have HLE := Lib.hid hle
    have hlen := hH.len
    have HLEN := Lib.hid hlen
    have hp0 : wr.cell? ⟨w.heap.size, 0, none⟩ = some (.slice (some ⟨g, 0, none⟩) ts.length cap) := hH.1.cell 0
    have hpl := hH.1.lt
    have htot : pre.length + ts.length = es.length := by have := HPM2.out.length_eq; simp at this; omega
    clear hF hbs hpm hle hlen hH3 hE3 HF3 HPM hb3
    have hgb := hO.lt
    by_cases h0 : 0 < ts.length
    · obtain ⟨n, hn⟩ : ∃ n, ts.length = n + 1 := ⟨ts.length - 1, by omega⟩
      have HN := Lib.hid hn
      have hnb : n < 1048576 := by omega
      have hc0 := hH.2.2.2 ts[0] (List.getElem_mem h0)
      rw [← ex_eq h0] at hc0
      have HMEM := Lib.hid (show ex ts 0 ∈ ts by rw [ex_eq h0]; exact List.getElem_mem h0)
      clear hn
      go_wp2_with fail
      refine (heapLen_any _ _ _ wr).mono ?_
      rintro e w' ⟨rfl, rfl⟩
      go_wp2_with fail
      refine (heapPop_any lo w.heap.size w2.heap.size w.heap.size g cap n ts wr hH hgt hpt HN.out (by rw [← HN.out]; exact HHF.out) (by omega)).mono ?_
      rintro e w4 ⟨rfl, fs, hH4, hfl, hpm4, hF4, hmin, hR4, hW4⟩
      have hlr : lo ≤ wr.heap.size := by have := hW.size; omega
      have hrl : (kx ts 0).length ≤ 1099511627776 := hc0.2
      have hIr' : Ints w4 w4.heap.size (ex ts 0).A (kx ts 0) := hR4.ints
      have hnn : addW 0 (ex ts 0).n = (ex ts 0).n := HN64.out _ (HPM2.out.symm.subset (List.mem_append.2 (.inr (List.mem_map_of_mem HMEM.out))))
      have hb4 : Below lo w w4 := hW.trans (hW4.bel hlr)
      have hO4 : OB w4 w2.heap.size gb cb bs := OBag.top hO hW4
      have hD4 : DC w4 w2.heap.size (some gb) bs := hDC.kept fun b h1 h2 _ => hW4.block b h2 (by omega)
      clear hDC
      have hpm5 : (es.map Ent.pair).Perm ((pre ++ [(kx ts 0, (ex ts 0).n)]) ++ fs.map Ent.pair) := by
        have h1 := hpm4.map Ent.pair
        rw [List.map_cons] at h1
        refine HPM2.out.trans ?_
        rw [List.append_assoc]
        exact List.Perm.append_left _ h1
      have hle5 : ∀ f ∈ fs, ∀ q ∈ pre ++ [(kx ts 0, (ex ts 0).n)], lessB f.r q.1 = false := by
        intro f hf q hq
        rcases List.mem_append.1 hq with hq | hq
        · exact HLE.out f (hpm4.symm.subset (List.mem_cons_of_mem _ hf)) q hq
        · rw [List.mem_singleton.1 hq]; exact hmin f hf
      have hlast : ∀ q ∈ bs.map Ent.pair, lessB (kx ts 0) q.1 = false := fun q hq => by
        obtain ⟨p, hp, e⟩ := HBS.out.2.2.1 q hq
        rw [e]; exact HLE.out _ HMEM.out p hp
      have hprel : pre.length ≤ 1048576 := by omega
      have hF5 : HF fs fs.length 0 := by rw [hfl]; exact hF4
      have hbl : bs.length ≤ 1048576 := by
        have h1 := HBS.out.2.2.2
        rw [List.length_map] at h1
        omega
      have HBR := Lib.hid (show ∀ e ∈ bs, e.r.length ≤ 1099511627776 from fun e he => by
        obtain ⟨q, hq, e1⟩ := HBS.out.2.2.1 e.pair (List.mem_map_of_mem he)
        have := HLe.out q (HPM2.out.symm.subset (List.mem_append.2 (.inl hq)))
        rw [show e.r = q.1 from e1]; exact this)
      have HFL := Lib.hid hfl
      have HF5 := Lib.hid hF5
      have HPM5 := Lib.hid hpm5
      have HLE5 := Lib.hid hle5
      have HLAST := Lib.hid hlast
      have hs4 : w2.heap.size ≤ w4.heap.size := by have := hO4.lt; omega
      clear hR4 hc0 hpm5 hle5 hlast hF5 hF4 hmin hpm4 hfl hW4 hH hO hW hp0 HMEM HLE HPM2 HHF hlr hpl
      have HNN := Lib.hid hnn
      clear hnn
      generalize kx ts 0 = r at *
      generalize (ex ts 0).n = nn at *
      generalize (ex ts 0).A = A0 at *
      generalize (ex ts 0).c = c0 at *
      have b5 := (Below.refl w4.heap.size w4).alloc (Nat.le_refl _) (.cells #[.slice A0 r.length c0, .int .i64 nn] 33)
      have BC := Blk.new w4 33 #[.slice A0 r.length c0, .int .i64 nn]
      rcases Nat.eq_zero_or_pos bs.length with hb0 | hb0
      · obtain rfl : bs = [] := List.length_eq_zero_iff.1 hb0
        clear hb0
        have LASTNEW := Lib.hid (HBS.out.new (r := r) HNN.out HLAST.out (fun m hm => by simp at hm))
        have hHa := hH4.on b5
        have hOa : OB (w4.alloc (.cells #[.slice A0 r.length c0, .int .i64 nn] 33)) w2.heap.size gb cb ([] : List Ent) := OBag.on hO4 b5
        have hba : Below lo w (w4.alloc (.cells #[.slice A0 r.length c0, .int .i64 nn] 33)) := hb4.trans (b5.mono (by have := hb4.size; omega))
        have hIa : Ints (w4.alloc (.cells #[.slice A0 r.length c0, .int .i64 nn] 33)) (w4.alloc (.cells #[.slice A0 r.length c0, .int .i64 nn] 33)).heap.size A0 r := hIr'.on b5
        have BCa := BC
        have hlo4a : w2.heap.size ≤ (w4.alloc (.cells #[.slice A0 r.length c0, .int .i64 nn] 33)).heap.size := Nat.le_trans hs4 b5.size
        have hlowa : w.heap.size ≤ (w4.alloc (.cells #[.slice A0 r.length c0, .int .i64 nn] 33)).heap.size := hba.size
        have hgbG : gb < w4.heap.size := hO4.lt.2
        have hDa := hD4.on b5
        go_wp2_with fail
        clear hH4 hO4 hD4 hb4 hIr' BC b5 hs4
        generalize w4.alloc (.cells #[.slice A0 r.length c0, .int .i64 nn] 33) = wa at *
        generalize w4.heap.size = G at *
        have hnG : some G ≠ (Value.slice (some ⟨gb, 0, none⟩) ([] : List Ent).length cb).ownBlock := fun e => by have : G = gb := Option.some.inj e; omega
        go_quiet (fail)
        have hHb : HP (wa.drewN nq) lo w.heap.size w.heap.size g cap fs := hHa
        have hOb : OB (wa.drewN nq) w2.heap.size gb cb ([] : List Ent) := hOa
        have hDb : DC (wa.drewN nq) w2.heap.size (some gb) ([] : List Ent) := hDa
        have hbb := bel_drewN hba nq
        have hIb : Ints (wa.drewN nq) (wa.drewN nq).heap.size A0 r := hIa
        have BCb := BCa.drewN nq
        have hlo4b : w2.heap.size ≤ (wa.drewN nq).heap.size := hlo4a
        have hlowb : w.heap.size ≤ (wa.drewN nq).heap.size := hlowa
        clear hHa hOa hDa hba hIa BCa hlo4a hlowa
        generalize wa.drewN nq = wb at *
        go_wp2_with fail
        have hlo4 : w2.heap.size ≤ wb.heap.size := hlo4b
        have hGl := BCb.lt
        have d0 : wb.cell? ⟨G, 0, none⟩ = some (.slice A0 r.length c0) := BCb.cell 0
        have d1 : wb.cell? ⟨G, 1, none⟩ = some (.int .i64 nn) := BCb.cell 1
        go_region_held3 (fun w' => w'.cell? ⟨G, 0, none⟩ = some (.slice A0 r.length c0) ∧ w'.cell? ⟨G, 1, none⟩ = some (.int .i64 nn))
          (first | go_keep | exact ⟨(far_cell (p := ⟨G, 0, none⟩) hb6 hgrow7 hGl hnG).trans d0, (far_cell (p := ⟨G, 1, none⟩) hb6 hgrow7 hGl hnG).trans d1⟩ | exact ⟨(hb6.cell (p := ⟨G, 0, none⟩) hGl).trans d0, (hb6.cell (p := ⟨G, 1, none⟩) hGl).trans d1⟩)
          (first | (refine step_append_any _ rfl (.tmp 46) (.tmp 53) 24 (by rfl) w2.heap.size 33 i0 _ 2 32 Try.underlying24 hi0 hz0 hz1 hz2 rfl (by omega) _ _ (entCells ([] : List Ent)) (by rfl) (hO6.1.alloc _) _ (some ⟨w6.heap.size, 0, none⟩) 1 1 [.slice A6 r.length c6, .int .i64 nn] (by rfl) (reads_new2 w6 _ _ _) (by simp [Value.oneCell']) (by simp only [maxLen]; omega) (by omega) (by rw [World.size_alloc]; have hs1 : wb.heap.size ≤ w6.heap.size := hb6.size; omega) ?_; intro v7 w7 hown7 hgrow7 hat7) | (go_at_call 50; refine (copyOfRow_own A0 c0 r _ (by exact hIb) hrl).mono ?_; rintro e w6 ⟨A6, c6, g6, rfl, hg6, hR6, hown6, hb6⟩; have hO6 := (OBag.drewN hOb 1).on hb6))
        have hs6 : wb.heap.size ≤ w6.heap.size := hb6.size
        have hO7 : OBag w7 w2.heap.size v7 (([] : List Ent) ++ [⟨r, nn, A6, c6, g6⟩]) := OBag.pushRow hOb rfl hlo4 hg6 hR6 hO6 hown7 hgrow7 hat7
        obtain ⟨g7, hg7⟩ : ∃ g7, v7.ownBlock = some g7 := by
          rcases hat7 with h | h
          · exact ⟨_, h⟩
          · exact ⟨_, h⟩
        obtain ⟨c7, hv7, hOB7⟩ := hO7.ob hg7
        have hD7 : DC w7 w2.heap.size (some g7) (([] : List Ent) ++ [⟨r, nn, A6, c6, g6⟩]) := DC.pushRow (wd := wb.drew) (o := (.cells #[.slice A6 r.length c6, .int .i64 nn] 33)) hDb hlo4 (show gb < wb.heap.size from hOb.lt.2) hb6 hown6 hgrow7 hat7 hg7
        have b67 : Below wb.heap.size wb.drew (w6.alloc (.cells #[.slice A6 r.length c6, .int .i64 nn] 33)) := Below.alloc hb6 hs6 _
        have hH7 : HP w7 lo w.heap.size w.heap.size g cap fs := ((show HP wb.drew lo w.heap.size w.heap.size g cap fs from hHb).on b67).far (gb := gb) hgrow7 (by have := hOb.lt; omega) (by have := hOb.lt; omega)
        have hW7 : Below lo w w7 := ((bel_drewN hbb 1).trans (b67.mono (by omega))).grown hgrow7 (by rw [World.size_alloc]; omega) (fun q e => by have : gb = q := Option.some.inj e; have := hOb.lt; omega)
        have HBS7 := Lib.hid (show CL ((([] : List Ent) ++ [(⟨r, nn, A6, c6, g6⟩ : Ent)]).map Ent.pair) (pre ++ [(r, nn)]) from LASTNEW.out)
        have hm7 := hH7.len
        have HM7 := Lib.hid hm7
        have HV7 := Lib.hid hv7
        clear hown6 hDb hm7 hv7 hg7 hO7 hown7 hgrow7 hat7 hO6 hR6 hg6 hb6 b67 hHb hOb hbb hIb d0 d1
        go_wp2
        go_roundw
        case rel => exact ⟨g7, c7, _, fs, pre ++ [(r, nn)], HV7.out, hH7, HF5.out, hOB7, HBS7.out, HPM5.out, HLE5.out, hW7, hD7⟩
        case measure => rw [HM7.out, HLEN.out, HFL.out, HN.out]; omega
      · obtain ⟨m, hm⟩ : ∃ m, bs.length = m + 1 := ⟨bs.length - 1, by omega⟩
        have hml : (bs.length : Int) - 1 = (m : Int) := by omega
        have hmlt : m < bs.length := by omega
        have hm0 : (0 : Int) ≤ (m : Int) := by omega
        have hm1 : (m : Int) < (bs.length : Int) := by omega
        have HM := Lib.hid hm
        clear hm
        have hlb : (bs.map Ent.pair).length = m + 1 := by rw [List.length_map, HM.out]
        have HRX := Lib.hid (show rx (bs.map Ent.pair) m = bs[m].r by rw [rx_map hmlt])
        have HNX := Lib.hid (show nx (bs.map Ent.pair) m = bs[m].n by rw [nx_map hmlt])
        have HLB := Lib.hid hlb
        have hel := HBR.out bs[m] (List.getElem_mem hmlt)
        clear hlb
        have hHa := hH4.on b5
        have hOa : OB (w4.alloc (.cells #[.slice A0 r.length c0, .int .i64 nn] 33)) w2.heap.size gb cb bs := OBag.on hO4 b5
        have hba : Below lo w (w4.alloc (.cells #[.slice A0 r.length c0, .int .i64 nn] 33)) := hb4.trans (b5.mono (by have := hb4.size; omega))
        have hIa : Ints (w4.alloc (.cells #[.slice A0 r.length c0, .int .i64 nn] 33)) (w4.alloc (.cells #[.slice A0 r.length c0, .int .i64 nn] 33)).heap.size A0 r := hIr'.on b5
        have BCa := BC
        have hlo4a : w2.heap.size ≤ (w4.alloc (.cells #[.slice A0 r.length c0, .int .i64 nn] 33)).heap.size := Nat.le_trans hs4 b5.size
        have hlowa : w.heap.size ≤ (w4.alloc (.cells #[.slice A0 r.length c0, .int .i64 nn] 33)).heap.size := hba.size
        have hgbG : gb < w4.heap.size := hO4.lt.2
        have hDa := hD4.on b5
        obtain ⟨k0, k1, kf⟩ := OBag.cellsAt hOa hmlt
        have hIm := (hOa.2.1 bs[m] (List.getElem_mem hmlt)).1.ints
        have e0 : (w4.alloc (.cells #[.slice A0 r.length c0, .int .i64 nn] 33)).cell? ⟨w4.heap.size, 0, none⟩ = some (.slice A0 r.length c0) := BC.cell 0
        by_cases he : bs[m].r = r
        · have HE := Lib.hid he
          clear he
          go_wp2_with fail
          clear hH4 hO4 hD4 hb4 hIr' BC b5 hs4
          generalize w4.alloc (.cells #[.slice A0 r.length c0, .int .i64 nn] 33) = wa at *
          generalize w4.heap.size = G at *
          have hnG : some G ≠ (Value.slice (some ⟨gb, 0, none⟩) bs.length cb).ownBlock := fun e => by have : G = gb := Option.some.inj e; omega
          go_quiet (first | (go_at_call 38; exact Calls.quiet_of (slicesEqual_yes bs[m].A A0 bs[m].c c0 bs[m].r r _ _ _ (by exact hIm) (by exact hIa) hel hrl HE.out)))
          have k1b : (wa.drewN nq).cell? ⟨gb, m * 2 + 1, none⟩ = some (.int .i64 bs[m].n) := k1
          have kfb : (wa.drewN nq).frozen? ⟨gb, m * 2 + 1, none⟩ = false := kf
          clear k0 k1 kf hIm e0
          have hHb : HP (wa.drewN nq) lo w.heap.size w.heap.size g cap fs := hHa
          have hOb : OB (wa.drewN nq) w2.heap.size gb cb bs := hOa
          have hDb : DC (wa.drewN nq) w2.heap.size (some gb) bs := hDa
          have hbb := bel_drewN hba nq
          have hIb : Ints (wa.drewN nq) (wa.drewN nq).heap.size A0 r := hIa
          have BCb := BCa.drewN nq
          have hlo4b : w2.heap.size ≤ (wa.drewN nq).heap.size := hlo4a
          have hlowb : w.heap.size ≤ (wa.drewN nq).heap.size := hlowa
          clear hHa hOa hDa hba hIa BCa hlo4a hlowa
          generalize wa.drewN nq = wb at *
          have d1 : wb.cell? ⟨G, 1, none⟩ = some (.int .i64 nn) := BCb.cell 1
          have hadd : IntKind.i64.wrap (bs[m].n + nn) = addW bs[m].n nn := rfl
          have hadd' : wrap64 (bs[m].n + nn) = addW bs[m].n nn := by unfold addW; rw [IntKind.wrap_i64, wrap64]
          go_wp2_with fail
          go_region
          have hOs := hOb.setN hmlt (addW bs[m].n nn)
          have hDs := (hDb.grown (grown_setCell wb gb (m * 2 + 1) (.int .i64 (addW bs[m].n nn)))).setN hmlt (addW bs[m].n nn)
          have hHs := hHb.far (grown_setCell wb gb (m * 2 + 1) (.int .i64 (addW bs[m].n nn))) (by have := hOb.lt; omega) (by have := hOb.lt; omega)
          have hbs : Below lo w (wb.setCell ⟨gb, m * 2 + 1, none⟩ (.int .i64 (addW bs[m].n nn))) := hbb.setCell (p := ⟨gb, m * 2 + 1, none⟩) (by have := hOb.lt; simp; omega) _
          have HBS7 := Lib.hid (show CL ((bs.set m { bs[m] with n := addW bs[m].n nn }).map Ent.pair) (pre ++ [(r, nn)]) by
            have h1 := HBS.out.last HLB.out (n := nn) (HRX.out.trans HE.out)
            rw [HNX.out] at h1
            rw [List.map_set, show ({ bs[m] with n := addW bs[m].n nn } : Ent).pair = (r, addW bs[m].n nn) by simp only [Ent.pair, HE.out]]
            exact h1)
          have HM7 := Lib.hid hHs.len
          clear hDb hOb hHb hbb hIb BCb k1b kfb d1 hadd hadd'
          go_wp2
          go_roundw
          case rel => exact ⟨gb, cb, bs.set m { bs[m] with n := addW bs[m].n nn }, fs, pre ++ [(r, nn)], by rw [List.length_set], hHs, HF5.out, hOs, HBS7.out, HPM5.out, HLE5.out, bel_drewN hbs 1, hDs⟩
          case measure => rw [show lenAt w.heap.size (World.drew (wb.setCell ⟨gb, m * 2 + 1, none⟩ (.int .i64 (addW bs[m].n nn)))) = fs.length from HM7.out, HLEN.out, HFL.out, HN.out]; omega
        · have LASTNEW := Lib.hid (HBS.out.new (r := r) HNN.out HLAST.out (fun q hq hr => by
            have hqm : q = m := by have := HLB.out; omega
            subst hqm
            exact he (HRX.out.symm.trans hr)))
          have HE := Lib.hid he
          clear he
          go_wp2_with fail
          clear hH4 hO4 hD4 hb4 hIr' BC b5 hs4
          generalize w4.alloc (.cells #[.slice A0 r.length c0, .int .i64 nn] 33) = wa at *
          generalize w4.heap.size = G at *
          have hnG : some G ≠ (Value.slice (some ⟨gb, 0, none⟩) bs.length cb).ownBlock := fun e => by have : G = gb := Option.some.inj e; omega
          go_quiet (first | (go_at_call 38; exact Calls.quiet_of (slicesEqual_no bs[m].A A0 bs[m].c c0 bs[m].r r _ _ _ (by exact hIm) (by exact hIa) hel hrl HE.out)))
          clear k0 k1 kf hIm e0
          have hHb : HP (wa.drewN nq) lo w.heap.size w.heap.size g cap fs := hHa
          have hOb : OB (wa.drewN nq) w2.heap.size gb cb bs := hOa
          have hDb : DC (wa.drewN nq) w2.heap.size (some gb) bs := hDa
          have hbb := bel_drewN hba nq
          have hIb : Ints (wa.drewN nq) (wa.drewN nq).heap.size A0 r := hIa
          have BCb := BCa.drewN nq
          have hlo4b : w2.heap.size ≤ (wa.drewN nq).heap.size := hlo4a
          have hlowb : w.heap.size ≤ (wa.drewN nq).heap.size := hlowa
          clear hHa hOa hDa hba hIa BCa hlo4a hlowa
          generalize wa.drewN nq = wb at *
          go_wp2_with fail
          have hlo4 : w2.heap.size ≤ wb.heap.size := hlo4b
          have hGl := BCb.lt
          have d0 : wb.cell? ⟨G, 0, none⟩ = some (.slice A0 r.length c0) := BCb.cell 0
          have d1 : wb.cell? ⟨G, 1, none⟩ = some (.int .i64 nn) := BCb.cell 1
          go_region_held3 (fun w' => w'.cell? ⟨G, 0, none⟩ = some (.slice A0 r.length c0) ∧ w'.cell? ⟨G, 1, none⟩ = some (.int .i64 nn))
            (first | go_keep | exact ⟨(far_cell (p := ⟨G, 0, none⟩) hb6 hgrow7 hGl hnG).trans d0, (far_cell (p := ⟨G, 1, none⟩) hb6 hgrow7 hGl hnG).trans d1⟩ | exact ⟨(hb6.cell (p := ⟨G, 0, none⟩) hGl).trans d0, (hb6.cell (p := ⟨G, 1, none⟩) hGl).trans d1⟩)
            (first | (refine step_append_any _ rfl (.tmp 46) (.tmp 53) 24 (by rfl) w2.heap.size 33 i0 _ 2 32 Try.underlying24 hi0 hz0 hz1 hz2 rfl (by omega) _ _ (entCells bs) (by rfl) (hO6.1.alloc _) _ (some ⟨w6.heap.size, 0, none⟩) 1 1 [.slice A6 r.length c6, .int .i64 nn] (by rfl) (reads_new2 w6 _ _ _) (by simp [Value.oneCell']) (by simp only [maxLen]; omega) (by omega) (by rw [World.size_alloc]; have hs1 : wb.heap.size ≤ w6.heap.size := hb6.size; omega) ?_; intro v7 w7 hown7 hgrow7 hat7) | (go_at_call 50; refine (copyOfRow_own A0 c0 r _ (by exact hIb) hrl).mono ?_; rintro e w6 ⟨A6, c6, g6, rfl, hg6, hR6, hown6, hb6⟩; have hO6 := (OBag.drewN hOb 1).on hb6))
          have hs6 : wb.heap.size ≤ w6.heap.size := hb6.size
          have hO7 : OBag w7 w2.heap.size v7 (bs ++ [⟨r, nn, A6, c6, g6⟩]) := OBag.pushRow hOb rfl hlo4 hg6 hR6 hO6 hown7 hgrow7 hat7
          obtain ⟨g7, hg7⟩ : ∃ g7, v7.ownBlock = some g7 := by
            rcases hat7 with h | h
            · exact ⟨_, h⟩
            · exact ⟨_, h⟩
          obtain ⟨c7, hv7, hOB7⟩ := hO7.ob hg7
          have hD7 : DC w7 w2.heap.size (some g7) (bs ++ [⟨r, nn, A6, c6, g6⟩]) := DC.pushRow (wd := wb.drew) (o := (.cells #[.slice A6 r.length c6, .int .i64 nn] 33)) hDb hlo4 (show gb < wb.heap.size from hOb.lt.2) hb6 hown6 hgrow7 hat7 hg7
          have b67 : Below wb.heap.size wb.drew (w6.alloc (.cells #[.slice A6 r.length c6, .int .i64 nn] 33)) := Below.alloc hb6 hs6 _
          have hH7 : HP w7 lo w.heap.size w.heap.size g cap fs := ((show HP wb.drew lo w.heap.size w.heap.size g cap fs from hHb).on b67).far (gb := gb) hgrow7 (by have := hOb.lt; omega) (by have := hOb.lt; omega)
          have hW7 : Below lo w w7 := ((bel_drewN hbb 1).trans (b67.mono (by omega))).grown hgrow7 (by rw [World.size_alloc]; omega) (fun q e => by have : gb = q := Option.some.inj e; have := hOb.lt; omega)
          have HBS7 := Lib.hid (show CL ((bs ++ [(⟨r, nn, A6, c6, g6⟩ : Ent)]).map Ent.pair) (pre ++ [(r, nn)]) by rw [List.map_append]; exact LASTNEW.out)
          have hm7 := hH7.len
          have HM7 := Lib.hid hm7
          have HV7 := Lib.hid hv7
          clear hown6 hDb hm7 hv7 hg7 hO7 hown7 hgrow7 hat7 hO6 hR6 hg6 hb6 b67 hHb hOb hbb hIb d0 d1
          go_wp2
          go_roundw
          case rel => exact ⟨g7, c7, _, fs, pre ++ [(r, nn)], HV7.out, hH7, HF5.out, hOB7, HBS7.out, HPM5.out, HLE5.out, hW7, hD7⟩
          case measure => rw [HM7.out, HLEN.out, HFL.out, HN.out]; omega
    · have hd0 : decide (0 < ts.length) = false := by simpa using h0
      have ht0 : ts = [] := List.length_eq_zero_iff.1 (by omega)
      have HT0 := Lib.hid ht0
      clear ht0
      go_wp2_with fail
      refine (heapLen_any _ _ _ wr).mono ?_
      rintro e w' ⟨rfl, rfl⟩
      have hprl : bs.length ≤ 1099511627776 := by have := HBS.out.2.2.2; rw [List.length_map] at this; omega
      have HBR := Lib.hid (show ∀ e ∈ bs, e.r.length ≤ 1099511627776 from fun e he => by
        obtain ⟨q, hq, e1⟩ := HBS.out.2.2.1 e.pair (List.mem_map_of_mem he)
        have := HLe.out q (HPM2.out.symm.subset (List.mem_append.2 (.inl hq)))
        rw [show e.r = q.1 from e1]; exact this)
      have HEND := Lib.hid (show (bs.filter keptE).map Ent.pair = togL (es.map Ent.pair) by
        have h1 := HPM2.out
        rw [HT0.out, List.map_nil, List.append_nil] at h1
        rw [keptE_pair]
        exact HBS.out.done h1.symm HN64.out)
      go_wp2_with fail
      refine (deleteNone_any w2.heap.size gb cb bs wr hO hprl HBR.out).mono ?_
      rintro e w5 ⟨rfl, hO5, hg5⟩
      have hW5 : Below lo w w5 := hW.grown hg5 (by have := hW.size; omega) (fun q e => by have : gb = q := Option.some.inj e; omega)
      go_wp2
      go_ret
      exact ⟨gb, cb, bs.filter keptE, rfl, OBag.lower hO5 (by omega), HEND.out, hW5, ((hDC.grown hg5).filter keptE).lower (by omega)⟩
end Go.Proofs.Ytcfnbpofbcendab
