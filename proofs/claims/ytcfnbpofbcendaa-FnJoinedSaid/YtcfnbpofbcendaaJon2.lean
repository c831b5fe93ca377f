/- The contract of the program's Joined: what each two rows make whose numbers at the places are alike, together, in memory of the call's own; nothing that lay has turned. For bags of at most 2^40, rows of at most 2^30. -/
import Derived.Test.YtcfnbpofbcendaaJon1
import Derived.Test.YtcfnbpofbcendaaCon1
import Derived.Test.YtcfnbpofbcendaaTogI
import Derived.Test.YtcfnbpofbcendaaTogP
namespace Go.Proofs.Ytcfnbpofbcendaa
open Go.RowKit

theorem RowG.of_row {w : World} {g g1 : Nat} {A : Option Addr} {r : List Int} {t : TypeId} (h : Row w t A r g1) (hne : g1 ≠ g) : RowG w w.heap.size g A r := fun hn => by
  obtain ⟨b, off, eA, hb, hc⟩ := h.ints hn
  have e1 : A = some ⟨g1, 0, none⟩ := (h hn).1
  rw [e1] at eA
  have e2 : g1 = b := by have := congrArg (fun x => x.map Addr.block) eA; simpa using this
  exact ⟨b, off, by rw [e1, eA], hb, by omega, hb, hc⟩
set_option maxRecDepth 100000 in
set_option maxHeartbeats 8000000 in
theorem implJoined_any (A A' : Option Addr) (c c' : Nat) (a b : List (List Int × Int)) (p q : Int) (w : World) (hA : Bag w w.heap.size A a) (hB : Bag w w.heap.size A' b) (hla : a.length ≤ 1099511627776) (hlb : b.length ≤ 1099511627776) (hra : ∀ j, j < a.length → (rx a j).length ≤ 1073741824) (hrb : ∀ j, j < b.length → (rx b j).length ≤ 1073741824) :
    Calls Try.prog 17 #[.slice A a.length c, .slice A' b.length c', .int .i64 p, .int .i64 q] w (OwnBag w.heap.size (joinB a b p q) w) := by
  obtain ⟨i0, hi0, hz0, hz1, hz2⟩ := info_parts info_count
  have HRA := Lib.hid hra
  have HRB := Lib.hid hrb
  clear hra hrb
  go_enter Try.func17, Try.ntmps17
  go_wp2_with fail
  refine (implBagOk_any A c a w hA hla).mono ?_
  rintro e w1 ⟨rfl, hb1⟩
  have hA1 := hA.on hb1
  have hB1 := hB.on hb1
  have hs1 : w.heap.size ≤ w1.heap.size := hb1.size
  clear hA hB
  cases h1 : bagOkB a with
  | false =>
    have HF := Lib.hid (joinB_no (a := a) (b := b) (p := p) (q := q) (by unfold joinOk; rw [h1]; rfl))
    clear h1
    go_wp2
    go_ret
    rw [HF.out]; exact OwnBag.empty hb1 hs1
  | true =>
    have H1 := Lib.hid h1
    clear h1
    go_wp2_with fail
    refine (implBagOk_any A' c' b w1 hB1 hlb).mono ?_
    rintro e w2 ⟨rfl, hc2⟩
    have hb2 := bel_step hb1 hc2
    have hA2 := hA1.on hc2
    have hB2 := hB1.on hc2
    have hs2 : w.heap.size ≤ w2.heap.size := hb2.size
    clear hA1 hB1 hb1 hs1 hc2
    cases h2 : bagOkB b with
    | false =>
      have HF := Lib.hid (joinB_no (a := a) (b := b) (p := p) (q := q) (by unfold joinOk; rw [H1.out, h2]; rfl))
      clear h2
      go_wp2
      go_ret
      rw [HF.out]; exact OwnBag.empty hb2 hs2
    | true =>
      have H2 := Lib.hid h2
      clear h2
      have b3 := (Below.refl w2.heap.size w2).alloc (Nat.le_refl _) (.cells #[.int .i64 p] 2)
      have hI3 : Ints (w2.alloc (.cells #[.int .i64 p] 2)) (w2.alloc (.cells #[.int .i64 p] 2)).heap.size (some ⟨w2.heap.size, 0, none⟩) [p] := Blk.ints (zs := [p]) (Blk.new w2 2 #[.int .i64 p])
      have hA3 := hA2.on b3
      have hB3 := hB2.on b3
      have hb3 := hb2.trans (b3.mono hs2)
      have hs3 : w.heap.size ≤ (w2.alloc (.cells #[.int .i64 p] 2)).heap.size := hb3.size
      clear hA2 hB2 b3
      go_wp2_with fail
      generalize w2.alloc (.cells #[.int .i64 p] 2) = w3 at *
      refine (rowsHave_any A (some ⟨w2.heap.size, 0, none⟩) c 1 a [p] w3 hA3 hI3 hla (by simp) HRA.out).mono ?_
      rintro e w4 ⟨rfl, hc4⟩
      have hb4 := bel_step hb3 hc4
      have hA4 := hA3.on hc4
      have hB4 := hB3.on hc4
      have hs4 : w.heap.size ≤ w4.heap.size := hb4.size
      clear hI3 hA3 hB3 hb3 hs3 hc4
      cases h3 : hasB a [p] with
      | false =>
        have HF := Lib.hid (joinB_no (a := a) (b := b) (p := p) (q := q) (by unfold joinOk; rw [H1.out, H2.out, h3]; rfl))
        clear h3
        go_wp2
        go_ret
        rw [HF.out]; exact OwnBag.empty hb4 hs4
      | true =>
        have H3 := Lib.hid h3
        clear h3
        have b5 := (Below.refl w4.heap.size w4).alloc (Nat.le_refl _) (.cells #[.int .i64 q] 2)
        have hI5 : Ints (w4.alloc (.cells #[.int .i64 q] 2)) (w4.alloc (.cells #[.int .i64 q] 2)).heap.size (some ⟨w4.heap.size, 0, none⟩) [q] := Blk.ints (zs := [q]) (Blk.new w4 2 #[.int .i64 q])
        have hA5 := hA4.on b5
        have hB5 := hB4.on b5
        have hb5 := hb4.trans (b5.mono hs4)
        have hs5 : w.heap.size ≤ (w4.alloc (.cells #[.int .i64 q] 2)).heap.size := hb5.size
        clear hA4 hB4 b5
        go_wp2_with fail
        generalize w4.alloc (.cells #[.int .i64 q] 2) = w5 at *
        refine (rowsHave_any A' (some ⟨w4.heap.size, 0, none⟩) c' 1 b [q] w5 hB5 hI5 hlb (by simp) HRB.out).mono ?_
        rintro e w6 ⟨rfl, hc6⟩
        have hb6 := bel_step hb5 hc6
        have hA6 := hA5.on hc6
        have hB6 := hB5.on hc6
        have hs6 : w.heap.size ≤ w6.heap.size := hb6.size
        clear hI5 hA5 hB5 hb5 hs5 hc6
        cases h4 : hasB b [q] with
        | false =>
          have HF := Lib.hid (joinB_no (a := a) (b := b) (p := p) (q := q) (by unfold joinOk; rw [H1.out, H2.out, H3.out, h4]; rfl))
          clear h4
          go_wp2
          go_ret
          rw [HF.out]; exact OwnBag.empty hb6 hs6
        | true =>
          obtain ⟨r1, r2⟩ := right_of H1.out H3.out
          obtain ⟨r3, r4⟩ := right_of H2.out h4
          have HJ := Lib.hid (show joinB a b p q = togL (pairsL a b p q) by unfold joinB joinOk; rw [H1.out, H2.out, H3.out, h4]; rfl)
          clear h4 hla hlb
          have hla := r1.1
          have hlb := r3.1
          have hE := HC.nil w6
          have b7 := (Below.refl w6.heap.size w6).alloc (Nat.le_refl _) (.cells #[] 50)
          have RA := Lib.hid r1
          have RB := Lib.hid r3
          have HSIX := Lib.hid (pairs_six (p := p) (q := q) r1 r3)
          clear r1 r3
          go_wp2
          go_loopw [9, 40] (fun v s wr => ∃ (k g cap : Nat) (es : List Ent), k ≤ a.length ∧ s = .int .i64 k ∧ v = .slice (some ⟨g, 0, none⟩) es.length cap ∧ HC wr w6.heap.size wr.heap.size g cap es ∧ es.map Ent.pair = pairsL (a.take k) b p q ∧ Below w6.heap.size w6 wr) (fun _ s _ => a.length - (intOf s).toNat)
          case atStart => exact ⟨0, w6.heap.size, 0, [], Nat.zero_le _, rfl, rfl, hE, rfl, b7⟩
          case round =>
            obtain ⟨k, g, cap, es, hk, rfl, rfl, hC, he, hW⟩ := hrel
            have HE := Lib.hid he
            clear he hE b7
            by_cases hlt : k < a.length
            · obtain ⟨ba, oa, rfl, hba, hc⟩ := hA6 (by omega)
              obtain ⟨Ar, ca, c1, c2, h3, h4⟩ := hc k hlt
              clear hc
              have a1 := (hW.cell (p := ⟨ba, oa + k * 2, none⟩) hba).trans c1
              have a2 := (hW.cell (p := ⟨ba, oa + k * 2 + 1, none⟩) hba).trans c2
              have hk0 : (0 : Int) ≤ (k : Int) := Int.natCast_nonneg _
              have hk1 : (k : Int) < (a.length : Int) := by omega
              have bc := (Below.refl wr.heap.size wr).alloc (Nat.le_refl _) (.cells #[.slice Ar (rx a k).length ca, .int .i64 (nx a k)] 50)
              have BC := Blk.new wr 50 #[.slice Ar (rx a k).length ca, .int .i64 (nx a k)]
              have g0 := BC.cell 0
              have g1 := BC.cell 1
              simp only [List.getElem?_toArray, List.getElem?_cons_zero, List.getElem?_cons_succ] at g0 g1
              have hGl := BC.lt
              have hCb := hC.onTop bc
              have hWb := hW.trans (bc.mono hW.size)
              have hgG : g ≠ wr.heap.size := by have := hC.lt; omega
              clear hC bc BC c1 c2
              go_wp2
              generalize wr.heap.size = G at *
              go_loopw [9, 46] (fun v s wq => ∃ (k2 g cap : Nat) (es : List Ent), k2 ≤ b.length ∧ s = .int .i64 k2 ∧ v = .slice (some ⟨g, 0, none⟩) es.length cap ∧ HC wq w6.heap.size wq.heap.size g cap es ∧ es.map Ent.pair = pairsL (a.take k) b p q ++ inL (rx a k, nx a k) (b.take k2) p q ∧ Below w6.heap.size w6 wq ∧ G < wq.heap.size ∧ g ≠ G ∧ wq.cell? ⟨G, 0, none⟩ = some (.slice Ar (rx a k).length ca) ∧ wq.cell? ⟨G, 1, none⟩ = some (.int .i64 (nx a k))) (fun _ s _ => b.length - (intOf s).toNat)
              case atStart => exact ⟨0, g, cap, es, Nat.zero_le _, rfl, rfl, hCb, by rw [HE.out]; simp [inL], hWb, hGl, hgG, g0, g1⟩
              case round =>
                obtain ⟨k2, g, cap, es, hk2, rfl, rfl, hC, he, hWq, hGq, hgGq, q0, q1⟩ := hrel
                have HE := Lib.hid he
                clear he a1 a2 g0 g1 hGl hCb hWb hgG
                by_cases hlt2 : k2 < b.length
                · obtain ⟨p, rfl⟩ : ∃ m : Nat, p = m := ⟨p.toNat, by have := r2 (by omega); omega⟩
                  obtain ⟨q, rfl⟩ : ∃ m : Nat, q = m := ⟨q.toNat, by have := r4 (by omega); omega⟩
                  obtain ⟨bb, ob, rfl, hbb, hc⟩ := hB6 (by omega)
                  obtain ⟨Br, cb, d1, d2, h5, h6⟩ := hc k2 hlt2
                  clear hc
                  obtain ⟨hpa, hla6, hna0, hna1⟩ := RA.out.2 k hlt
                  obtain ⟨hqb, hlb6, hnb0, hnb1⟩ := RB.out.2 k2 hlt2
                  rw [Int.toNat_natCast] at hpa hqb
                  have hm := mul_bd hna0 hna1 hnb0 hnb1
                  have e1 := (hWq.cell (p := ⟨bb, ob + k2 * 2, none⟩) hbb).trans d1
                  have e2 := (hWq.cell (p := ⟨bb, ob + k2 * 2 + 1, none⟩) hbb).trans d2
                  have hk3 : (0 : Int) ≤ (k2 : Int) := Int.natCast_nonneg _
                  have hk4 : (k2 : Int) < (b.length : Int) := by omega
                  have hp0 : (0 : Int) ≤ (p : Int) := Int.natCast_nonneg _
                  have hp1 : (p : Int) < ((rx a k).length : Int) := by omega
                  have hq0 : (0 : Int) ≤ (q : Int) := Int.natCast_nonneg _
                  have hq1 : (q : Int) < ((rx b k2).length : Int) := by omega
                  have bd := (Below.refl wr.heap.size wr).alloc (Nat.le_refl _) (.cells #[.slice Br (rx b k2).length cb, .int .i64 (nx b k2)] 50)
                  have BD := Blk.new wr 50 #[.slice Br (rx b k2).length cb, .int .i64 (nx b k2)]
                  have t0 := BD.cell 0
                  have t1 := BD.cell 1
                  simp only [List.getElem?_toArray, List.getElem?_cons_zero, List.getElem?_cons_succ] at t0 t1
                  have hHl := BD.lt
                  have hCd := hC.onTop bd
                  have hWd := hWq.trans (bd.mono hWq.size)
                  have hgH : g ≠ wr.heap.size := by have := hC.lt; omega
                  have q0d := (bd.cell (p := ⟨G, 0, none⟩) hGq).trans q0
                  have q1d := (bd.cell (p := ⟨G, 1, none⟩) hGq).trans q1
                  have hGd : G < (wr.alloc (.cells #[.slice Br (rx b k2).length cb, .int .i64 (nx b k2)] 50)).heap.size := by have := bd.size; omega
                  obtain ⟨ra, pa, hArq, hra, hca⟩ := h3 (by omega)
                  obtain ⟨rb, pb, hBrq, hrb, hcb⟩ := h5 (by omega)
                  subst hArq hBrq
                  have a3 := (hWd.cell (p := ⟨ra, pa + p, none⟩) hra).trans (hca p hpa)
                  have e3 := (hWd.cell (p := ⟨rb, pb + q, none⟩) hrb).trans (hcb q hqb)
                  have h3r := h3.on hWd
                  have h5r := h5.on hWd
                  have hel : es.length ≤ 90300 := by
                    have h1 := congrArg List.length HE.out
                    rw [List.length_map] at h1
                    have h3 := pairs_cut (p := (p : Int)) (q := (q : Int)) (k2 := k2) hlt hla hlb
                    omega
                  have hw1 : IntKind.i64.wrap (nx a k * nx b k2) = nx a k * nx b k2 := by rw [IntKind.wrap_i64]; omega
                  have hw2 : wrap64 (nx a k * nx b k2) = nx a k * nx b k2 := by rw [wrap64]; omega
                  clear hC bd BD d1 d2 hca hcb h3 h5 hWq q0 q1 hGq r2 r4
                  by_cases heq : ix (rx a k) p = ix (rx b k2) q
                  · have HQ := Lib.hid (show pairsL (a.take k) b p q ++ inL (rx a k, nx a k) (b.take (k2 + 1)) p q = (pairsL (a.take k) b p q ++ inL (rx a k, nx a k) (b.take k2) p q) ++ [(rx a k ++ rx b k2, nx a k * nx b k2)] by
                      rw [in_step hlt2, if_pos (by simpa using heq), List.append_assoc])
                    have hbq : (ix (rx a k) p == ix (rx b k2) q) = true := by rw [heq]; simp
                    clear heq
                    go_wp2_with fail
                    clear e1 e2
                    generalize wr.alloc (.cells #[.slice (some ⟨rb, pb, none⟩) (rx b k2).length cb, .int .i64 (nx b k2)] 50) = wa at *
                    generalize wr.heap.size = H at *
                    go_quiet (fail)
                    have hCb : HC (wa.drewN nq) w6.heap.size (wa.drewN nq).heap.size g cap es := hCd
                    have hWb := bel_drewN hWd nq
                    have h3b : Ints (wa.drewN nq) (wa.drewN nq).heap.size (some ⟨ra, pa, none⟩) (rx a k) := h3r
                    have h5b : Ints (wa.drewN nq) (wa.drewN nq).heap.size (some ⟨rb, pb, none⟩) (rx b k2) := h5r
                    have q0b : (wa.drewN nq).cell? ⟨G, 0, none⟩ = some (.slice (some ⟨ra, pa, none⟩) (rx a k).length ca) := q0d
                    have q1b : (wa.drewN nq).cell? ⟨G, 1, none⟩ = some (.int .i64 (nx a k)) := q1d
                    have t0b : (wa.drewN nq).cell? ⟨H, 0, none⟩ = some (.slice (some ⟨rb, pb, none⟩) (rx b k2).length cb) := t0
                    have t1b : (wa.drewN nq).cell? ⟨H, 1, none⟩ = some (.int .i64 (nx b k2)) := t1
                    have hGb : G < (wa.drewN nq).heap.size := hGd
                    have hHb : H < (wa.drewN nq).heap.size := hHl
                    clear hCd hWd h3r h5r q0d q1d t0 t1 hGd hHl a3 e3 hbq
                    generalize wa.drewN nq = wb at *
                    have hnG : some G ≠ (Value.slice (some ⟨g, 0, none⟩) es.length cap).ownBlock := fun e => hgGq (Option.some.inj e).symm
                    have hnH : some H ≠ (Value.slice (some ⟨g, 0, none⟩) es.length cap).ownBlock := fun e => hgH (Option.some.inj e).symm
                    have HKS := Lib.hid (show ∀ w', Below wb.heap.size wb w' → w'.cell? ⟨G, 0, none⟩ = some (.slice (some ⟨ra, pa, none⟩) (rx a k).length ca) ∧ w'.cell? ⟨G, 1, none⟩ = some (.int .i64 (nx a k)) ∧ w'.cell? ⟨H, 0, none⟩ = some (.slice (some ⟨rb, pb, none⟩) (rx b k2).length cb) ∧ w'.cell? ⟨H, 1, none⟩ = some (.int .i64 (nx b k2)) from fun w' h => ⟨(h.cell (p := ⟨G, 0, none⟩) hGb).trans q0b, (h.cell (p := ⟨G, 1, none⟩) hGb).trans q1b, (h.cell (p := ⟨H, 0, none⟩) hHb).trans t0b, (h.cell (p := ⟨H, 1, none⟩) hHb).trans t1b⟩)
                    obtain ⟨rc, hrc⟩ : ∃ rc, rc = rx a k ++ rx b k2 := ⟨_, rfl⟩
                    have hrl : rc.length ≤ 1099511627776 := by rw [hrc, List.length_append]; omega
                    have HRC := Lib.hid hrc
                    have bcw := (Below.refl wb.heap.size wb).alloc (Nat.le_refl _) (.cells #[.slice (some ⟨ra, pa, none⟩) (rx a k).length ca, .slice (some ⟨rb, pb, none⟩) (rx b k2).length cb] 32)
                    have BCW := Blk.new wb 32 #[.slice (some ⟨ra, pa, none⟩) (rx a k).length ca, .slice (some ⟨rb, pb, none⟩) (rx b k2).length cb]
                    have h3c := h3b.on bcw
                    have h5c := h5b.on bcw
                    have HCC := Lib.hid (show Calls Try.prog 47 #[.slice (some ⟨wb.heap.size, 0, none⟩) 2 2] (wb.alloc (.cells #[.slice (some ⟨ra, pa, none⟩) (rx a k).length ca, .slice (some ⟨rb, pb, none⟩) (rx b k2).length cb] 32)).drew (fun e w' => ∃ A1 c1 g1, e = .returned (.slice A1 rc.length c1) ∧ wb.heap.size < g1 ∧ Row w' 2 A1 rc g1 ∧ Below wb.heap.size wb w') from
                      (concat_as wb.heap.size _ _ ca cb (rx a k) (rx b k2) rc (wb.alloc (.cells #[.slice (some ⟨ra, pa, none⟩) (rx a k).length ca, .slice (some ⟨rb, pb, none⟩) (rx b k2).length cb] 32)).drew HRC.out BCW.lt (BCW.cell 0) (BCW.cell 1) (by exact h3c) (by exact h5c) (by omega) h4 h6).mono fun e w' ⟨A1, c1, g1, h1, h2, h3, h5⟩ => ⟨A1, c1, g1, h1, by have h7 : (wb.alloc (.cells #[.slice (some ⟨ra, pa, none⟩) (rx a k).length ca, .slice (some ⟨rb, pb, none⟩) (rx b k2).length cb] 32)).heap.size ≤ g1 := h2; rw [World.size_alloc] at h7; omega, h3, bel_step (bel_drewN bcw 1) h5⟩)
                    have hgl := hCb.lt
                    have hsb : w6.heap.size ≤ wb.heap.size := hWb.size
                    clear hrc bcw BCW h3b h5b h3c h5c
                    go_wp2_with fail
                    try simp only [List.append_eq, List.cons_append, List.nil_append]
                    go_region_held3 (fun w' => w'.cell? ⟨G, 0, none⟩ = some (.slice (some ⟨ra, pa, none⟩) (rx a k).length ca) ∧ w'.cell? ⟨G, 1, none⟩ = some (.int .i64 (nx a k)) ∧ w'.cell? ⟨H, 0, none⟩ = some (.slice (some ⟨rb, pb, none⟩) (rx b k2).length cb) ∧ w'.cell? ⟨H, 1, none⟩ = some (.int .i64 (nx b k2)))
                      (first | go_keep | exact HKS.out _ hk8 | exact ⟨(far_cell (p := ⟨G, 0, none⟩) hk8 hgrow9 hGb hnG).trans q0b, (far_cell (p := ⟨G, 1, none⟩) hk8 hgrow9 hGb hnG).trans q1b, (far_cell (p := ⟨H, 0, none⟩) hk8 hgrow9 hHb hnH).trans t0b, (far_cell (p := ⟨H, 1, none⟩) hk8 hgrow9 hHb hnH).trans t1b⟩)
                      (first
                        | (refine step_append_any _ rfl (.tmp 61) (.tmp 74) 24 (by rfl) w6.heap.size 50 i0 _ 2 32 Try.underlying24 hi0 hz0 hz1 hz2 rfl (by omega) _ _ (entCells es) (by rfl) (hC8.1.alloc _) _ (some ⟨w8.heap.size, 0, none⟩) 1 1 [.slice A8 rc.length c8, .int .i64 (nx a k * nx b k2)] (by rfl) (reads_new2 w8 _ _ _) (by simp [Value.oneCell']) (by simp only [maxLen]; omega) (by omega) (by rw [World.size_alloc]; have hs8 : wb.heap.size ≤ w8.heap.size := hk8.size; omega) ?_; intro v9 w9 hown9 hgrow9 hat9)
                        | (go_at_call 47; refine HCC.out.mono ?_; rintro e w8 ⟨A8, c8, g8, rfl, hg8, hR8, hk8⟩; have hC8 := hCb.onTop hk8))
                    have hs8 : wb.heap.size ≤ w8.heap.size := hk8.size
                    obtain ⟨g9, cap9, hv9, hC9, hg9⟩ := hC8.push (e := ⟨rc, nx a k * nx b k2, A8, c8, 0⟩) hgrow9 hown9 hat9 ⟨RowG.of_row hR8 (by omega), hrl⟩
                    have hW9 : Below w6.heap.size w6 w9 := ((hWb.trans (hk8.mono hsb)).alloc (by omega) _).grown hgrow9 (by rw [World.size_alloc]; omega) (fun r e => by have : g = r := Option.some.inj e; omega)
                    have hs9 : w8.heap.size < w9.heap.size := by have := hgrow9.size; rw [World.size_alloc] at this; omega
                    have q0e := (far_cell (p := ⟨G, 0, none⟩) hk8 hgrow9 hGb hnG).trans q0b
                    have q1e := (far_cell (p := ⟨G, 1, none⟩) hk8 hgrow9 hGb hnG).trans q1b
                    have HE9 := Lib.hid (show (es ++ [(⟨rc, nx a k * nx b k2, A8, c8, 0⟩ : Ent)]).map Ent.pair = pairsL (a.take k) b p q ++ inL (rx a k, nx a k) (b.take (k2 + 1)) p q by rw [List.map_append, HE.out, HQ.out, ← HRC.out]; rfl)
                    have HV9 := Lib.hid hv9
                    have HC9 := Lib.hid hC9
                    have hGn : g9 ≠ G := by rcases hg9 with h | h <;> omega
                    have hGs : G < w9.heap.size := by omega
                    clear hCb hWb q0b q1b t0b t1b hk8 hC8 hR8 hg8 hown9 hgrow9 hat9 hv9 hC9 hg9 hgl hnG hnH hw1 hw2
                    go_wp2
                    go_roundw
                    case rel => exact ⟨k2 + 1, g9, cap9, _, by omega, by go_num, HV9.out, HC9.out, HE9.out, hW9, hGs, hGn, q0e, q1e⟩
                    case measure => simp [intOf]; omega
                  · have HQ := Lib.hid (show pairsL (a.take k) b p q ++ inL (rx a k, nx a k) (b.take (k2 + 1)) p q = pairsL (a.take k) b p q ++ inL (rx a k, nx a k) (b.take k2) p q by
                      rw [in_step hlt2, if_neg (by simpa using heq), List.append_nil])
                    have hbq : (ix (rx a k) p == ix (rx b k2) q) = false := by rw [beq_eq_false_iff_ne]; exact heq
                    clear heq
                    go_wp2_with fail
                    clear e1 e2
                    generalize wr.alloc (.cells #[.slice (some ⟨rb, pb, none⟩) (rx b k2).length cb, .int .i64 (nx b k2)] 50) = wa at *
                    generalize wr.heap.size = H at *
                    go_quiet (fail)
                    have hCb : HC (wa.drewN nq) w6.heap.size (wa.drewN nq).heap.size g cap es := hCd
                    have hWb := bel_drewN hWd nq
                    have q0b : (wa.drewN nq).cell? ⟨G, 0, none⟩ = some (.slice (some ⟨ra, pa, none⟩) (rx a k).length ca) := q0d
                    have q1b : (wa.drewN nq).cell? ⟨G, 1, none⟩ = some (.int .i64 (nx a k)) := q1d
                    have hGb : G < (wa.drewN nq).heap.size := hGd
                    clear hCd hWd h3r h5r q0d q1d t0 t1 hGd hHl a3 e3 hbq
                    generalize wa.drewN nq = wb at *
                    go_wp2
                    go_roundw
                    case rel => exact ⟨k2 + 1, g, cap, es, by omega, by go_num, rfl, hCb, by rw [HE.out, HQ.out], hWb, hGb, hgGq, q0b, q1b⟩
                    case measure => simp [intOf]; omega
                · have hd : decide (k2 < b.length) = false := by simpa using hlt2
                  have HQ := Lib.hid (show pairsL (a.take (k + 1)) b p q = pairsL (a.take k) b p q ++ inL (rx a k, nx a k) (b.take k2) p q by
                    rw [pairs_step hlt, List.take_of_length_le (l := b) (by omega)])
                  go_wp2
                  go_roundw
                  case rel => exact ⟨k + 1, g, cap, es, by omega, by go_num, rfl, hC, by rw [HE.out, HQ.out], hWq⟩
                  case measure => simp [intOf]; omega
            · have hd : decide (k < a.length) = false := by simpa using hlt
              have HEQ := Lib.hid (show es.map Ent.pair = pairsL a b p q by rw [HE.out, List.take_of_length_le (by omega)])
              have hN : N64 (es.map Ent.pair) := by
                intro r hr
                rw [HEQ.out] at hr
                have := HSIX.out r hr
                exact W64_small (by omega) (by omega)
              have hel : es.length ≤ 1048576 := by
                have h1 := congrArg List.length HEQ.out
                rw [List.length_map] at h1
                have h2 := pairs_len a b p q
                have h3 : a.length * b.length ≤ 300 * 300 := Nat.mul_le_mul hla hlb
                omega
              go_wp2_with fail
              refine (together_any w6.heap.size g cap es wr hC hN hel).mono ?_
              rintro e w8 ⟨gb, cb, bs, rfl, hO, hbs, hb8⟩
              have HB := Lib.hid hbs
              clear hbs hN
              go_wp2
              go_ret
              have hs8 : w.heap.size ≤ wr.heap.size := by have := hW.size; omega
              exact ⟨gb, cb, bs, rfl, hO.lower hs8, by rw [HB.out, HEQ.out, HJ.out], hb6.trans ((hW.trans hb8).mono hs6)⟩
end Go.Proofs.Ytcfnbpofbcendaa
