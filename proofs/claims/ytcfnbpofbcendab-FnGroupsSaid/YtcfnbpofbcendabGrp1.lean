/- The contract of the program's Grouped: for each list that is there more than 0 times the list, how many, and the sum; in memory of the call's own; nothing that lay has turned. For bags of at most 2^40, rows and places of at most 2^30. -/
import Derived.Test.YtcfnbpofbcendabGrp0
import Derived.Deep.DeepCutAuto
import Derived.Deep.CutBlock
namespace Go.Proofs.Ytcfnbpofbcendab
open Go.RowKit

def grpOk (b : List (List Int × Int)) (ps : List Int) (p : Int) : Bool := bagOkB b && (hasB b ps && (p == -1 || hasB b [p]))
def grpB (b : List (List Int × Int)) (ps : List Int) (p : Int) : List (List Int × Int) := if grpOk b ps p then grpL (togL (keptL b ps)) p (sumsB b ps p) else []
theorem grpB_no {b : List (List Int × Int)} {ps : List Int} {p : Int} (h : grpOk b ps p = false) : grpB b ps p = [] := by unfold grpB; rw [h]; rfl
theorem right_bag {a : List (List Int × Int)} (h : bagOkB a = true) : Right a := by
  have hl : a.length ≤ 300 := by
    unfold bagOkB at h
    rw [Bool.and_eq_true] at h
    exact of_decide_eq_true h.2
  have hok : okFrom none a = true := by
    unfold bagOkB at h
    rw [Bool.and_eq_true] at h
    exact h.1
  have key : ∀ (bs : List (List Int × Int)) (q : Option (List Int)), okFrom q bs = true → ∀ x ∈ bs, rowOkB x.1 = true ∧ -1000000 ≤ x.2 ∧ x.2 ≤ 1000000 := by
    intro bs
    induction bs with
    | nil => intro _ _ x hx; cases hx
    | cons y bs ih =>
      obtain ⟨r, n⟩ := y
      intro q hq x hx
      replace hq : (rowOkB r && (n != 0) && inB n (-1000000) 1000000 && (match q with | none => true | some t => lessB t r) && okFrom (some r) bs) = true := by cases q <;> exact hq
      rw [Bool.and_eq_true, Bool.and_eq_true, Bool.and_eq_true, Bool.and_eq_true] at hq
      rcases List.mem_cons.1 hx with rfl | hx
      · refine ⟨hq.1.1.1.1, ?_⟩
        have := hq.1.1.2
        simp [inB] at this
        exact this
      · exact ih _ hq.2 x hx
  refine ⟨hl, fun j hj => ?_⟩
  have h2 := key a none hok a[j] (List.getElem_mem hj)
  rw [bag_ix hj] at h2
  refine ⟨rowOk_six h2.1, h2.2.1, h2.2.2, fun q hq => ?_⟩
  have h3 := h2.1
  unfold rowOkB at h3
  rw [Bool.and_eq_true] at h3
  have h4 := List.all_eq_true.1 h3.1 _ (List.getElem_mem hq)
  rw [← ix_eq _ q hq] at h4
  unfold cellB inB at h4
  simp at h4
  exact h4
theorem timesIn_m (A A' : Option Addr) (c c' : Nat) (bag : List (List Int × Int)) (row : List Int) (m : Nat) (w : World) (hm : m = bag.length) (hB : Bag w w.heap.size A bag) (hI : Ints w w.heap.size A' row) (hl : m ≤ 1099511627776) (hl' : row.length ≤ 1099511627776) :
    Calls Try.prog 22 #[.slice A m c, .slice A' row.length c'] w fun e w' => e = .returned (.int .i64 (timesL bag row)) ∧ Below w.heap.size w w' := by
  subst hm; exact implTimesIn_any A A' c c' bag row w hB hI hl hl'
theorem ent_rx {bs : List Ent} {k : Nat} (h : k < bs.length) : rx (bs.map Ent.pair) k = (ex bs k).r := by rw [rx_map h, ex_eq h]
theorem ent_nx {bs : List Ent} {k : Nat} (h : k < bs.length) : nx (bs.map Ent.pair) k = (ex bs k).n := by rw [nx_map h, ex_eq h]

/-- A bag of the call's own, whose rows have their room told. -/
def OwnBagC (lo : Nat) (bag : List (List Int × Int)) (w : World) (e : Ending) (w' : World) : Prop :=
  ∃ g cap es, e = .returned (.slice (some ⟨g, 0, none⟩) es.length cap) ∧ OB w' lo g cap es ∧ es.map Ent.pair = bag ∧ Below lo w w' ∧ ∀ e ∈ es, e.r.length ≤ e.c
theorem OwnBagC.o {lo : Nat} {bag : List (List Int × Int)} {w w' : World} {e : Ending} (h : OwnBagC lo bag w e w') : OwnBag lo bag w e w' := by
  obtain ⟨g, cap, es, h1, h2, h3, h4, _⟩ := h
  exact ⟨g, cap, es, h1, h2, h3, h4⟩
set_option maxRecDepth 100000 in
set_option maxHeartbeats 16000000 in
theorem implGrouped_caps (A A' : Option Addr) (c c' : Nat) (b : List (List Int × Int)) (ps : List Int) (p : Int) (w : World) (hB : Bag w w.heap.size A b) (hI : Ints w w.heap.size A' ps) (hlb : b.length ≤ 1099511627776) (hrb : ∀ j, j < b.length → (rx b j).length ≤ 1073741824) (hlp : ps.length ≤ 1073741824) :
    Calls Try.prog 6 #[.slice A b.length c, .slice A' ps.length c', .int .i64 p] w (OwnBagC w.heap.size (grpB b ps p) w) := by
  obtain ⟨i0, hi0, hz0, hz1, hz2⟩ := info_parts info_count
  obtain ⟨j0, hj0, jz0, jz1, jz2⟩ := info_parts info_i64
  have HRB := Lib.hid hrb
  clear hrb
  have bE := (Below.refl w.heap.size w).alloc (Nat.le_refl _) (.cells #[] 33)
  have hE0 : OB (w.alloc (.cells #[] 33)) w.heap.size w.heap.size 0 [] := OBag.nil (empty_counts w)
  have hBE := hB.on bE
  have hIE := hI.on bE
  have hz : w.heap.size < (w.alloc (.cells #[] 33)).heap.size := by rw [World.size_alloc]; omega
  clear hB hI
  go_enter Try.func6, Try.ntmps6
  go_upto_region 2 with fail
  generalize w.alloc (.cells #[] 33) = w0 at *
  go_cut [32] (fun s wx => s = .bool (!grpOk b ps p) ∧ Below w0.heap.size w0 wx)
  case first =>
    go_wp2_with fail
    refine (implBagOk_any A c b w0 hBE hlb).mono ?_
    rintro e w1 ⟨rfl, hb1⟩
    have hB1 := hBE.on hb1
    have hI1 := hIE.on hb1
    cases h1 : bagOkB b with
    | false =>
      have HF := Lib.hid (show grpOk b ps p = false by unfold grpOk; rw [h1]; rfl)
      clear h1
      go_wp2_with fail
      go_meet
      exact ⟨by rw [HF.out]; rfl, hb1⟩
    | true =>
    have H1 := Lib.hid h1
    clear h1
    go_wp2_with fail
    refine (rowsHave_any A A' c c' b ps w1 hB1 hI1 hlb hlp HRB.out).mono ?_
    rintro e w2 ⟨rfl, hc2⟩
    have hb2 := bel_step hb1 hc2
    have hB2 := hB1.on hc2
    clear hB1 hI1 hb1 hc2
    cases h2 : hasB b ps with
    | false =>
      have HF := Lib.hid (show grpOk b ps p = false by unfold grpOk; rw [H1.out, h2]; rfl)
      clear h2
      go_wp2_with fail
      go_meet
      exact ⟨by rw [HF.out]; rfl, hb2⟩
    | true =>
    have H2 := Lib.hid h2
    clear h2
    by_cases hp1 : p = -1
    · have hpb : (p != -1) = false := by simpa using hp1
      have HF := Lib.hid (show grpOk b ps p = true by unfold grpOk; rw [H1.out, H2.out, hp1]; rfl)
      clear hp1
      go_wp2_with fail
      go_meet
      exact ⟨by rw [HF.out]; rfl, hb2⟩
    · have hpb : (p != -1) = true := by simpa using hp1
      have HPN := Lib.hid (show (p == -1) = false by simpa using hp1)
      have b3 := (Below.refl w2.heap.size w2).alloc (Nat.le_refl _) (.cells #[.int .i64 p] 2)
      have hI3 : Ints (w2.alloc (.cells #[.int .i64 p] 2)) (w2.alloc (.cells #[.int .i64 p] 2)).heap.size (some ⟨w2.heap.size, 0, none⟩) [p] := Blk.ints (zs := [p]) (Blk.new w2 2 #[.int .i64 p])
      have hB3 := hB2.on b3
      have hb3 := bel_step hb2 b3
      clear hp1 hB2 b3
      go_wp2_with fail
      generalize w2.alloc (.cells #[.int .i64 p] 2) = w3 at *
      refine (rowsHave_any A (some ⟨w2.heap.size, 0, none⟩) c 1 b [p] w3 hB3 hI3 hlb (by simp) HRB.out).mono ?_
      rintro e w4 ⟨rfl, hc4⟩
      have hb4 := bel_step hb3 hc4
      clear hI3 hB3 hb3 hc4
      have HF := Lib.hid (show grpOk b ps p = hasB b [p] by unfold grpOk; rw [H1.out, H2.out, HPN.out]; simp)
      cases h3 : hasB b [p] with
      | false =>
        have HG := Lib.hid (HF.out.trans h3)
        clear h3
        go_wp2_with fail
        go_meet
        exact ⟨by rw [HG.out]; rfl, hb4⟩
      | true =>
        have HG := Lib.hid (HF.out.trans h3)
        clear h3
        go_wp2_with fail
        go_meet
        exact ⟨by rw [HG.out]; rfl, hb4⟩
  case rest =>
    obtain ⟨rfl, hbc⟩ := hcut
    have hBc := hBE.on hbc
    have hIc := hIE.on hbc
    have hEc := OBag.on hE0 hbc
    have hWc := bel_step bE hbc
    have hzc := Nat.lt_of_lt_of_le hz hbc.size
    clear hBE hIE hE0 bE hz hbc
    cases hok : grpOk b ps p with
    | false =>
      have HF := Lib.hid (grpB_no hok)
      clear hok
      go_wp2
      go_ret
      rw [HF.out]; exact ⟨w.heap.size, 0, [], rfl, hEc, rfl, hWc, fun e he => by cases he⟩
    | true =>
      have HGB := Lib.hid (show grpB b ps p = grpL (togL (keptL b ps)) p (sumsB b ps p) by unfold grpB; rw [hok]; rfl)
      have hbag : bagOkB b = true := by
        unfold grpOk at hok; simp only [Bool.and_eq_true] at hok; exact hok.1
      have hR := right_bag hbag
      have hq : p ≠ -1 → ∀ j, j < b.length → 0 ≤ p ∧ p < ((rx b j).length : Int) := fun hn j hj => by
        unfold grpOk at hok
        simp only [Bool.and_eq_true, Bool.or_eq_true] at hok
        rcases hok.2.2 with h | h
        · exact absurd (by simpa using h) hn
        · exact places_one (has_at h hj)
      clear hok hbag
      go_wp2_with fail
      refine (sumsOf_any A A' c c' b ps p wc hBc hIc hR hlp hq).mono ?_
      rintro e w5 ⟨gs, cs, ss, rfl, hS5, hss, hb5⟩
      have HSS := Lib.hid hss
      have hB5 := hBc.on hb5
      have hI5 := hIc.on hb5
      have hE5 := OBag.on hEc hb5
      have hW5 := hWc.trans (hb5.mono hWc.size)
      have hz5 := Nat.lt_of_lt_of_le hzc hb5.size
      clear hss hBc hIc hEc hWc hb5 hq
      go_wp2_with fail
      refine (keptOf_any A A' c c' b ps w5 hB5 hI5 hR hlp).mono ?_
      rintro e wk ⟨gb, cb, bs, rfl, hOk, hks, hbk, hD⟩
      have HKS := Lib.hid hks
      have hsk := hbk.size
      have hgbk : gb < wk.heap.size := hOk.1.lt gb rfl |>.2
      have hgb5 : w5.heap.size ≤ gb := hOk.1.lt gb rfl |>.1
      have hbl : bs.length ≤ 300 := by
        have h1 := congrArg List.length hks
        rw [List.length_map] at h1
        have h2 := tog_length (keptL b ps)
        have h3 : (keptL b ps).length = b.length := by simp [keptL]
        have h4 := hR.1
        omega
      have hGI0 : GI w w5 wk gb bs w.heap.size 0 [] 0 wk := ⟨OBag.on hE5 hbk, hW5.trans (hbk.mono (by omega)), fun b' _ h2 => hbk.block b' h2, rfl, fun _ _ _ _ _ => rfl, Nat.le_refl _, (fun e he => by cases he), .inl rfl, fun e he => by cases he⟩
      clear hks hB5 hI5 hE5 hR hbk
      go_wp2
      go_loopw [7, 42] (fun v s wr => ∃ (k g cap : Nat) (es : List Ent), k ≤ bs.length ∧ s = .int .i64 k ∧ v = .slice (some ⟨g, 0, none⟩) es.length cap ∧ GI w w5 wk gb bs g cap es k wr ∧ es.map Ent.pair = grpL ((bs.map Ent.pair).take k) p (sumsB b ps p)) (fun _ s _ => bs.length - (intOf s).toNat)
      case atStart => exact ⟨0, w.heap.size, 0, [], Nat.zero_le _, rfl, rfl, hGI0, rfl⟩
      case round =>
        obtain ⟨k, g, cap, es, hk, rfl, rfl, hI, he⟩ := hrel
        have HE := Lib.hid he
        clear he hGI0
        by_cases hlt : k < bs.length
        · obtain ⟨c0, c1⟩ := hI.cells hOk hlt
          have hk0 : (0 : Int) ≤ (k : Int) := Int.natCast_nonneg _
          have hk1 : (k : Int) < (bs.length : Int) := by omega
          have bc := (Below.refl wr.heap.size wr).alloc (Nat.le_refl _) (.cells #[.slice (ex bs k).A (ex bs k).r.length (ex bs k).c, .int .i64 (ex bs k).n] 33)
          have BC := Blk.new wr 33 #[.slice (ex bs k).A (ex bs k).r.length (ex bs k).c, .int .i64 (ex bs k).n]
          have g0 := BC.cell 0
          have g1 := BC.cell 1
          simp only [List.getElem?_toArray, List.getElem?_cons_zero, List.getElem?_cons_succ] at g0 g1
          have hel : es.length ≤ k := by
            have h1 := congrArg List.length HE.out
            have h2 := grp_len ((bs.map Ent.pair).take k) p (sumsB b ps p)
            rw [List.length_map] at h1
            rw [List.length_take] at h2
            omega
          by_cases hn : (ex bs k).n ≤ 0
          · have hnd := decide_eq_true hn
            have HST := Lib.hid (show grpL ((bs.map Ent.pair).take (k + 1)) p (sumsB b ps p) = grpL ((bs.map Ent.pair).take k) p (sumsB b ps p) by
              rw [grp_step (by rw [List.length_map]; exact hlt), ent_nx hlt, if_neg (by omega), List.append_nil])
            have hI2 := Lib.hid (hI.skip hD hgbk hsk bc)
            clear hn hI BC g0 g1 bc
            go_wp2
            go_roundw
            case rel => exact ⟨k + 1, g, cap, es, by omega, by go_num, rfl, hI2.out, by rw [HE.out, HST.out]⟩
            case measure => simp [intOf]; omega
          · have hnd := decide_eq_false hn
            have HST := Lib.hid (show grpL ((bs.map Ent.pair).take (k + 1)) p (sumsB b ps p) = grpL ((bs.map Ent.pair).take k) p (sumsB b ps p) ++ [(rowG p (sumsB b ps p) ((ex bs k).r, (ex bs k).n), 1)] by
              rw [grp_step (by rw [List.length_map]; exact hlt), ent_nx hlt, ent_rx hlt, if_pos (by omega)])
            clear hn
            have hs := hI.size
            have hkk := hD.1 bs[k] (List.getElem_mem hlt)
            rw [← ex_eq hlt] at hkk
            have hob : ∀ x, obE (ex bs k) = some x → x < wr.heap.size := fun x hx => by have := (hkk.1.lt x hx).2; omega
            have hrl : (ex bs k).r.length ≤ 1073741824 := by
              have h1 : (ex bs k).pair ∈ togL (keptL b ps) := by rw [← HKS.out, ex_eq hlt]; exact List.mem_map_of_mem (List.getElem_mem hlt)
              exact tog_rows (m := 1073741824) (fun r hr => by
                unfold keptL at hr
                obtain ⟨x, _, rfl⟩ := List.mem_map.1 hr
                have := pickedL_length x.1 ps
                show (pickedL x.1 ps).length ≤ 1073741824
                omega) _ h1
            have hrow := (hI.row hD hlt (by omega)).alloc (.cells #[.slice (ex bs k).A (ex bs k).r.length (ex bs k).c, .int .i64 (ex bs k).n] 33)
            have hgB : wr.grownBy (wr.alloc (.cells #[.slice (ex bs k).A (ex bs k).r.length (ex bs k).c, .int .i64 (ex bs k).n] 33)) (obE (ex bs k)) := World.grownBy_alloc wr _ _
            clear bc BC
            go_upto_region 9 with fail
            have hsb : (wr.alloc (.cells #[.slice (ex bs k).A (ex bs k).r.length (ex bs k).c, .int .i64 (ex bs k).n] 33)).heap.size = wr.heap.size + 1 := World.size_alloc _ _
            clear c0 c1
            generalize wr.alloc (.cells #[.slice (ex bs k).A (ex bs k).r.length (ex bs k).c, .int .i64 (ex bs k).n] 33) = wb at *
            obtain ⟨G, hG⟩ : ∃ G, wr.heap.size = G := ⟨_, rfl⟩
            rw [hG] at g0 g1 ⊢
            have hw0 : w.heap.size ≤ wb.heap.size := by have := hI.bel.size; omega
            have HSB := Lib.hid hsb
            have HGG := Lib.hid hG
            clear hsb hG
            go_upto_region 10 with (at_builtin; refine wpList_append_keep _ rfl (.tmp 50) (.tmp 53) 25 rfl w.heap.size 2 j0 (.int .i64 0) 8 Try.underlying25 hj0 jz0 jz1 jz2 rfl (.slice (ex bs k).A (ex bs k).r.length (ex bs k).c) (ex bs k).r.length (i64l (ex bs k).r) rfl (hrow.alloc _) _ (some ⟨wb.heap.size, 0, none⟩) 1 1 [.int .i64 (ex bs k).n] rfl (by omega) (reads_nw1 wb _ _) (by simp [Value.oneCell']) (by simp only [maxLen]; omega) (by omega) (by rw [World.size_alloc]; omega) ?_; intro v9 w9 hown9 hgrow9 hat9 hkeep9)
            have hsb := HSB.out
            have hG := HGG.out
            obtain ⟨rc, hrc⟩ : ∃ rc, rc = (ex bs k).r ++ [(ex bs k).n] := ⟨_, rfl⟩
            have hrcl : rc.length = (ex bs k).r.length + 1 := by rw [hrc, List.length_append]; rfl
            have hownR : w9.ownsRow w.heap.size 2 1 v9 rc.length (i64l rc) := by
              rw [hrcl, hrc, show i64l ((ex bs k).r ++ [(ex bs k).n]) = i64l (ex bs k).r ++ [.int .i64 (ex bs k).n] by simp [i64l]]
              exact hown9
            obtain ⟨A9, c9, g9, rfl, _, _⟩ := rowAt_of_own hownR
            have HRC := Lib.hid hrc
            have hs9 : wb.heap.size + 1 ≤ w9.heap.size := by have := hgrow9.size; rw [World.size_alloc] at this; exact this
            have hg9 : wr.grownBy w9 (obE (ex bs k)) := grown_trans (grown_trans hgB (World.grownBy_alloc wb _ _)) hgrow9
            have h99 : ∀ x, (Value.slice A9 rc.length c9).ownBlock = some x → wr.heap.size ≤ x ∨ obE (ex bs k) = some x := fun x hx => by
              rcases hat9 with h1 | h1
              · right; rw [← hx, h1]; rfl
              · left
                rw [h1] at hx
                have := Option.some.inj hx
                rw [World.size_alloc] at this
                omega
            have q0 : w9.cell? ⟨G, 0, none⟩ = some (.slice (ex bs k).A (ex bs k).r.length (ex bs k).c) := by
              have e1 : w9.heap[G]? = (wb.alloc (.cells #[.int .i64 (ex bs k).n] 2)).heap[G]? := hgrow9.block G (by rw [World.size_alloc]; omega) (fun e => by have := hob G e.symm; omega)
              rw [World.cell?_of_block (a := ⟨G, 0, none⟩) e1, World.cell?_alloc_lt wb _ _ (by show G < wb.heap.size; omega)]
              exact g0
            have hrI : Ints w9 w9.heap.size (ex bs k).A (ex bs k).r := fun hn0 => by
              have h1 := (hOk.2.1 bs[k] (List.getElem_mem hlt)).1
              rw [← ex_eq hlt] at h1
              have h2 : (ex bs k).A = some ⟨(ex bs k).g, 0, none⟩ := (h1 hn0).1
              have h3 : obE (ex bs k) = some (ex bs k).g := by unfold obE; rw [h2]; rfl
              refine ⟨(ex bs k).g, 0, h2, by have := hob _ h3; omega, fun j hj => ?_⟩
              have h4 := hkeep9 (ex bs k).g h3 j (.int .i64 (ix (ex bs k).r j)) (by simp [i64l, ix, hj])
              have h5 : (⟨(ex bs k).g, 0, none⟩ : Addr).add j = ⟨(ex bs k).g, 0 + j, none⟩ := by unfold Addr.add; split <;> simp_all
              rw [h5] at h4
              exact h4
            have hGw9 : wr.heap.size ≤ w9.heap.size := by omega
            have hrcb : rc.length ≤ 1073741825 := by omega
            clear hrow hgB hown9 hgrow9 hat9 hkeep9 hrc g0 g1 hsb hG hrcl
            by_cases hp1 : p = -1
            · have hpb : (p != -1) = false := by simpa using hp1
              have HRW := Lib.hid (show rowG p (sumsB b ps p) ((ex bs k).r, (ex bs k).n) = rc by rw [HRC.out]; unfold rowG tailG; rw [if_pos hp1])
              clear hp1 q0 hrI
              go_wp2_with (at_builtin; refine wpList_append_any _ rfl (.tmp 64) (.tmp 67) 24 rfl w.heap.size 33 i0 _ 2 32 Try.underlying24 hi0 hz0 hz1 hz2 rfl (by decide) _ _ (entCells es) rfl ((hI.ownY hD hlt hz5 hg9).alloc _) _ (some ⟨w9.heap.size, 0, none⟩) 1 1 [.slice A9 rc.length c9, .int .i64 1] rfl (reads_new2 w9 _ _ _) (by simp [Value.oneCell']) (by simp only [maxLen]; omega) (by omega) (by rw [World.size_alloc]; have h1 := hg9.size; have h2 := hI.size; omega) ?_; intro vz wz hownz hgz hatz)
              obtain ⟨g', cap', gg, hv, hI'⟩ := hI.step hD hlt hgbk hgb5 hz5 hg9 hownR h99 (by rw [HRC.out]; simp) hownz hgz hatz
              subst hv
              have HI2 := Lib.hid hI'
              have HE2 := Lib.hid (show (es ++ [(⟨rc, 1, A9, c9, gg⟩ : Ent)]).map Ent.pair = grpL ((bs.map Ent.pair).take (k + 1)) p (sumsB b ps p) by rw [List.map_append, HE.out, HST.out, HRW.out]; rfl)
              clear hownz hgz hatz hI' hI hg9 hownR h99
              go_wp2
              go_roundw
              case rel => exact ⟨k + 1, g', cap', _, by omega, by go_num, by simp, HI2.out, HE2.out⟩
              case measure => simp [intOf]; omega
            · have hpb : (p != -1) = true := by simpa using hp1
              obtain ⟨rt, hrt⟩ : ∃ rt, rt = rc ++ [timesL (sumsB b ps p) (ex bs k).r] := ⟨_, rfl⟩
              have hrtl : rt.length = rc.length + 1 := by rw [hrt, List.length_append]; rfl
              have HRW := Lib.hid (show rowG p (sumsB b ps p) ((ex bs k).r, (ex bs k).n) = rt by rw [hrt, HRC.out]; unfold rowG tailG; rw [if_neg hp1]; simp)
              clear hp1
              have hSY := hI.midY hD hlt hsk hg9 hzc hS5
              have hSB := OBag.bag hSY (fun e he => by
                have h1 : e.pair ∈ sumsB b ps p := by rw [← HSS.out]; exact List.mem_map_of_mem he
                unfold sumsB at h1
                split at h1
                · cases h1
                · have h2 := tog_rows (m := 1073741824) (fun r hr => by
                    unfold sumsL at hr
                    obtain ⟨x, _, rfl⟩ := List.mem_map.1 hr
                    have := pickedL_length x.1 ps
                    show (pickedL x.1 ps).length ≤ 1073741824
                    omega) _ h1
                  have h3 : e.r.length ≤ 1073741824 := h2
                  omega)
              have hsl : ss.length ≤ 1099511627776 := by
                have h1 := congrArg List.length HSS.out
                rw [List.length_map] at h1
                have h2 : (sumsB b ps p).length ≤ b.length := by
                  unfold sumsB
                  split
                  · exact Nat.zero_le _
                  · have h3 := tog_length (sumsL b ps p)
                    have h4 : (sumsL b ps p).length = b.length := by simp [sumsL]
                    omega
                omega
              go_wp2_with fail
              refine (timesIn_m (some ⟨gs, 0, none⟩) (ex bs k).A cs (ex bs k).c (ss.map Ent.pair) (ex bs k).r ss.length w9 (by rw [List.length_map]) hSB hrI hsl (by omega)).mono ?_
              rintro e w10 ⟨rfl, hb10⟩
              rw [HSS.out]
              have hg10 : wr.grownBy w10 (obE (ex bs k)) := grown_trans hg9 ⟨hb10.os, hb10.tape, hb10.output, hb10.size, fun b' h _ => hb10.block b' h⟩
              have hown10 : w10.ownsRow w.heap.size 2 1 (.slice A9 rc.length c9) rc.length (i64l rc) := own_keepB hownR fun x hx => hb10.block x (hownR.lt x hx).2
              have hs10 : w9.heap.size ≤ w10.heap.size := hb10.size
              have h910 : ∀ x, (Value.slice A9 rc.length c9).ownBlock = some x → x < w10.heap.size := fun x hx => by have := (hownR.lt x hx).2; omega
              clear hSY hSB hrI hb10 hg9 hownR q0
              go_upto_region 12 with (at_builtin; refine wpList_append_any _ rfl (.tmp 57) (.tmp 62) 25 rfl w.heap.size 2 j0 (.int .i64 0) 1 8 Try.underlying25 hj0 jz0 jz1 jz2 rfl (by decide) (.slice A9 rc.length c9) rc.length (i64l rc) rfl (hown10.alloc _) _ (some ⟨w10.heap.size, 0, none⟩) 1 1 [.int .i64 (timesL (sumsB b ps p) (ex bs k).r)] rfl (reads_nw1 w10 _ _) (by simp [Value.oneCell']) (by simp only [maxLen]; omega) (by omega) (by rw [World.size_alloc]; omega) ?_; intro v11 w11 hown11 hgrow11 hat11)
              have hownT : w11.ownsRow w.heap.size 2 1 v11 rt.length (i64l rt) := by
                rw [hrtl, hrt, show i64l (rc ++ [timesL (sumsB b ps p) (ex bs k).r]) = i64l rc ++ [.int .i64 (timesL (sumsB b ps p) (ex bs k).r)] by simp [i64l]]
                exact hown11
              obtain ⟨A11, c11, g11, rfl, _, _⟩ := rowAt_of_own hownT
              have HRT := Lib.hid hrt
              have h911 : ∀ x, (Value.slice A11 rt.length c11).ownBlock = some x → wr.heap.size ≤ x ∨ obE (ex bs k) = some x := fun x hx => by
                rcases hat11 with h1 | h1
                · exact h99 x (by rw [← h1, hx])
                · left
                  rw [h1] at hx
                  have := Option.some.inj hx
                  rw [World.size_alloc] at this
                  omega
              have hg11 : wr.grownBy w11 (obE (ex bs k)) := by
                have h1 : wr.grownBy (w10.alloc (.cells #[.int .i64 (timesL (sumsB b ps p) (ex bs k).r)] 2)) (obE (ex bs k)) := grown_trans hg10 (World.grownBy_alloc w10 _ _)
                refine ⟨hgrow11.os.trans h1.os, hgrow11.tape.trans h1.tape, hgrow11.output.trans h1.output, Nat.le_trans h1.size hgrow11.size, fun x hx hX => ?_⟩
                rw [hgrow11.block x (Nat.lt_of_lt_of_le hx h1.size) (fun e => ?_)]
                · exact h1.block x hx hX
                · rcases h99 x e.symm with h2 | h2
                  · omega
                  · exact hX h2.symm
              clear hown10 hg10 hown11 hgrow11 hat11 h99 h910 hrt hrtl
              go_wp2_with (at_builtin; refine wpList_append_any _ rfl (.tmp 64) (.tmp 67) 24 rfl w.heap.size 33 i0 _ 2 32 Try.underlying24 hi0 hz0 hz1 hz2 rfl (by decide) _ _ (entCells es) rfl ((hI.ownY hD hlt hz5 hg11).alloc _) _ (some ⟨w11.heap.size, 0, none⟩) 1 1 [.slice A11 rt.length c11, .int .i64 1] rfl (reads_new2 w11 _ _ _) (by simp [Value.oneCell']) (by simp only [maxLen]; omega) (by omega) (by rw [World.size_alloc]; have h1 := hg11.size; have h2 := hI.size; omega) ?_; intro vz wz hownz hgz hatz)
              obtain ⟨g', cap', gg, hv, hI'⟩ := hI.step hD hlt hgbk hgb5 hz5 hg11 hownT h911 (by rw [HRT.out]; simp) hownz hgz hatz
              subst hv
              have HI2 := Lib.hid hI'
              have HE2 := Lib.hid (show (es ++ [(⟨rt, 1, A11, c11, gg⟩ : Ent)]).map Ent.pair = grpL ((bs.map Ent.pair).take (k + 1)) p (sumsB b ps p) by rw [List.map_append, HE.out, HST.out, HRW.out]; rfl)
              clear hownz hgz hatz hI' hI hg11 hownT h911
              go_wp2
              go_roundw
              case rel => exact ⟨k + 1, g', cap', _, by omega, by go_num, by simp, HI2.out, HE2.out⟩
              case measure => simp [intOf]; omega
        · have hd : decide (k < bs.length) = false := by simpa using hlt
          have HFIN := Lib.hid (show es.map Ent.pair = grpB b ps p by
            rw [HE.out, List.take_of_length_le (by rw [List.length_map]; omega), HGB.out, HKS.out])
          go_wp2
          go_ret
          exact ⟨g, cap, es, rfl, hI.ob, HFIN.out, hI.bel, hI.caps⟩
theorem implGrouped_any (A A' : Option Addr) (c c' : Nat) (b : List (List Int × Int)) (ps : List Int) (p : Int) (w : World) (hB : Bag w w.heap.size A b) (hI : Ints w w.heap.size A' ps) (hlb : b.length ≤ 1099511627776) (hrb : ∀ j, j < b.length → (rx b j).length ≤ 1073741824) (hlp : ps.length ≤ 1073741824) :
    Calls Try.prog 6 #[.slice A b.length c, .slice A' ps.length c', .int .i64 p] w (OwnBag w.heap.size (grpB b ps p) w) :=
  (implGrouped_caps A A' c c' b ps p w hB hI hlb hrb hlp).mono fun _ _ h => h.o
end Go.Proofs.Ytcfnbpofbcendab
