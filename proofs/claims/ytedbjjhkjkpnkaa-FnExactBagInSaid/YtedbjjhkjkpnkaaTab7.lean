/- The contract of the model's Placed: a table of the call's own; nothing that lay has turned. -/
import Derived.Test.YtedbjjhkjkpnkaaTab5
namespace Go.Proofs.Ytedbjjhkjkpnkaa
open Go.RowKit

/-- Whether a row is placed. -/
def plB (s : ByteArray) (wd : Int) (rows : List (List Int)) (row : List Int) : Bool := tabB s wd rows && rowFit wd row && decide (¬ idxK rows (ky row) < rows.length) && decide (rows.length ≠ 30)
def plR (rows : List (List Int)) (row : List Int) (b : Bool) : List (List Int) := if b = true then placedL rows row else rows
theorem plc_yes {rows : List (List Int)} {k : Nat} {q : Int} (h : k < rows.length) (e : ky (rr rows k) < q) : plcK (rows.drop k) q = plcK (rows.drop (k + 1)) q + 1 := by rw [rows_drop h, plcK, if_pos e]
theorem plc_no {rows : List (List Int)} {k : Nat} {q : Int} (h : k < rows.length) (e : ¬ ky (rr rows k) < q) : plcK (rows.drop k) q = 0 := by rw [rows_drop h, plcK, if_neg e]
theorem plc_end {rows : List (List Int)} {k : Nat} {q : Int} (h : ¬ k < rows.length) : plcK (rows.drop k) q = 0 := by rw [List.drop_of_length_le (by omega)]; rfl
/-- The end of a call that answers the table at O: what is stored into the result. -/
theorem ans_end {w w7 : World} {G lo : Nat} {s : ByteArray} {wd : Int} {rows : List (List Int)} {u a0 a1 : Value} {es : List Ent} (hG : w.heap.size = G) (hO : ORows w7 lo u es) (hlo : G + 1 < lo) (he : es.map Ent.r = rows) (hW : Below G w w7) :
    OwnTab w.heap.size s wd rows (.agg #[.string s, .int .i64 wd, u]) (((w7.setCell ⟨G + 1, 0, none⟩ a0).setCell ⟨G + 1, 1, none⟩ a1).setCell ⟨G + 1, 2, none⟩ u) ∧ Below w.heap.size w (((w7.setCell ⟨G + 1, 0, none⟩ a0).setCell ⟨G + 1, 1, none⟩ a1).setCell ⟨G + 1, 2, none⟩ u) := by
  rw [hG]
  refine ⟨⟨_, es, rfl, ?_, he⟩, ?_⟩
  · exact ORows.lower (lo := lo) (((hO.keep hO.inside (fun b hb _ => Below.heap_setCell w7 ⟨G + 1, 0, none⟩ _ b (by simp; omega))).keep (hi := w7.heap.size) hO.inside (fun b hb _ => Below.heap_setCell _ ⟨G + 1, 1, none⟩ _ b (by simp; omega))).keep (hi := w7.heap.size) hO.inside (fun b hb _ => Below.heap_setCell _ ⟨G + 1, 2, none⟩ _ b (by simp; omega))) (by omega)
  · exact ((hW.setCell (p := ⟨G + 1, 0, none⟩) (by simp) _).setCell (p := ⟨G + 1, 1, none⟩) (by simp) _).setCell (p := ⟨G + 1, 2, none⟩) (by simp) _
set_option maxRecDepth 100000 in
set_option maxHeartbeats 16000000 in
theorem specPlaced_any (s : ByteArray) (wd : Int) (A A' : Option Addr) (c c' : Nat) (rows : List (List Int)) (row : List Int) (w : World) (hR : Rws w w.heap.size A rows) (hI : Ints w w.heap.size A' row) (hs : s.size ≤ 1099511627776) (hl : rows.length ≤ 1099511627776) (hr : row.length ≤ 1099511627776) :
    Calls Try.prog 29 #[.agg #[.string s, .int .i64 wd, .slice A rows.length c], .slice A' row.length c'] w (TabAns (tkS s (tabB s wd rows)) (tkW wd (tabB s wd rows)) (tkR (plR rows row (plB s wd rows row)) (tabB s wd rows)) (plB s wd rows row) w) := by
  obtain ⟨i0, hi0, hz0, hz1, hz2⟩ := info_parts info_rowT
  have bc := bel_two (w := w) (.cells #[.string s, .int .i64 wd, .slice A rows.length c] 28) (.cells #[.string ⟨#[]⟩, .int .i64 0, .slice none 0 0] 28)
  have BG := (Blk.new w 28 #[.string s, .int .i64 wd, .slice A rows.length c]).alloc (.cells #[.string ⟨#[]⟩, .int .i64 0, .slice none 0 0] 28)
  have BR := Blk.new (w.alloc (.cells #[.string s, .int .i64 wd, .slice A rows.length c] 28)) 28 #[.string ⟨#[]⟩, .int .i64 0, .slice none 0 0]
  have e2 : (w.alloc (.cells #[.string s, .int .i64 wd, .slice A rows.length c] 28)).heap.size = w.heap.size + 1 := by simp
  rw [e2] at BR
  have hRb := hR.on bc
  have hIb := hI.on bc
  clear e2 hR hI
  go_enter Try.func29, Try.ntmps29
  go_wp2_with fail
  generalize (w.alloc (.cells #[.string s, .int .i64 wd, .slice A rows.length c] 28)).alloc (.cells #[.string ⟨#[]⟩, .int .i64 0, .slice none 0 0] 28) = wb at *
  generalize hGG : w.heap.size = G at *
  have HGG := Lib.hid hGG
  have hsb : G ≤ wb.heap.size := by rw [← hGG]; exact bc.size
  clear hGG
  refine (specTableOk_any s wd A c rows wb hRb hs hl).mono ?_
  rintro e w1 ⟨rfl, hb1⟩
  have BG1 := BG.below hb1 BG.lt
  have BR1 := BR.below hb1 BR.lt
  have hR1 := hRb.on hb1
  have hI1 := hIb.on hb1
  have hW1 : Below G w w1 := bc.trans (hb1.mono hsb)
  have hs1 : G + 1 < w1.heap.size := BR1.lt
  clear BG BR hRb bc hb1 hIb
  cases ht : tabB s wd rows with
  | false =>
    have HT := Lib.hid (show plB s wd rows row = false by unfold plB; rw [ht]; rfl)
    have HTF := Lib.hid ht
    have r0 := BR1.cell 0
    have r1 := BR1.cell 1
    have r2 := BR1.cell 2
    have fr0 := BR1.frozen 0
    have fr1 := BR1.frozen 1
    have fr2 := BR1.frozen 2
    simp only [List.getElem?_toArray, List.getElem?_cons_zero, List.getElem?_cons_succ] at r0 r1 r2
    clear ht
    go_wp2
    refine bodyPost_ret (v := .tuple #[.agg #[.string ⟨#[]⟩, .int .i64 0, .slice none 0 0], .bool false]) (by simp [results, Try.f29, go_sem, *]) rfl ?_
    rw [HT.out, HTF.out]
    obtain ⟨k1, k2⟩ := ans_end (lo := G + 2) (s := ⟨#[]⟩) (wd := 0) (a0 := .string ⟨#[]⟩) (a1 := .int .i64 0) HGG.out (ORows.none_ w1 (G + 2)) (by omega) rfl hW1
    exact ⟨_, rfl, k1, k2⟩
  | true =>
    have HP := Lib.hid (tab_pos ht)
    have hlen := tab_len ht
    have HTT := Lib.hid ht
    have HW4 := Lib.hid (show inB wd 1 4 = true by
      unfold tabB at ht
      rw [Bool.and_eq_true] at ht
      exact (rowsOk_iff.1 ht.2).1.1)
    have g0 := BG1.cell 0
    have g1 := BG1.cell 1
    have g2 := BG1.cell 2
    simp only [List.getElem?_toArray, List.getElem?_cons_zero, List.getElem?_cons_succ] at g0 g1 g2
    clear ht
    go_wp2_with fail
    refine (l4Copy_any s wd A c rows w1 hR1 hl).mono ?_
    rintro e w2 ⟨v2, rfl, ⟨u, es, rfl, hO2, he2⟩, hb2⟩
    have hel : es.length = rows.length := by rw [← he2, List.length_map]
    have HE2 := Lib.hid he2
    have HEL := Lib.hid hel
    obtain ⟨Au, cu, rfl⟩ := hO2.form
    have BG2 := BG1.below hb2 BG1.lt
    have BR2 := BR1.below hb2 BR1.lt
    have hR2 := hR1.on hb2
    have hI2 := hI1.on hb2
    have hW2 : Below G w w2 := hW1.trans (hb2.mono (by omega))
    have hs12 : w1.heap.size ≤ w2.heap.size := hb2.size
    have b3 := (Below.refl w2.heap.size w2).alloc (Nat.le_refl _) (.cells #[.string s, .int .i64 wd, .slice Au es.length cu] 28)
    have BO3 := Blk.new w2 28 #[.string s, .int .i64 wd, .slice Au es.length cu]
    have BG3 := BG2.alloc (.cells #[.string s, .int .i64 wd, .slice Au es.length cu] 28)
    have BR3 := BR2.alloc (.cells #[.string s, .int .i64 wd, .slice Au es.length cu] 28)
    have hO3 := hO2.on b3
    have hin := hO2.inside
    have hR3 := hR2.on b3
    have hI3 := hI2.on b3
    have hW3 : Below G w (w2.alloc (.cells #[.string s, .int .i64 wd, .slice Au es.length cu] 28)) := hW2.trans (b3.mono (by omega))
    clear he2 hel g0 g1 g2 BG1 BR1 hR1 hI1 hW1 hb2 hO2 BG2 BR2 hR2 hI2 hW2 b3
    go_wp2_with fail
    generalize hww : w2.alloc (.cells #[.string s, .int .i64 wd, .slice Au es.length cu] 28) = w3 at *
    have hs3 : w3.heap.size = w2.heap.size + 1 := by rw [← hww]; simp
    clear hww
    generalize hOO : w2.heap.size = O at *
    clear hOO
    have d0 := BG3.cell 0
    have d1 := BG3.cell 1
    have d2 := BG3.cell 2
    simp only [List.getElem?_toArray, List.getElem?_cons_zero, List.getElem?_cons_succ] at d0 d1 d2
    cases hf : rowFit wd row with
    | false =>
      have HT := Lib.hid (show plB s wd rows row = false by unfold plB; rw [hf]; simp)
      have HF := Lib.hid hf
      have o0 := BO3.cell 0
      have o1 := BO3.cell 1
      have o2 := BO3.cell 2
      have r0 := BR3.cell 0
      have r1 := BR3.cell 1
      have r2 := BR3.cell 2
      have fr0 := BR3.frozen 0
      have fr1 := BR3.frozen 1
      have fr2 := BR3.frozen 2
      simp only [List.getElem?_toArray, List.getElem?_cons_zero, List.getElem?_cons_succ] at o0 o1 o2 r0 r1 r2
      clear hf
      go_quiet (first | (go_at_call 66; exact Calls.quiet_of_same ((l4Row_no A' c' row wd _ w3.heap.size (hI3.drewN _) hr HF.out).mono fun _ _ h => ⟨h.1, h.2.symm⟩)))
      go_wp2
      refine bodyPost_ret (v := .tuple #[.agg #[.string s, .int .i64 wd, .slice Au es.length cu], .bool false]) (by simp [results, Try.f29, go_sem, *]) rfl ?_
      rw [HT.out, HTT.out]
      obtain ⟨k1, k2⟩ := ans_end (lo := w1.heap.size) (s := s) (wd := wd) (a0 := .string s) (a1 := .int .i64 wd) HGG.out (hO3.drewN nq) (by omega) HE2.out (bel_drewN hW3 nq)
      exact ⟨_, rfl, k1, k2⟩
    | true =>
      have HF := Lib.hid hf
      have hpr := fit_pos hf HW4.out
      obtain ⟨br, oo, rfl, hbr, cr⟩ := hI3.first hpr
      have hGl : G < w3.heap.size := BG3.lt
      have HX := Lib.hid (And.intro (And.intro d0 (And.intro d1 d2)) cr)
      clear hf
      by_cases hfi : idxK rows (ky row) < rows.length
      · have HT := Lib.hid (show plB s wd rows row = false by unfold plB; rw [decide_eq_false (p := ¬ idxK rows (ky row) < rows.length) (fun h => h hfi)]; simp)
        obtain ⟨i, hi⟩ : ∃ i, idxK rows (ky row) = i := ⟨_, rfl⟩
        have HFi := Lib.hid (show findK rows (ky row) = (i : Int) by unfold findK; rw [if_pos hfi, hi])
        have HF2 := Lib.hid (show ∀ W, Rws W W.heap.size A rows → Calls Try.prog 67 #[.agg #[.string s, .int .i64 wd, .slice A rows.length c], .int .i64 (ky row)] W fun e w' => e = .returned (.int .i64 (i : Int)) ∧ Below W.heap.size W w' from fun W h => by rw [← HFi.out]; exact l4Find_any s wd A c rows (ky row) W h hl HP.out)
        clear hfi hi
        obtain ⟨q, hq⟩ : ∃ q : Int, q = (i : Int) := ⟨_, rfl⟩
        have hq0 : (0 : Int) ≤ q := by omega
        have hdq : decide ((0 : Int) ≤ q) = true := decide_eq_true hq0
        rw [← hq] at HF2
        clear hq HFi
        first
        | go_region_law (first | (go_simp; go_at_call 66; refine (l4Row_yes (some ⟨br, oo, none⟩) c' row wd _ w3.heap.size (by exact hI3) hr HF.out).mono ?_; rintro e w' ⟨rfl, rfl⟩) | (go_simp; go_at_call 67; refine (HF2.out _ (by exact hR3)).mono ?_; rintro e w4 ⟨rfl, hb4⟩; have hk4 : Below w3.heap.size w3 w4 := (bel_drewN (Below.refl _ _) 1).trans hb4))
        | fail
        all_goals
          have BO4 := BO3.below hk4 (by omega)
          have BR4 := BR3.below hk4 (by omega)
          have hO4 := hO3.on hk4
          have hW4 : Below G w w4 := hW3.trans (hk4.mono (by omega))
          have o0 := BO4.cell 0
          have o1 := BO4.cell 1
          have o2 := BO4.cell 2
          have r0 := BR4.cell 0
          have r1 := BR4.cell 1
          have r2 := BR4.cell 2
          have fr0 := BR4.frozen 0
          have fr1 := BR4.frozen 1
          have fr2 := BR4.frozen 2
          simp only [List.getElem?_toArray, List.getElem?_cons_zero, List.getElem?_cons_succ] at o0 o1 o2 r0 r1 r2
          go_wp2
          refine bodyPost_ret (v := .tuple #[.agg #[.string s, .int .i64 wd, .slice Au es.length cu], .bool false]) (by simp [results, Try.f29, go_sem, *]) rfl ?_
          rw [HT.out, HTT.out]
          obtain ⟨k1, k2⟩ := ans_end (lo := w1.heap.size) (s := s) (wd := wd) (a0 := .string s) (a1 := .int .i64 wd) HGG.out hO4 (by omega) HE2.out hW4
          exact ⟨_, rfl, k1, k2⟩
      · have HFi := Lib.hid (show findK rows (ky row) = -1 by unfold findK; rw [if_neg hfi])
        have HF2 := Lib.hid (show ∀ W, Rws W W.heap.size A rows → Calls Try.prog 67 #[.agg #[.string s, .int .i64 wd, .slice A rows.length c], .int .i64 (ky row)] W fun e w' => e = .returned (.int .i64 (-1)) ∧ Below W.heap.size W w' from fun W h => by rw [← HFi.out]; exact l4Find_any s wd A c rows (ky row) W h hl HP.out)
        have HNF := Lib.hid hfi
        clear hfi HFi
        by_cases h30 : rows.length = 30
        · have HT := Lib.hid (show plB s wd rows row = false by unfold plB; rw [decide_eq_false (p := rows.length ≠ 30) (fun h => h h30), Bool.and_false])
          have hz : ((rows.length : Int) == 30) = true := beq_iff_eq.2 (by omega)
          clear h30
          go_region_held3 (fun w' => (w'.cell? ⟨G, 0, none⟩ = some (.string s) ∧ w'.cell? ⟨G, 1, none⟩ = some (.int .i64 wd) ∧ w'.cell? ⟨G, 2, none⟩ = some (.slice A rows.length c)) ∧ w'.cell? ⟨br, oo, none⟩ = some (.int .i64 (ky row)))
            (first | go_keep | exact ⟨⟨(hk4.cell hGl).trans HX.out.1.1, (hk4.cell hGl).trans HX.out.1.2.1, (hk4.cell hGl).trans HX.out.1.2.2⟩, (hk4.cell hbr).trans HX.out.2⟩ | exact HX.out)
            (first | (go_at_call 66; refine (l4Row_yes (some ⟨br, oo, none⟩) c' row wd _ w3.heap.size (by exact hI3) hr HF.out).mono ?_; rintro e w' ⟨rfl, rfl⟩) | (go_at_call 67; refine (HF2.out _ (by exact hR3)).mono ?_; rintro e w4 ⟨rfl, hb4⟩; have hk4 : Below w3.heap.size w3 w4 := (bel_drewN (Below.refl _ _) 1).trans hb4))
          have BO4 := BO3.below hk4 (by omega)
          have BR4 := BR3.below hk4 (by omega)
          have hO4 := hO3.on hk4
          have hW4 : Below G w w4 := hW3.trans (hk4.mono (by omega))
          have o0 := BO4.cell 0
          have o1 := BO4.cell 1
          have o2 := BO4.cell 2
          have r0 := BR4.cell 0
          have r1 := BR4.cell 1
          have r2 := BR4.cell 2
          have fr0 := BR4.frozen 0
          have fr1 := BR4.frozen 1
          have fr2 := BR4.frozen 2
          simp only [List.getElem?_toArray, List.getElem?_cons_zero, List.getElem?_cons_succ] at o0 o1 o2 r0 r1 r2
          go_wp2
          refine bodyPost_ret (v := .tuple #[.agg #[.string s, .int .i64 wd, .slice Au es.length cu], .bool false]) (by simp [results, Try.f29, go_sem, *]) rfl ?_
          rw [HT.out, HTT.out]
          obtain ⟨k1, k2⟩ := ans_end (lo := w1.heap.size) (s := s) (wd := wd) (a0 := .string s) (a1 := .int .i64 wd) HGG.out hO4 (by omega) HE2.out hW4
          exact ⟨_, rfl, k1, k2⟩
        · have HT := Lib.hid (show plB s wd rows row = true by unfold plB; rw [HTT.out, HF.out, decide_eq_true HNF.out, decide_eq_true h30]; rfl)
          have hz : ((rows.length : Int) == 30) = false := beq_eq_false_iff_ne.2 (by omega)
          clear h30
          go_region_held3 (fun w' => (w'.cell? ⟨G, 0, none⟩ = some (.string s) ∧ w'.cell? ⟨G, 1, none⟩ = some (.int .i64 wd) ∧ w'.cell? ⟨G, 2, none⟩ = some (.slice A rows.length c)) ∧ w'.cell? ⟨br, oo, none⟩ = some (.int .i64 (ky row)))
            (first | go_keep | exact ⟨⟨(hk4.cell hGl).trans HX.out.1.1, (hk4.cell hGl).trans HX.out.1.2.1, (hk4.cell hGl).trans HX.out.1.2.2⟩, (hk4.cell hbr).trans HX.out.2⟩ | exact HX.out)
            (first | (go_at_call 66; refine (l4Row_yes (some ⟨br, oo, none⟩) c' row wd _ w3.heap.size (by exact hI3) hr HF.out).mono ?_; rintro e w' ⟨rfl, rfl⟩) | (go_at_call 67; refine (HF2.out _ (by exact hR3)).mono ?_; rintro e w4 ⟨rfl, hb4⟩; have hk4 : Below w3.heap.size w3 w4 := (bel_drewN (Below.refl _ _) 1).trans hb4))
          have BO4 := BO3.below hk4 (by omega)
          have BR4 := BR3.below hk4 (by omega)
          have hO4 := hO3.on hk4
          have hW4 : Below G w w4 := hW3.trans (hk4.mono (by omega))
          have BG4 := BG3.below hk4 hGl
          have hR4 := hR3.on hk4
          have hI4 := hI3.on hk4
          have hbr4 : br < w4.heap.size := Nat.lt_of_lt_of_le hbr hk4.size
          have cr4 : w4.cell? ⟨br, oo, none⟩ = some (.int .i64 (ky row)) := (hk4.cell hbr).trans HX.out.2
          have hs4 : O + 1 ≤ w4.heap.size := by have := hk4.size; omega
          have g2 := BG4.cell 2
          simp only [List.getElem?_toArray, List.getElem?_cons_zero, List.getElem?_cons_succ] at g2
          clear d0 d1 d2 BO3 BG3 BR3 hO3 hR3 hI3 hW3 hs3 HX hGl cr hk4 hb4 hbr
          go_wp2
          go_loopw [7] (fun i wr => ∃ k : Nat, k ≤ rows.length ∧ i = .int .i64 k ∧ plcK rows (ky row) = k + plcK (rows.drop k) (ky row) ∧ ∃ n, wr = w4.drewN n) (fun i _ => rows.length - (intOf i).toNat)
          case atStart => exact ⟨0, Nat.zero_le _, rfl, by simp, 0, rfl⟩
          case round =>
            obtain ⟨k, hk, rfl, hp, hWn⟩ := hrel
            have HPk := Lib.hid hp
            have HWn := Lib.hid hWn
            have g2r : wr.cell? ⟨G, 2, none⟩ = some (.slice A rows.length c) := by obtain ⟨n, rfl⟩ := hWn; exact g2
            have crr : wr.cell? ⟨br, oo, none⟩ = some (.int .i64 (ky row)) := by obtain ⟨n, rfl⟩ := hWn; exact cr4
            have hRr : Rws wr wr.heap.size A rows := by obtain ⟨n, rfl⟩ := hWn; exact hR4
            clear hp hWn
            by_cases hlt : k < rows.length
            · obtain ⟨b, off, Ar, cap, rfl, hb, h1, h2, h3⟩ := hRr.here1 hlt
              obtain ⟨b1, o1, rfl, _, c1⟩ := h2.first (HP.out k hlt)
              have hpos := HP.out k hlt
              by_cases hls : ky (rr rows k) < ky row
              · have HS := Lib.hid (show plcK rows (ky row) = (k + 1 : Nat) + plcK (rows.drop (k + 1)) (ky row) by rw [HPk.out, plc_yes hlt hls]; omega)
                go_wp2_with fail
                go_quiet (fail)
                go_wp2
                go_roundw
                case rel => exact ⟨k + 1, by omega, by go_num, HS.out, drew_more HWn.out _⟩
                case measure => simp [intOf]; omega
              · have HK := Lib.hid (show plcK rows (ky row) = k by rw [HPk.out, plc_no hlt hls]; rfl)
                have hdl : decide (ky (rr rows k) < ky row) = false := decide_eq_false hls
                go_wp2_with fail
                go_quiet (fail)
                have hw5 : ∃ n, wr.drewN nq = w4.drewN n := drew_more HWn.out _
                have hkE : k ≤ es.length := by rw [HEL.out]; exact hk
                have hes30 : es.length ≤ 30 := by rw [HEL.out]; exact hlen
                have HPL := Lib.hid (show placedL rows row = rows.take k ++ row :: rows.drop k by unfold placedL; rw [HK.out])
                generalize wr.drewN nq = w5 at *
                have BO5 : Blk w5 O 28 #[.string s, .int .i64 wd, .slice Au es.length cu] := by obtain ⟨n, rfl⟩ := hw5; exact BO4
                have BR5 : Blk w5 (G + 1) 28 #[.string ⟨#[]⟩, .int .i64 0, .slice none 0 0] := by obtain ⟨n, rfl⟩ := hw5; exact BR4
                have hO5 : ORows w5 w1.heap.size (.slice Au es.length cu) es := by obtain ⟨n, rfl⟩ := hw5; exact hO4
                have hI5 : Ints w5 w5.heap.size (some ⟨br, oo, none⟩) row := by obtain ⟨n, rfl⟩ := hw5; exact hI4
                have hW5 : Below G w w5 := by obtain ⟨n, rfl⟩ := hw5; exact bel_drewN hW4 n
                have hs5 : O + 1 ≤ w5.heap.size := by obtain ⟨n, rfl⟩ := hw5; exact hs4
                clear hw5 HWn BO4 BR4 hO4 hI4 hW4 hs4 BG4 hR4 cr4 g2 g2r crr hRr HPk HK
                obtain ⟨e5, hown5, hEsz, he5⟩ : ∃ W, (W : World).ownsRow w5.heap.size 45 1 (.slice (some ⟨w5.heap.size, 0, none⟩) 0 0) 0 [] ∧ W = w5.alloc (.cells #[] 45) ∧ W.heap.size = w5.heap.size + 1 := ⟨_, World.ownsRow_made w5 #[] 0 (Nat.le_refl _) (Nat.zero_le _) rfl, rfl, by simp⟩
                rw [hEsz] at hown5
                clear hEsz he5
                have o2 := BO5.cell 2
                simp only [List.getElem?_toArray, List.getElem?_cons_zero, List.getElem?_cons_succ] at o2
                have o2a : (w5.alloc (.cells #[] 45)).cell? ⟨O, 2, none⟩ = some (.slice Au es.length cu) := (World.cell?_alloc_lt _ _ _ (by show O < w5.heap.size; omega)).trans o2
                rcases hO5.cases with ⟨hA0, hc0, hes0⟩ | ⟨g, hA0, hOR⟩
                · subst hes0
                  exact absurd hlt (by have := HEL.out; simp at this; omega)
                · subst hA0
                  obtain ⟨cur, _, _, hcap, _⟩ := hOR.parts
                  have hgl := hOR.lt
                  have hgO : g < O := hin.1 g rfl
                  have hki0 : (0 : Int) ≤ (k : Int) := Int.natCast_nonneg _
                  have hki1 : (k : Int) ≤ (es.length : Int) := by omega
                  have hki2 : (k : Int) ≤ (cu : Int) := by omega
                  have hEk : es.length - k + k = es.length := by omega
                  by_cases hck : cu = k
                  · have hck' : k = cu := hck.symm
                    clear hck hki2
                    subst hck'
                    clear hcap
                    have hRk0 := OR.readsFrom hOR (k := k) hkE
                    rw [if_pos rfl] at hRk0
                    have hRk1 := (hRk0.more (B' := w5.heap.size) (by omega)).alloc (Nat.le_refl _) (.cells #[] 45)
                    go_wp2_with (at_builtin; refine wpList_append_any _ rfl (.tmp 55) (.tmp 59) 22 rfl w5.heap.size 45 i0 _ 1 24 Try.underlying22 hi0 hz0 hz1 hz2 rfl (by decide) _ _ _ rfl hown5 _ (some ⟨g, 0, none⟩) (es.length - k) _ (rowCs (es.drop k)) rfl hRk1 (rowCs_one _) (by simp only [maxLen]; omega) (by omega) (by simp) ?_; intro v8 w8 hown8 hg8 hat8)
                    simp only [Nat.zero_add, List.nil_append] at hown8
                    have hb8 : Below w5.heap.size w5 w8 := ((Below.refl w5.heap.size w5).alloc (Nat.le_refl _) _).grown hg8 (by simp) (fun r e => by have : w5.heap.size = r := Option.some.inj e; omega)
                    have hO8 : OR w8 w1.heap.size g k es := ORows.on hOR hb8
                    have BO8 := BO5.below hb8 (by omega)
                    have BR8 := BR5.below hb8 (by omega)
                    have hI8 := hI5.on hb8
                    have hW8 : Below G w w8 := hW5.trans (hb8.mono (by omega))
                    have hs8 : w5.heap.size ≤ w8.heap.size := hb8.size
                    obtain ⟨A8, c8, hv8⟩ := own_form hown8
                    subst hv8
                    have p0 := BO8.cell 2
                    simp only [List.getElem?_toArray, List.getElem?_cons_zero, List.getElem?_cons_succ] at p0
                    have hnO : some O ≠ some g := fun e => by injection e with e; omega
                    clear hg8 hat8 hRk0 hRk1 hown5 hOR hI5 hW5 hb8 BO5 BR5 hO5 o2 o2a
                    go_region_law (first
                      | (refine step_append_any _ (by rfl) (.tmp 68) (.tmp 69) 22 (by rfl) w1.heap.size 45 i0 _ 1 24 Try.underlying22 hi0 hz0 hz1 hz2 rfl (by decide) _ _ _ (by rfl) hownA _ A8 (es.length - k) c8 (rowCs (es.drop k)) (by rfl) (Reads.of_own hown8A) (rowCs_one _) (by simp only [maxLen]; omega) (by omega) (by omega) ?_; intro v6 w6 hown6 hg6 hat6; obtain ⟨Av, cv, hv6⟩ := own_form hown6; subst hv6; have B6 := BOA.grown hg6 hneA; have s2 := B6.cell 2; have f2 := B6.frozen 2; simp only [List.getElem?_toArray, List.getElem?_cons_zero, List.getElem?_cons_succ] at s2)
                      | (refine step_append_any _ (by rfl) (.tmp 64) (.tmp 67) 22 (by rfl) w1.heap.size 45 i0 _ 1 24 Try.underlying22 hi0 hz0 hz1 hz2 rfl (by decide) _ _ (rowCs (es.take k)) (by rfl) ((OR.take hO9 hkE).alloc _) _ (some ⟨w9.heap.size, 0, none⟩) 1 1 [.slice A9 row.length cap9] (by rfl) (reads_newT w9 _ _) (by simp [Value.oneCell']) (by simp only [maxLen]; omega) (by omega) (by rw [World.size_alloc]; omega) ?_; intro va wa hownA hgA hatA; have hsA : w9.heap.size + 1 ≤ wa.heap.size := (by have := hgA.size; rw [World.size_alloc] at this; exact this); have hown8A := (hown89.alloc (.cells #[.slice A9 row.length cap9] 45)).kept hgA (.inr (fun e => by have h1 := (hown89.lt g e).1; omega)); have BOA := (BO9.alloc (.cells #[.slice A9 row.length cap9] 45)).grown hgA hnO; have hneA : some O ≠ va.ownBlock := (fun e => by { rcases hatA with h | h; { rw [h] at e; exact hnO e }; { rw [h, World.size_alloc] at e; injection e with e; omega } }))
                      | (go_simp; refine (l1Row_row (some ⟨br, oo, none⟩) c' row _ (by exact hI8) hr).mono ?_; rintro e w9 ⟨A9, cap9, g9, rfl, hg9, hR9, hb9⟩; have hs9 : w8.heap.size ≤ w9.heap.size := hb9.size; have hO9 : OR w9 w1.heap.size g k es := ORows.on (ORows.drewN hO8 1) hb9; have hown89 : w9.ownsRow w5.heap.size 45 1 (.slice A8 (es.length - k) c8) (es.length - k) (rowCs (es.drop k)) := own_keepB hown8 (fun r e => hb9.block r (hown8.lt r e).2); have BO9 := (BO8.drewN 1).below hb9 (by show O < w8.heap.size; omega); have p2 := BO9.cell 2; simp only [List.getElem?_toArray, List.getElem?_cons_zero, List.getElem?_cons_succ] at p2; have p3 : (w9.alloc (.cells #[.slice A9 row.length cap9] 45)).cell? ⟨O, 2, none⟩ = some (.slice (some ⟨g, 0, none⟩) es.length k) := (World.cell?_alloc_lt _ _ _ (by show O < w9.heap.size; omega)).trans p2))
                    all_goals
                      have hin9 : ∀ e ∈ es, 0 < e.r.length → e.g < w8.heap.size := fun e he hn => by have := hin.2 e he hn; omega
                      obtain ⟨g6, cap6, hv6, hO6⟩ := OR.insert hO9 hkE hR9 hg9 (show g < w8.heap.size by omega) hin9 hgA hatA hg6 hat6 hown6
                      have hb89 : Below G w w9 := (bel_drewN hW8 1).trans (hb9.mono (by show G ≤ w8.heap.size; omega))
                      have hWA : Below G w wa := (hb89.alloc (by omega) _).grown hgA (by rw [World.size_alloc]; omega) (fun r e => by have : g = r := Option.some.inj e; omega)
                      have hW6 : Below G w w6 := hWA.grown hg6 (by omega) (fun r e => by have := (hownA.lt r e).1; omega)
                      have BR9 := (BR8.drewN 1).below hb9 (by show G + 1 < w8.heap.size; omega)
                      have hneR : some (G + 1) ≠ some g := fun e => by injection e with e; omega
                      have BRA := (BR9.alloc (.cells #[.slice A9 row.length cap9] 45)).grown hgA hneR
                      have hneRA : some (G + 1) ≠ va.ownBlock := fun e => by
                        rcases hatA with h | h
                        · rw [h] at e; exact hneR e
                        · rw [h, World.size_alloc] at e; injection e with e; omega
                      have BR6 := BRA.grown hg6 hneRA
                      have hv6O : (Value.slice Av (k + 1 + (es.length - k)) cv).ownBlock ≠ some O := fun e => by
                        rcases hat6 with h | h
                        · rw [h] at e; exact hneA e.symm
                        · rw [h] at e; injection e with e; omega
                      have HV6 := Lib.hid hv6
                      have hO6' : ORows w6 w1.heap.size (.slice Av (k + 1 + (es.length - k)) cv) (es.take k ++ (⟨row, 0, A9, cap9, g9⟩ : Ent) :: es.drop k) := by rw [HV6.out]; exact hO6
                      have hO7 := hO6'.far ⟨O, 2, none⟩ (.slice Av (k + 1 + (es.length - k)) cv) hv6O (fun e he hn => by
                        show e.g ≠ O
                        rcases List.mem_append.1 he with he | he
                        · have := hin.2 e (List.mem_of_mem_take he) hn; omega
                        · rcases List.mem_cons.1 he with he | he
                          · rw [he]; show g9 ≠ O; have h9 : w8.heap.size ≤ g9 := hg9; omega
                          · have := hin.2 e (List.mem_of_mem_drop he) hn; omega)
                      have B7 := B6.set_ 2 (.slice Av (k + 1 + (es.length - k)) cv)
                      have BR7 := BR6.far (p := ⟨O, 2, none⟩) (by show G + 1 ≠ O; omega) (.slice Av (k + 1 + (es.length - k)) cv)
                      have hW7 := hW6.setCell (p := ⟨O, 2, none⟩) (by show G ≤ O; omega) (.slice Av (k + 1 + (es.length - k)) cv)
                      have HP7 := Lib.hid (show (es.take k ++ (⟨row, 0, A9, cap9, g9⟩ : Ent) :: es.drop k).map Ent.r = plR rows row (plB s wd rows row) by
                        unfold plR
                        rw [HT.out, if_pos rfl, HPL.out, List.map_append, List.map_cons, List.map_take, List.map_drop, HE2.out])
                      clear hv6 hO6' hO6 HV6 hgA hatA hg6 hat6 hown6 hownA hO9 hR9 hWA hown8A hown89 hb9 hO8 hown8 hI8 hW8 hb89 hin9 hg9 hW6 B6 BR6 BRA BR9 BOA BO9 BO8 BR8 s2 f2 p0 p2 p3 hv6O hneA hneRA hneR
                      generalize w6.setCell ⟨O, 2, none⟩ (.slice Av (k + 1 + (es.length - k)) cv) = w7 at *
                      have o0 := B7.cell 0
                      have o1 := B7.cell 1
                      have o2 := B7.cell 2
                      have r0 := BR7.cell 0
                      have r1 := BR7.cell 1
                      have r2 := BR7.cell 2
                      have fr0 := BR7.frozen 0
                      have fr1 := BR7.frozen 1
                      have fr2 := BR7.frozen 2
                      simp only [List.getElem?_toArray, List.getElem?_cons_zero, List.getElem?_cons_succ, List.setIfInBounds_toArray, List.set_cons_succ, List.set_cons_zero] at o0 o1 o2 r0 r1 r2
                      generalize k + 1 + (es.length - k) = nn at *
                      go_wp2
                      refine bodyPost_ret (v := .tuple #[.agg #[.string s, .int .i64 wd, .slice Av nn cv], .bool true]) (by simp [results, Try.f29, go_sem, *]) rfl ?_
                      rw [HTT.out]
                      obtain ⟨k1, k2⟩ := ans_end (lo := w1.heap.size) (s := s) (wd := wd) (a0 := .string s) (a1 := .int .i64 wd) HGG.out hO7 (by omega) HP7.out hW7
                      rw [HT.out] at k1 ⊢
                      exact ⟨_, rfl, k1, k2⟩
                  · have hRk0 := OR.readsFrom hOR (k := k) hkE
                    rw [if_neg hck] at hRk0
                    have hRk1 := (hRk0.more (B' := w5.heap.size) (by omega)).alloc (Nat.le_refl _) (.cells #[] 45)
                    go_wp2_with (at_builtin; refine wpList_append_any _ rfl (.tmp 55) (.tmp 59) 22 rfl w5.heap.size 45 i0 _ 1 24 Try.underlying22 hi0 hz0 hz1 hz2 rfl (by decide) _ _ _ rfl hown5 _ (some ⟨g, k, none⟩) (es.length - k) _ (rowCs (es.drop k)) rfl hRk1 (rowCs_one _) (by simp only [maxLen]; omega) (by omega) (by simp) ?_; intro v8 w8 hown8 hg8 hat8)
                    simp only [Nat.zero_add, List.nil_append] at hown8
                    have hb8 : Below w5.heap.size w5 w8 := ((Below.refl w5.heap.size w5).alloc (Nat.le_refl _) _).grown hg8 (by simp) (fun r e => by have : w5.heap.size = r := Option.some.inj e; omega)
                    have hO8 : OR w8 w1.heap.size g cu es := ORows.on hOR hb8
                    have BO8 := BO5.below hb8 (by omega)
                    have BR8 := BR5.below hb8 (by omega)
                    have hI8 := hI5.on hb8
                    have hW8 : Below G w w8 := hW5.trans (hb8.mono (by omega))
                    have hs8 : w5.heap.size ≤ w8.heap.size := hb8.size
                    obtain ⟨A8, c8, hv8⟩ := own_form hown8
                    subst hv8
                    have p0 := BO8.cell 2
                    simp only [List.getElem?_toArray, List.getElem?_cons_zero, List.getElem?_cons_succ] at p0
                    have hnO : some O ≠ some g := fun e => by injection e with e; omega
                    clear hg8 hat8 hRk0 hRk1 hown5 hOR hI5 hW5 hb8 BO5 BR5 hO5 o2 o2a
                    go_region_law (first
                      | (refine step_append_any _ (by rfl) (.tmp 68) (.tmp 69) 22 (by rfl) w1.heap.size 45 i0 _ 1 24 Try.underlying22 hi0 hz0 hz1 hz2 rfl (by decide) _ _ _ (by rfl) hownA _ A8 (es.length - k) c8 (rowCs (es.drop k)) (by rfl) (Reads.of_own hown8A) (rowCs_one _) (by simp only [maxLen]; omega) (by omega) (by omega) ?_; intro v6 w6 hown6 hg6 hat6; obtain ⟨Av, cv, hv6⟩ := own_form hown6; subst hv6; have B6 := BOA.grown hg6 hneA; have s2 := B6.cell 2; have f2 := B6.frozen 2; simp only [List.getElem?_toArray, List.getElem?_cons_zero, List.getElem?_cons_succ] at s2)
                      | (refine step_append_any _ (by rfl) (.tmp 64) (.tmp 67) 22 (by rfl) w1.heap.size 45 i0 _ 1 24 Try.underlying22 hi0 hz0 hz1 hz2 rfl (by decide) _ _ (rowCs (es.take k)) (by rfl) ((OR.take hO9 hkE).alloc _) _ (some ⟨w9.heap.size, 0, none⟩) 1 1 [.slice A9 row.length cap9] (by rfl) (reads_newT w9 _ _) (by simp [Value.oneCell']) (by simp only [maxLen]; omega) (by omega) (by rw [World.size_alloc]; omega) ?_; intro va wa hownA hgA hatA; have hsA : w9.heap.size + 1 ≤ wa.heap.size := (by have := hgA.size; rw [World.size_alloc] at this; exact this); have hown8A := (hown89.alloc (.cells #[.slice A9 row.length cap9] 45)).kept hgA (.inr (fun e => by have h1 := (hown89.lt g e).1; omega)); have BOA := (BO9.alloc (.cells #[.slice A9 row.length cap9] 45)).grown hgA hnO; have hneA : some O ≠ va.ownBlock := (fun e => by { rcases hatA with h | h; { rw [h] at e; exact hnO e }; { rw [h, World.size_alloc] at e; injection e with e; omega } }))
                      | (go_simp; refine (l1Row_row (some ⟨br, oo, none⟩) c' row _ (by exact hI8) hr).mono ?_; rintro e w9 ⟨A9, cap9, g9, rfl, hg9, hR9, hb9⟩; have hs9 : w8.heap.size ≤ w9.heap.size := hb9.size; have hO9 : OR w9 w1.heap.size g cu es := ORows.on (ORows.drewN hO8 1) hb9; have hown89 : w9.ownsRow w5.heap.size 45 1 (.slice A8 (es.length - k) c8) (es.length - k) (rowCs (es.drop k)) := own_keepB hown8 (fun r e => hb9.block r (hown8.lt r e).2); have BO9 := (BO8.drewN 1).below hb9 (by show O < w8.heap.size; omega); have p2 := BO9.cell 2; simp only [List.getElem?_toArray, List.getElem?_cons_zero, List.getElem?_cons_succ] at p2; have p3 : (w9.alloc (.cells #[.slice A9 row.length cap9] 45)).cell? ⟨O, 2, none⟩ = some (.slice (some ⟨g, 0, none⟩) es.length cu) := (World.cell?_alloc_lt _ _ _ (by show O < w9.heap.size; omega)).trans p2))
                    all_goals
                      have hin9 : ∀ e ∈ es, 0 < e.r.length → e.g < w8.heap.size := fun e he hn => by have := hin.2 e he hn; omega
                      obtain ⟨g6, cap6, hv6, hO6⟩ := OR.insert hO9 hkE hR9 hg9 (show g < w8.heap.size by omega) hin9 hgA hatA hg6 hat6 hown6
                      have hb89 : Below G w w9 := (bel_drewN hW8 1).trans (hb9.mono (by show G ≤ w8.heap.size; omega))
                      have hWA : Below G w wa := (hb89.alloc (by omega) _).grown hgA (by rw [World.size_alloc]; omega) (fun r e => by have : g = r := Option.some.inj e; omega)
                      have hW6 : Below G w w6 := hWA.grown hg6 (by omega) (fun r e => by have := (hownA.lt r e).1; omega)
                      have BR9 := (BR8.drewN 1).below hb9 (by show G + 1 < w8.heap.size; omega)
                      have hneR : some (G + 1) ≠ some g := fun e => by injection e with e; omega
                      have BRA := (BR9.alloc (.cells #[.slice A9 row.length cap9] 45)).grown hgA hneR
                      have hneRA : some (G + 1) ≠ va.ownBlock := fun e => by
                        rcases hatA with h | h
                        · rw [h] at e; exact hneR e
                        · rw [h, World.size_alloc] at e; injection e with e; omega
                      have BR6 := BRA.grown hg6 hneRA
                      have hv6O : (Value.slice Av (k + 1 + (es.length - k)) cv).ownBlock ≠ some O := fun e => by
                        rcases hat6 with h | h
                        · rw [h] at e; exact hneA e.symm
                        · rw [h] at e; injection e with e; omega
                      have HV6 := Lib.hid hv6
                      have hO6' : ORows w6 w1.heap.size (.slice Av (k + 1 + (es.length - k)) cv) (es.take k ++ (⟨row, 0, A9, cap9, g9⟩ : Ent) :: es.drop k) := by rw [HV6.out]; exact hO6
                      have hO7 := hO6'.far ⟨O, 2, none⟩ (.slice Av (k + 1 + (es.length - k)) cv) hv6O (fun e he hn => by
                        show e.g ≠ O
                        rcases List.mem_append.1 he with he | he
                        · have := hin.2 e (List.mem_of_mem_take he) hn; omega
                        · rcases List.mem_cons.1 he with he | he
                          · rw [he]; show g9 ≠ O; have h9 : w8.heap.size ≤ g9 := hg9; omega
                          · have := hin.2 e (List.mem_of_mem_drop he) hn; omega)
                      have B7 := B6.set_ 2 (.slice Av (k + 1 + (es.length - k)) cv)
                      have BR7 := BR6.far (p := ⟨O, 2, none⟩) (by show G + 1 ≠ O; omega) (.slice Av (k + 1 + (es.length - k)) cv)
                      have hW7 := hW6.setCell (p := ⟨O, 2, none⟩) (by show G ≤ O; omega) (.slice Av (k + 1 + (es.length - k)) cv)
                      have HP7 := Lib.hid (show (es.take k ++ (⟨row, 0, A9, cap9, g9⟩ : Ent) :: es.drop k).map Ent.r = plR rows row (plB s wd rows row) by
                        unfold plR
                        rw [HT.out, if_pos rfl, HPL.out, List.map_append, List.map_cons, List.map_take, List.map_drop, HE2.out])
                      clear hv6 hO6' hO6 HV6 hgA hatA hg6 hat6 hown6 hownA hO9 hR9 hWA hown8A hown89 hb9 hO8 hown8 hI8 hW8 hb89 hin9 hg9 hW6 B6 BR6 BRA BR9 BOA BO9 BO8 BR8 s2 f2 p0 p2 p3 hv6O hneA hneRA hneR
                      generalize w6.setCell ⟨O, 2, none⟩ (.slice Av (k + 1 + (es.length - k)) cv) = w7 at *
                      have o0 := B7.cell 0
                      have o1 := B7.cell 1
                      have o2 := B7.cell 2
                      have r0 := BR7.cell 0
                      have r1 := BR7.cell 1
                      have r2 := BR7.cell 2
                      have fr0 := BR7.frozen 0
                      have fr1 := BR7.frozen 1
                      have fr2 := BR7.frozen 2
                      simp only [List.getElem?_toArray, List.getElem?_cons_zero, List.getElem?_cons_succ, List.setIfInBounds_toArray, List.set_cons_succ, List.set_cons_zero] at o0 o1 o2 r0 r1 r2
                      generalize k + 1 + (es.length - k) = nn at *
                      go_wp2
                      refine bodyPost_ret (v := .tuple #[.agg #[.string s, .int .i64 wd, .slice Av nn cv], .bool true]) (by simp [results, Try.f29, go_sem, *]) rfl ?_
                      rw [HTT.out]
                      obtain ⟨k1, k2⟩ := ans_end (lo := w1.heap.size) (s := s) (wd := wd) (a0 := .string s) (a1 := .int .i64 wd) HGG.out hO7 (by omega) HP7.out hW7
                      rw [HT.out] at k1 ⊢
                      exact ⟨_, rfl, k1, k2⟩
            · have hd : decide (k < rows.length) = false := by simpa using hlt
              have HK := Lib.hid (show plcK rows (ky row) = k by rw [HPk.out, plc_end hlt]; rfl)
              go_wp2_with fail
              go_quiet (fail)
              have hw5 : ∃ n, wr.drewN nq = w4.drewN n := drew_more HWn.out _
              have hkE : k ≤ es.length := by rw [HEL.out]; exact hk
              have hes30 : es.length ≤ 30 := by rw [HEL.out]; exact hlen
              have HPL := Lib.hid (show placedL rows row = rows.take k ++ row :: rows.drop k by unfold placedL; rw [HK.out])
              generalize wr.drewN nq = w5 at *
              have BO5 : Blk w5 O 28 #[.string s, .int .i64 wd, .slice Au es.length cu] := by obtain ⟨n, rfl⟩ := hw5; exact BO4
              have BR5 : Blk w5 (G + 1) 28 #[.string ⟨#[]⟩, .int .i64 0, .slice none 0 0] := by obtain ⟨n, rfl⟩ := hw5; exact BR4
              have hO5 : ORows w5 w1.heap.size (.slice Au es.length cu) es := by obtain ⟨n, rfl⟩ := hw5; exact hO4
              have hI5 : Ints w5 w5.heap.size (some ⟨br, oo, none⟩) row := by obtain ⟨n, rfl⟩ := hw5; exact hI4
              have hW5 : Below G w w5 := by obtain ⟨n, rfl⟩ := hw5; exact bel_drewN hW4 n
              have hs5 : O + 1 ≤ w5.heap.size := by obtain ⟨n, rfl⟩ := hw5; exact hs4
              clear hw5 HWn BO4 BR4 hO4 hI4 hW4 hs4 BG4 hR4 cr4 g2 g2r crr hRr HPk HK
              obtain ⟨e5, hown5, hEsz, he5⟩ : ∃ W, (W : World).ownsRow w5.heap.size 45 1 (.slice (some ⟨w5.heap.size, 0, none⟩) 0 0) 0 [] ∧ W = w5.alloc (.cells #[] 45) ∧ W.heap.size = w5.heap.size + 1 := ⟨_, World.ownsRow_made w5 #[] 0 (Nat.le_refl _) (Nat.zero_le _) rfl, rfl, by simp⟩
              rw [hEsz] at hown5
              clear hEsz he5
              have o2 := BO5.cell 2
              simp only [List.getElem?_toArray, List.getElem?_cons_zero, List.getElem?_cons_succ] at o2
              have o2a : (w5.alloc (.cells #[] 45)).cell? ⟨O, 2, none⟩ = some (.slice Au es.length cu) := (World.cell?_alloc_lt _ _ _ (by show O < w5.heap.size; omega)).trans o2
              rcases hO5.cases with ⟨hA0, hc0, hes0⟩ | ⟨g, hA0, hOR⟩
              · subst hA0 hc0 hes0
                obtain rfl : k = 0 := by simpa using hkE
                simp only [List.length_nil] at o2 o2a
                go_wp2_with (at_builtin; refine wpList_append_any _ rfl (.tmp 55) (.tmp 59) 22 rfl w5.heap.size 45 i0 _ 1 24 Try.underlying22 hi0 hz0 hz1 hz2 rfl (by decide) _ _ _ rfl hown5 0 none 0 _ [] rfl Reads.none_ (by simp) (by simp [maxLen]) (by omega) (by simp) ?_; intro v8 w8 hown8 hg8 hat8)
                simp only [Nat.zero_add, List.nil_append] at hown8
                have hb8 : Below w5.heap.size w5 w8 := ((Below.refl w5.heap.size w5).alloc (Nat.le_refl _) _).grown hg8 (by simp) (fun r e => by have : w5.heap.size = r := Option.some.inj e; omega)
                have BO8 := BO5.below hb8 (by omega)
                have BR8 := BR5.below hb8 (by omega)
                have hI8 := hI5.on hb8
                have hW8 : Below G w w8 := hW5.trans (hb8.mono (by omega))
                have hs8 : w5.heap.size ≤ w8.heap.size := hb8.size
                obtain ⟨A8, c8, hv8⟩ := own_form hown8
                subst hv8
                have p0 := BO8.cell 2
                simp only [List.getElem?_toArray, List.getElem?_cons_zero, List.getElem?_cons_succ, List.length_nil] at p0
                clear hg8 hat8 hown5 hI5 hW5 hb8 BO5 BR5 hO5 o2 o2a hown8
                go_region_law (first
                  | (refine step_append_any _ (by rfl) (.tmp 68) (.tmp 69) 22 (by rfl) w1.heap.size 45 i0 _ 1 24 Try.underlying22 hi0 hz0 hz1 hz2 rfl (by decide) _ _ _ (by rfl) hownA 0 A8 0 c8 [] (by rfl) Reads.none_ (by simp) (by simp [maxLen]) (by omega) (by omega) ?_; intro v6 w6 hown6 hg6 hat6; obtain ⟨Av, cv, hv6⟩ := own_form hown6; subst hv6; have B6 := BOA.grown hg6 hneA; have s2 := B6.cell 2; have f2 := B6.frozen 2; simp only [List.getElem?_toArray, List.getElem?_cons_zero, List.getElem?_cons_succ] at s2)
                  | (refine step_append_any _ (by rfl) (.tmp 64) (.tmp 67) 22 (by rfl) w1.heap.size 45 i0 _ 1 24 Try.underlying22 hi0 hz0 hz1 hz2 rfl (by decide) _ 0 [] (by rfl) ((World.ownsRow_nil _ _ _ _).alloc _) _ (some ⟨w9.heap.size, 0, none⟩) 1 1 [.slice A9 row.length cap9] (by rfl) (reads_newT w9 _ _) (by simp [Value.oneCell']) (by simp [maxLen]) (by omega) (by rw [World.size_alloc]; omega) ?_; intro va wa hownA hgA hatA; have hsA : w9.heap.size + 1 ≤ wa.heap.size := (by have := hgA.size; rw [World.size_alloc] at this; exact this); have BOA := (BO9.alloc (.cells #[.slice A9 row.length cap9] 45)).grown hgA (by intro e; cases e); have hneA : some O ≠ va.ownBlock := (fun e => by { rcases hatA with h | h; { rw [h] at e; cases e }; { rw [h, World.size_alloc] at e; injection e with e; omega } }))
                  | (go_simp; refine (l1Row_row (some ⟨br, oo, none⟩) c' row _ (by exact hI8) hr).mono ?_; rintro e w9 ⟨A9, cap9, g9, rfl, hg9, hR9, hb9⟩; have hs9 : w8.heap.size ≤ w9.heap.size := hb9.size; have BO9 := (BO8.drewN 1).below hb9 (by show O < w8.heap.size; omega); have p2 := BO9.cell 2; simp only [List.getElem?_toArray, List.getElem?_cons_zero, List.getElem?_cons_succ, List.length_nil] at p2; have p3 : (w9.alloc (.cells #[.slice A9 row.length cap9] 45)).cell? ⟨O, 2, none⟩ = some (.slice none 0 0) := (World.cell?_alloc_lt _ _ _ (by show O < w9.heap.size; omega)).trans p2))
                all_goals
                  have hOa := ORows.pushRow (ORows.none_ w8 w1.heap.size) (wd := w8.drew) rfl (by omega) hg9 hR9 (ORows.none_ w9 w1.heap.size) hownA hgA hatA
                  have hO6 := ORows.regrow hOa (List.Sublist.refl _) hg6 (by simpa [rowCs] using hown6) hat6
                  have hb89 : Below G w w9 := (bel_drewN hW8 1).trans (hb9.mono (by show G ≤ w8.heap.size; omega))
                  have hWA : Below G w wa := (hb89.alloc (by omega) _).grown hgA (by rw [World.size_alloc]; omega) (fun r e => by cases e)
                  have hW6 : Below G w w6 := hWA.grown hg6 (by omega) (fun r e => by have := (hownA.lt r e).1; omega)
                  have BR9 := (BR8.drewN 1).below hb9 (by show G + 1 < w8.heap.size; omega)
                  have BRA := (BR9.alloc (.cells #[.slice A9 row.length cap9] 45)).grown hgA (by intro e; cases e)
                  have hneRA : some (G + 1) ≠ va.ownBlock := fun e => by
                    rcases hatA with h | h
                    · rw [h] at e; cases e
                    · rw [h, World.size_alloc] at e; injection e with e; omega
                  have BR6 := BRA.grown hg6 hneRA
                  have hv6O : (Value.slice Av (0 + 1 + 0) cv).ownBlock ≠ some O := fun e => by
                    rcases hat6 with h | h
                    · rw [h] at e; exact hneA e.symm
                    · rw [h] at e; injection e with e; omega
                  have hO7 := hO6.far ⟨O, 2, none⟩ (.slice Av (0 + 1 + 0) cv) hv6O (fun e he hn => by
                    show e.g ≠ O
                    have he' : e = ⟨row, 0, A9, cap9, g9⟩ := by simpa using he
                    rw [he']; show g9 ≠ O; have h9 : w8.heap.size ≤ g9 := hg9; omega)
                  have B7 := B6.set_ 2 (.slice Av (0 + 1 + 0) cv)
                  have BR7 := BR6.far (p := ⟨O, 2, none⟩) (by show G + 1 ≠ O; omega) (.slice Av (0 + 1 + 0) cv)
                  have hW7 := hW6.setCell (p := ⟨O, 2, none⟩) (by show G ≤ O; omega) (.slice Av (0 + 1 + 0) cv)
                  have HP7 := Lib.hid (show ([] ++ [(⟨row, 0, A9, cap9, g9⟩ : Ent)]).map Ent.r = plR rows row (plB s wd rows row) by
                    have hr0 : rows = [] := HE2.out.symm
                    unfold plR
                    rw [HT.out, if_pos rfl, HPL.out, hr0]; rfl)
                  clear hO6 hOa hgA hatA hg6 hat6 hown6 hownA hR9 hWA hb9 hI8 hW8 hb89 hg9 hW6 B6 BR6 BRA BR9 BOA BO9 BO8 BR8 s2 f2 p0 p2 p3 hv6O hneA hneRA
                  simp only [Nat.zero_add, Nat.add_zero] at hO7 B7 BR7 hW7
                  generalize w6.setCell ⟨O, 2, none⟩ (.slice Av 1 cv) = w7 at *
                  have o0 := B7.cell 0
                  have o1 := B7.cell 1
                  have o2 := B7.cell 2
                  have r0 := BR7.cell 0
                  have r1 := BR7.cell 1
                  have r2 := BR7.cell 2
                  have fr0 := BR7.frozen 0
                  have fr1 := BR7.frozen 1
                  have fr2 := BR7.frozen 2
                  simp only [List.getElem?_toArray, List.getElem?_cons_zero, List.getElem?_cons_succ, List.setIfInBounds_toArray, List.set_cons_succ, List.set_cons_zero] at o0 o1 o2 r0 r1 r2
                  go_wp2
                  refine bodyPost_ret (v := .tuple #[.agg #[.string s, .int .i64 wd, .slice Av 1 cv], .bool true]) (by simp [results, Try.f29, go_sem, *]) rfl ?_
                  rw [HTT.out]
                  obtain ⟨k1, k2⟩ := ans_end (lo := w1.heap.size) (s := s) (wd := wd) (a0 := .string s) (a1 := .int .i64 wd) HGG.out hO7 (by omega) HP7.out hW7
                  rw [HT.out] at k1 ⊢
                  exact ⟨_, rfl, k1, k2⟩
              · subst hA0
                obtain ⟨cur, _, _, hcap, _⟩ := hOR.parts
                have hgl := hOR.lt
                have hgO : g < O := hin.1 g rfl
                have hki0 : (0 : Int) ≤ (k : Int) := Int.natCast_nonneg _
                have hki1 : (k : Int) ≤ (es.length : Int) := by omega
                have hki2 : (k : Int) ≤ (cu : Int) := by omega
                have hEk : es.length - k + k = es.length := by omega
                by_cases hck : cu = k
                · have hck' : k = cu := hck.symm
                  clear hck hki2
                  subst hck'
                  clear hcap
                  have hRk0 := OR.readsFrom hOR (k := k) hkE
                  rw [if_pos rfl] at hRk0
                  have hRk1 := (hRk0.more (B' := w5.heap.size) (by omega)).alloc (Nat.le_refl _) (.cells #[] 45)
                  go_wp2_with (at_builtin; refine wpList_append_any _ rfl (.tmp 55) (.tmp 59) 22 rfl w5.heap.size 45 i0 _ 1 24 Try.underlying22 hi0 hz0 hz1 hz2 rfl (by decide) _ _ _ rfl hown5 _ (some ⟨g, 0, none⟩) (es.length - k) _ (rowCs (es.drop k)) rfl hRk1 (rowCs_one _) (by simp only [maxLen]; omega) (by omega) (by simp) ?_; intro v8 w8 hown8 hg8 hat8)
                  simp only [Nat.zero_add, List.nil_append] at hown8
                  have hb8 : Below w5.heap.size w5 w8 := ((Below.refl w5.heap.size w5).alloc (Nat.le_refl _) _).grown hg8 (by simp) (fun r e => by have : w5.heap.size = r := Option.some.inj e; omega)
                  have hO8 : OR w8 w1.heap.size g k es := ORows.on hOR hb8
                  have BO8 := BO5.below hb8 (by omega)
                  have BR8 := BR5.below hb8 (by omega)
                  have hI8 := hI5.on hb8
                  have hW8 : Below G w w8 := hW5.trans (hb8.mono (by omega))
                  have hs8 : w5.heap.size ≤ w8.heap.size := hb8.size
                  obtain ⟨A8, c8, hv8⟩ := own_form hown8
                  subst hv8
                  have p0 := BO8.cell 2
                  simp only [List.getElem?_toArray, List.getElem?_cons_zero, List.getElem?_cons_succ] at p0
                  have hnO : some O ≠ some g := fun e => by injection e with e; omega
                  clear hg8 hat8 hRk0 hRk1 hown5 hOR hI5 hW5 hb8 BO5 BR5 hO5 o2 o2a
                  go_region_law (first
                    | (refine step_append_any _ (by rfl) (.tmp 68) (.tmp 69) 22 (by rfl) w1.heap.size 45 i0 _ 1 24 Try.underlying22 hi0 hz0 hz1 hz2 rfl (by decide) _ _ _ (by rfl) hownA _ A8 (es.length - k) c8 (rowCs (es.drop k)) (by rfl) (Reads.of_own hown8A) (rowCs_one _) (by simp only [maxLen]; omega) (by omega) (by omega) ?_; intro v6 w6 hown6 hg6 hat6; obtain ⟨Av, cv, hv6⟩ := own_form hown6; subst hv6; have B6 := BOA.grown hg6 hneA; have s2 := B6.cell 2; have f2 := B6.frozen 2; simp only [List.getElem?_toArray, List.getElem?_cons_zero, List.getElem?_cons_succ] at s2)
                    | (refine step_append_any _ (by rfl) (.tmp 64) (.tmp 67) 22 (by rfl) w1.heap.size 45 i0 _ 1 24 Try.underlying22 hi0 hz0 hz1 hz2 rfl (by decide) _ _ (rowCs (es.take k)) (by rfl) ((OR.take hO9 hkE).alloc _) _ (some ⟨w9.heap.size, 0, none⟩) 1 1 [.slice A9 row.length cap9] (by rfl) (reads_newT w9 _ _) (by simp [Value.oneCell']) (by simp only [maxLen]; omega) (by omega) (by rw [World.size_alloc]; omega) ?_; intro va wa hownA hgA hatA; have hsA : w9.heap.size + 1 ≤ wa.heap.size := (by have := hgA.size; rw [World.size_alloc] at this; exact this); have hown8A := (hown89.alloc (.cells #[.slice A9 row.length cap9] 45)).kept hgA (.inr (fun e => by have h1 := (hown89.lt g e).1; omega)); have BOA := (BO9.alloc (.cells #[.slice A9 row.length cap9] 45)).grown hgA hnO; have hneA : some O ≠ va.ownBlock := (fun e => by { rcases hatA with h | h; { rw [h] at e; exact hnO e }; { rw [h, World.size_alloc] at e; injection e with e; omega } }))
                    | (go_simp; refine (l1Row_row (some ⟨br, oo, none⟩) c' row _ (by exact hI8) hr).mono ?_; rintro e w9 ⟨A9, cap9, g9, rfl, hg9, hR9, hb9⟩; have hs9 : w8.heap.size ≤ w9.heap.size := hb9.size; have hO9 : OR w9 w1.heap.size g k es := ORows.on (ORows.drewN hO8 1) hb9; have hown89 : w9.ownsRow w5.heap.size 45 1 (.slice A8 (es.length - k) c8) (es.length - k) (rowCs (es.drop k)) := own_keepB hown8 (fun r e => hb9.block r (hown8.lt r e).2); have BO9 := (BO8.drewN 1).below hb9 (by show O < w8.heap.size; omega); have p2 := BO9.cell 2; simp only [List.getElem?_toArray, List.getElem?_cons_zero, List.getElem?_cons_succ] at p2; have p3 : (w9.alloc (.cells #[.slice A9 row.length cap9] 45)).cell? ⟨O, 2, none⟩ = some (.slice (some ⟨g, 0, none⟩) es.length k) := (World.cell?_alloc_lt _ _ _ (by show O < w9.heap.size; omega)).trans p2))
                  all_goals
                    have hin9 : ∀ e ∈ es, 0 < e.r.length → e.g < w8.heap.size := fun e he hn => by have := hin.2 e he hn; omega
                    obtain ⟨g6, cap6, hv6, hO6⟩ := OR.insert hO9 hkE hR9 hg9 (show g < w8.heap.size by omega) hin9 hgA hatA hg6 hat6 hown6
                    have hb89 : Below G w w9 := (bel_drewN hW8 1).trans (hb9.mono (by show G ≤ w8.heap.size; omega))
                    have hWA : Below G w wa := (hb89.alloc (by omega) _).grown hgA (by rw [World.size_alloc]; omega) (fun r e => by have : g = r := Option.some.inj e; omega)
                    have hW6 : Below G w w6 := hWA.grown hg6 (by omega) (fun r e => by have := (hownA.lt r e).1; omega)
                    have BR9 := (BR8.drewN 1).below hb9 (by show G + 1 < w8.heap.size; omega)
                    have hneR : some (G + 1) ≠ some g := fun e => by injection e with e; omega
                    have BRA := (BR9.alloc (.cells #[.slice A9 row.length cap9] 45)).grown hgA hneR
                    have hneRA : some (G + 1) ≠ va.ownBlock := fun e => by
                      rcases hatA with h | h
                      · rw [h] at e; exact hneR e
                      · rw [h, World.size_alloc] at e; injection e with e; omega
                    have BR6 := BRA.grown hg6 hneRA
                    have hv6O : (Value.slice Av (k + 1 + (es.length - k)) cv).ownBlock ≠ some O := fun e => by
                      rcases hat6 with h | h
                      · rw [h] at e; exact hneA e.symm
                      · rw [h] at e; injection e with e; omega
                    have HV6 := Lib.hid hv6
                    have hO6' : ORows w6 w1.heap.size (.slice Av (k + 1 + (es.length - k)) cv) (es.take k ++ (⟨row, 0, A9, cap9, g9⟩ : Ent) :: es.drop k) := by rw [HV6.out]; exact hO6
                    have hO7 := hO6'.far ⟨O, 2, none⟩ (.slice Av (k + 1 + (es.length - k)) cv) hv6O (fun e he hn => by
                      show e.g ≠ O
                      rcases List.mem_append.1 he with he | he
                      · have := hin.2 e (List.mem_of_mem_take he) hn; omega
                      · rcases List.mem_cons.1 he with he | he
                        · rw [he]; show g9 ≠ O; have h9 : w8.heap.size ≤ g9 := hg9; omega
                        · have := hin.2 e (List.mem_of_mem_drop he) hn; omega)
                    have B7 := B6.set_ 2 (.slice Av (k + 1 + (es.length - k)) cv)
                    have BR7 := BR6.far (p := ⟨O, 2, none⟩) (by show G + 1 ≠ O; omega) (.slice Av (k + 1 + (es.length - k)) cv)
                    have hW7 := hW6.setCell (p := ⟨O, 2, none⟩) (by show G ≤ O; omega) (.slice Av (k + 1 + (es.length - k)) cv)
                    have HP7 := Lib.hid (show (es.take k ++ (⟨row, 0, A9, cap9, g9⟩ : Ent) :: es.drop k).map Ent.r = plR rows row (plB s wd rows row) by
                      unfold plR
                      rw [HT.out, if_pos rfl, HPL.out, List.map_append, List.map_cons, List.map_take, List.map_drop, HE2.out])
                    clear hv6 hO6' hO6 HV6 hgA hatA hg6 hat6 hown6 hownA hO9 hR9 hWA hown8A hown89 hb9 hO8 hown8 hI8 hW8 hb89 hin9 hg9 hW6 B6 BR6 BRA BR9 BOA BO9 BO8 BR8 s2 f2 p0 p2 p3 hv6O hneA hneRA hneR
                    generalize w6.setCell ⟨O, 2, none⟩ (.slice Av (k + 1 + (es.length - k)) cv) = w7 at *
                    have o0 := B7.cell 0
                    have o1 := B7.cell 1
                    have o2 := B7.cell 2
                    have r0 := BR7.cell 0
                    have r1 := BR7.cell 1
                    have r2 := BR7.cell 2
                    have fr0 := BR7.frozen 0
                    have fr1 := BR7.frozen 1
                    have fr2 := BR7.frozen 2
                    simp only [List.getElem?_toArray, List.getElem?_cons_zero, List.getElem?_cons_succ, List.setIfInBounds_toArray, List.set_cons_succ, List.set_cons_zero] at o0 o1 o2 r0 r1 r2
                    generalize k + 1 + (es.length - k) = nn at *
                    go_wp2
                    refine bodyPost_ret (v := .tuple #[.agg #[.string s, .int .i64 wd, .slice Av nn cv], .bool true]) (by simp [results, Try.f29, go_sem, *]) rfl ?_
                    rw [HTT.out]
                    obtain ⟨k1, k2⟩ := ans_end (lo := w1.heap.size) (s := s) (wd := wd) (a0 := .string s) (a1 := .int .i64 wd) HGG.out hO7 (by omega) HP7.out hW7
                    rw [HT.out] at k1 ⊢
                    exact ⟨_, rfl, k1, k2⟩
                · have hRk0 := OR.readsFrom hOR (k := k) hkE
                  rw [if_neg hck] at hRk0
                  have hRk1 := (hRk0.more (B' := w5.heap.size) (by omega)).alloc (Nat.le_refl _) (.cells #[] 45)
                  go_wp2_with (at_builtin; refine wpList_append_any _ rfl (.tmp 55) (.tmp 59) 22 rfl w5.heap.size 45 i0 _ 1 24 Try.underlying22 hi0 hz0 hz1 hz2 rfl (by decide) _ _ _ rfl hown5 _ (some ⟨g, k, none⟩) (es.length - k) _ (rowCs (es.drop k)) rfl hRk1 (rowCs_one _) (by simp only [maxLen]; omega) (by omega) (by simp) ?_; intro v8 w8 hown8 hg8 hat8)
                  simp only [Nat.zero_add, List.nil_append] at hown8
                  have hb8 : Below w5.heap.size w5 w8 := ((Below.refl w5.heap.size w5).alloc (Nat.le_refl _) _).grown hg8 (by simp) (fun r e => by have : w5.heap.size = r := Option.some.inj e; omega)
                  have hO8 : OR w8 w1.heap.size g cu es := ORows.on hOR hb8
                  have BO8 := BO5.below hb8 (by omega)
                  have BR8 := BR5.below hb8 (by omega)
                  have hI8 := hI5.on hb8
                  have hW8 : Below G w w8 := hW5.trans (hb8.mono (by omega))
                  have hs8 : w5.heap.size ≤ w8.heap.size := hb8.size
                  obtain ⟨A8, c8, hv8⟩ := own_form hown8
                  subst hv8
                  have p0 := BO8.cell 2
                  simp only [List.getElem?_toArray, List.getElem?_cons_zero, List.getElem?_cons_succ] at p0
                  have hnO : some O ≠ some g := fun e => by injection e with e; omega
                  clear hg8 hat8 hRk0 hRk1 hown5 hOR hI5 hW5 hb8 BO5 BR5 hO5 o2 o2a
                  go_region_law (first
                    | (refine step_append_any _ (by rfl) (.tmp 68) (.tmp 69) 22 (by rfl) w1.heap.size 45 i0 _ 1 24 Try.underlying22 hi0 hz0 hz1 hz2 rfl (by decide) _ _ _ (by rfl) hownA _ A8 (es.length - k) c8 (rowCs (es.drop k)) (by rfl) (Reads.of_own hown8A) (rowCs_one _) (by simp only [maxLen]; omega) (by omega) (by omega) ?_; intro v6 w6 hown6 hg6 hat6; obtain ⟨Av, cv, hv6⟩ := own_form hown6; subst hv6; have B6 := BOA.grown hg6 hneA; have s2 := B6.cell 2; have f2 := B6.frozen 2; simp only [List.getElem?_toArray, List.getElem?_cons_zero, List.getElem?_cons_succ] at s2)
                    | (refine step_append_any _ (by rfl) (.tmp 64) (.tmp 67) 22 (by rfl) w1.heap.size 45 i0 _ 1 24 Try.underlying22 hi0 hz0 hz1 hz2 rfl (by decide) _ _ (rowCs (es.take k)) (by rfl) ((OR.take hO9 hkE).alloc _) _ (some ⟨w9.heap.size, 0, none⟩) 1 1 [.slice A9 row.length cap9] (by rfl) (reads_newT w9 _ _) (by simp [Value.oneCell']) (by simp only [maxLen]; omega) (by omega) (by rw [World.size_alloc]; omega) ?_; intro va wa hownA hgA hatA; have hsA : w9.heap.size + 1 ≤ wa.heap.size := (by have := hgA.size; rw [World.size_alloc] at this; exact this); have hown8A := (hown89.alloc (.cells #[.slice A9 row.length cap9] 45)).kept hgA (.inr (fun e => by have h1 := (hown89.lt g e).1; omega)); have BOA := (BO9.alloc (.cells #[.slice A9 row.length cap9] 45)).grown hgA hnO; have hneA : some O ≠ va.ownBlock := (fun e => by { rcases hatA with h | h; { rw [h] at e; exact hnO e }; { rw [h, World.size_alloc] at e; injection e with e; omega } }))
                    | (go_simp; refine (l1Row_row (some ⟨br, oo, none⟩) c' row _ (by exact hI8) hr).mono ?_; rintro e w9 ⟨A9, cap9, g9, rfl, hg9, hR9, hb9⟩; have hs9 : w8.heap.size ≤ w9.heap.size := hb9.size; have hO9 : OR w9 w1.heap.size g cu es := ORows.on (ORows.drewN hO8 1) hb9; have hown89 : w9.ownsRow w5.heap.size 45 1 (.slice A8 (es.length - k) c8) (es.length - k) (rowCs (es.drop k)) := own_keepB hown8 (fun r e => hb9.block r (hown8.lt r e).2); have BO9 := (BO8.drewN 1).below hb9 (by show O < w8.heap.size; omega); have p2 := BO9.cell 2; simp only [List.getElem?_toArray, List.getElem?_cons_zero, List.getElem?_cons_succ] at p2; have p3 : (w9.alloc (.cells #[.slice A9 row.length cap9] 45)).cell? ⟨O, 2, none⟩ = some (.slice (some ⟨g, 0, none⟩) es.length cu) := (World.cell?_alloc_lt _ _ _ (by show O < w9.heap.size; omega)).trans p2))
                  all_goals
                    have hin9 : ∀ e ∈ es, 0 < e.r.length → e.g < w8.heap.size := fun e he hn => by have := hin.2 e he hn; omega
                    obtain ⟨g6, cap6, hv6, hO6⟩ := OR.insert hO9 hkE hR9 hg9 (show g < w8.heap.size by omega) hin9 hgA hatA hg6 hat6 hown6
                    have hb89 : Below G w w9 := (bel_drewN hW8 1).trans (hb9.mono (by show G ≤ w8.heap.size; omega))
                    have hWA : Below G w wa := (hb89.alloc (by omega) _).grown hgA (by rw [World.size_alloc]; omega) (fun r e => by have : g = r := Option.some.inj e; omega)
                    have hW6 : Below G w w6 := hWA.grown hg6 (by omega) (fun r e => by have := (hownA.lt r e).1; omega)
                    have BR9 := (BR8.drewN 1).below hb9 (by show G + 1 < w8.heap.size; omega)
                    have hneR : some (G + 1) ≠ some g := fun e => by injection e with e; omega
                    have BRA := (BR9.alloc (.cells #[.slice A9 row.length cap9] 45)).grown hgA hneR
                    have hneRA : some (G + 1) ≠ va.ownBlock := fun e => by
                      rcases hatA with h | h
                      · rw [h] at e; exact hneR e
                      · rw [h, World.size_alloc] at e; injection e with e; omega
                    have BR6 := BRA.grown hg6 hneRA
                    have hv6O : (Value.slice Av (k + 1 + (es.length - k)) cv).ownBlock ≠ some O := fun e => by
                      rcases hat6 with h | h
                      · rw [h] at e; exact hneA e.symm
                      · rw [h] at e; injection e with e; omega
                    have HV6 := Lib.hid hv6
                    have hO6' : ORows w6 w1.heap.size (.slice Av (k + 1 + (es.length - k)) cv) (es.take k ++ (⟨row, 0, A9, cap9, g9⟩ : Ent) :: es.drop k) := by rw [HV6.out]; exact hO6
                    have hO7 := hO6'.far ⟨O, 2, none⟩ (.slice Av (k + 1 + (es.length - k)) cv) hv6O (fun e he hn => by
                      show e.g ≠ O
                      rcases List.mem_append.1 he with he | he
                      · have := hin.2 e (List.mem_of_mem_take he) hn; omega
                      · rcases List.mem_cons.1 he with he | he
                        · rw [he]; show g9 ≠ O; have h9 : w8.heap.size ≤ g9 := hg9; omega
                        · have := hin.2 e (List.mem_of_mem_drop he) hn; omega)
                    have B7 := B6.set_ 2 (.slice Av (k + 1 + (es.length - k)) cv)
                    have BR7 := BR6.far (p := ⟨O, 2, none⟩) (by show G + 1 ≠ O; omega) (.slice Av (k + 1 + (es.length - k)) cv)
                    have hW7 := hW6.setCell (p := ⟨O, 2, none⟩) (by show G ≤ O; omega) (.slice Av (k + 1 + (es.length - k)) cv)
                    have HP7 := Lib.hid (show (es.take k ++ (⟨row, 0, A9, cap9, g9⟩ : Ent) :: es.drop k).map Ent.r = plR rows row (plB s wd rows row) by
                      unfold plR
                      rw [HT.out, if_pos rfl, HPL.out, List.map_append, List.map_cons, List.map_take, List.map_drop, HE2.out])
                    clear hv6 hO6' hO6 HV6 hgA hatA hg6 hat6 hown6 hownA hO9 hR9 hWA hown8A hown89 hb9 hO8 hown8 hI8 hW8 hb89 hin9 hg9 hW6 B6 BR6 BRA BR9 BOA BO9 BO8 BR8 s2 f2 p0 p2 p3 hv6O hneA hneRA hneR
                    generalize w6.setCell ⟨O, 2, none⟩ (.slice Av (k + 1 + (es.length - k)) cv) = w7 at *
                    have o0 := B7.cell 0
                    have o1 := B7.cell 1
                    have o2 := B7.cell 2
                    have r0 := BR7.cell 0
                    have r1 := BR7.cell 1
                    have r2 := BR7.cell 2
                    have fr0 := BR7.frozen 0
                    have fr1 := BR7.frozen 1
                    have fr2 := BR7.frozen 2
                    simp only [List.getElem?_toArray, List.getElem?_cons_zero, List.getElem?_cons_succ, List.setIfInBounds_toArray, List.set_cons_succ, List.set_cons_zero] at o0 o1 o2 r0 r1 r2
                    generalize k + 1 + (es.length - k) = nn at *
                    go_wp2
                    refine bodyPost_ret (v := .tuple #[.agg #[.string s, .int .i64 wd, .slice Av nn cv], .bool true]) (by simp [results, Try.f29, go_sem, *]) rfl ?_
                    rw [HTT.out]
                    obtain ⟨k1, k2⟩ := ans_end (lo := w1.heap.size) (s := s) (wd := wd) (a0 := .string s) (a1 := .int .i64 wd) HGG.out hO7 (by omega) HP7.out hW7
                    rw [HT.out] at k1 ⊢
                    exact ⟨_, rfl, k1, k2⟩
end Go.Proofs.Ytedbjjhkjkpnkaa
