/- The contract of the program's Taken: a table of the call's own; nothing that lay has turned. -/
import Derived.Test.YtedbjjhkjkpnkaaTabI4
import Derived.Test.YtedbjjhkjkpnkaaTab7
namespace Go.Proofs.Ytedbjjhkjkpnkaa
open Go.RowKit

/-- The end of a call that answers a table: what is stored into the result. -/
theorem wans_end {w w7 : World} {G lo : Nat} {s : ByteArray} {wd : Int} {rows : List (List Int)} {u a0 a1 : Value} {es : List Ent} (hG : w.heap.size = G) (hO : WRows w7 lo u es) (hlo : G + 1 < lo) (he : es.map Ent.r = rows) (hW : Below G w w7) :
    WTab w.heap.size s wd rows (.agg #[.string s, .int .i64 wd, u]) (((w7.setCell ⟨G + 1, 0, none⟩ a0).setCell ⟨G + 1, 1, none⟩ a1).setCell ⟨G + 1, 2, none⟩ u) ∧ Below w.heap.size w (((w7.setCell ⟨G + 1, 0, none⟩ a0).setCell ⟨G + 1, 1, none⟩ a1).setCell ⟨G + 1, 2, none⟩ u) := by
  rw [hG]
  refine ⟨⟨_, es, rfl, ?_, he⟩, ?_⟩
  · exact WRows.lower (lo := lo) (((hO.keep hO.inside (fun b hb _ => Below.heap_setCell w7 ⟨G + 1, 0, none⟩ _ b (by simp; omega))).keep (hi := w7.heap.size) hO.inside (fun b hb _ => Below.heap_setCell _ ⟨G + 1, 1, none⟩ _ b (by simp; omega))).keep (hi := w7.heap.size) hO.inside (fun b hb _ => Below.heap_setCell _ ⟨G + 1, 2, none⟩ _ b (by simp; omega))) (by omega)
  · exact ((hW.setCell (p := ⟨G + 1, 0, none⟩) (by simp) _).setCell (p := ⟨G + 1, 1, none⟩) (by simp) _).setCell (p := ⟨G + 1, 2, none⟩) (by simp) _
theorem taken_fnd {rows : List (List Int)} (h : SK rows) {q : Int} (hf : fndB rows q = true) : takenL rows q = rows.take (plcK rows q) ++ rows.drop (plcK rows q + 1) ∧ plcK rows q < rows.length := by
  have e := (idx_fnd h q).2 hf
  have hi : idxK rows q < rows.length := of_decide_eq_true (by rw [(idx_fnd h q).1]; exact hf)
  unfold takenL
  rw [e]
  exact ⟨rfl, by rw [← e]; exact hi⟩
theorem taken_nfnd {rows : List (List Int)} (h : SK rows) {q : Int} (hf : fndB rows q = false) : takenL rows q = rows :=
  taken_same (of_decide_eq_false (by rw [(idx_fnd h q).1]; exact hf))
theorem splice_taken (es : List Ent) (i : Nat) : (splice (rowCs es) i (rowCs (es.drop (i + 1)))).take (es.take i ++ es.drop (i + 1)).length = rowCs (es.take i ++ es.drop (i + 1)) := by
  unfold splice
  rw [rowCs_append, ← rowCs_take, ← List.append_assoc]
  have hl : (es.take i ++ es.drop (i + 1)).length = ((rowCs es).take i ++ rowCs (es.drop (i + 1))).length := by
    rw [List.length_append, List.length_append, rowCs_length, List.length_take, List.length_take, rowCs_length]
  rw [hl, List.take_append_of_le_length (Nat.le_refl _), List.take_length]
set_option maxRecDepth 100000 in
set_option maxHeartbeats 8000000 in
theorem implTaken_any (s : ByteArray) (wd : Int) (A : Option Addr) (c : Nat) (rows : List (List Int)) (q : Int) (w : World) (hR : Rws w w.heap.size A rows) (hs : s.size ≤ 1099511627776) (hl : rows.length ≤ 1099511627776) :
    Calls Try.prog 25 #[.agg #[.string s, .int .i64 wd, .slice A rows.length c], .int .i64 q] w (WAns (tkS s (tabB s wd rows)) (tkW wd (tabB s wd rows)) (tkR (takenL rows q) (tabB s wd rows)) (thereB s wd rows q) w) := by
  have bc := bel_two (w := w) (.cells #[.string s, .int .i64 wd, .slice A rows.length c] 28) (.cells #[.string ⟨#[]⟩, .int .i64 0, .slice none 0 0] 28)
  have BG := (Blk.new w 28 #[.string s, .int .i64 wd, .slice A rows.length c]).alloc (.cells #[.string ⟨#[]⟩, .int .i64 0, .slice none 0 0] 28)
  have BR := Blk.new (w.alloc (.cells #[.string s, .int .i64 wd, .slice A rows.length c] 28)) 28 #[.string ⟨#[]⟩, .int .i64 0, .slice none 0 0]
  have e2 : (w.alloc (.cells #[.string s, .int .i64 wd, .slice A rows.length c] 28)).heap.size = w.heap.size + 1 := by simp
  rw [e2] at BR
  have hRb := hR.on bc
  clear e2 hR
  go_enter Try.func25, Try.ntmps25
  go_wp2_with fail
  generalize (w.alloc (.cells #[.string s, .int .i64 wd, .slice A rows.length c] 28)).alloc (.cells #[.string ⟨#[]⟩, .int .i64 0, .slice none 0 0] 28) = wb at *
  generalize hGG : w.heap.size = G at *
  have HGG := Lib.hid hGG
  have hsb : G ≤ wb.heap.size := by rw [← hGG]; exact bc.size
  clear hGG
  refine (implTableOk_any s wd A c rows wb hRb hs hl).mono ?_
  rintro e w1 ⟨rfl, hb1⟩
  have BG1 := BG.below hb1 BG.lt
  have BR1 := BR.below hb1 BR.lt
  have hR1 := hRb.on hb1
  have hW1 : Below G w w1 := bc.trans (hb1.mono hsb)
  have hs1 : G + 1 < w1.heap.size := BR1.lt
  clear BG BR hRb bc hb1
  cases ht : tabB s wd rows with
  | false =>
    have HT := Lib.hid (show thereB s wd rows q = false by unfold thereB; rw [ht]; rfl)
    have HTF := Lib.hid ht
    have r0 := BR1.cell 0
    have r1 := BR1.cell 1
    have r2 := BR1.cell 2
    have fr0 := BR1.frozen 0
    have fr1 := BR1.frozen 1
    have fr2 := BR1.frozen 2
    simp only [List.getElem?_toArray, List.getElem?_cons_zero, List.getElem?_cons_succ] at r0 r1 r2
    clear ht
    go_wp2
    refine bodyPost_ret (v := .tuple #[.agg #[.string ⟨#[]⟩, .int .i64 0, .slice none 0 0], .bool false]) (by simp [results, Try.f25, go_sem, *]) rfl ?_
    rw [HT.out, HTF.out]
    obtain ⟨k1, k2⟩ := wans_end (lo := G + 2) (s := ⟨#[]⟩) (wd := 0) (a0 := .string ⟨#[]⟩) (a1 := .int .i64 0) HGG.out (ORows.none_ w1 (G + 2)).weak (by omega) rfl hW1
    exact ⟨_, rfl, k1, k2⟩
  | true =>
    have hPos := tab_pos ht
    have hSK := tab_sk ht
    have hlen := tab_len ht
    have HTT := Lib.hid ht
    have HTH := Lib.hid (there_fnd ht q)
    have HTY := Lib.hid (show fndB rows q = true → takenL rows q = rows.take (plcK rows q) ++ rows.drop (plcK rows q + 1) ∧ plcK rows q < rows.length from fun h => taken_fnd (tab_sk ht) h)
    have HTN := Lib.hid (show fndB rows q = false → takenL rows q = rows from fun h => taken_nfnd (tab_sk ht) h)
    have g0 := BG1.cell 0
    have g1 := BG1.cell 1
    have g2 := BG1.cell 2
    simp only [List.getElem?_toArray, List.getElem?_cons_zero, List.getElem?_cons_succ] at g0 g1 g2
    clear ht
    go_wp2_with fail
    refine (copyOfTable_any s wd A c rows w1 hR1 (by omega)).mono ?_
    rintro e w2 ⟨g, es, rfl, hM2, hE2, hg2, he2, hb2⟩
    have hel : es.length = rows.length := by rw [← he2, List.length_map]
    have HE2 := Lib.hid he2
    have HEL := Lib.hid hel
    have BG2 := BG1.below hb2 BG1.lt
    have BR2 := BR1.below hb2 BR1.lt
    have hR2 := hR1.on hb2
    have hW2 : Below G w w2 := hW1.trans (hb2.mono (by omega))
    have hs12 : w1.heap.size ≤ w2.heap.size := hb2.size
    have hgl := hM2.lt
    have b3 := (Below.refl w2.heap.size w2).alloc (Nat.le_refl _) (.cells #[.string s, .int .i64 wd, .slice (some ⟨g, 0, none⟩) rows.length rows.length] 28)
    have BO3 := Blk.new w2 28 #[.string s, .int .i64 wd, .slice (some ⟨g, 0, none⟩) rows.length rows.length]
    have BG3 := BG2.alloc (.cells #[.string s, .int .i64 wd, .slice (some ⟨g, 0, none⟩) rows.length rows.length] 28)
    have BR3 := BR2.alloc (.cells #[.string s, .int .i64 wd, .slice (some ⟨g, 0, none⟩) rows.length rows.length] 28)
    have hM3 := hM2.alloc (.cells #[.string s, .int .i64 wd, .slice (some ⟨g, 0, none⟩) rows.length rows.length] 28)
    have hE3 := hE2.on b3
    have hEl := hE2.lt
    have hR3 := hR2.on b3
    have hW3 : Below G w (w2.alloc (.cells #[.string s, .int .i64 wd, .slice (some ⟨g, 0, none⟩) rows.length rows.length] 28)) := hW2.trans (b3.mono (by omega))
    have d2 := BG3.cell 2
    simp only [List.getElem?_toArray, List.getElem?_cons_zero, List.getElem?_cons_succ] at d2
    clear he2 hel g0 g1 g2 BG1 BR1 hR1 hW1 hb2 hM2 hE2 BG2 BR2 hR2 hW2 b3
    go_wp2_with fail
    generalize hww : w2.alloc (.cells #[.string s, .int .i64 wd, .slice (some ⟨g, 0, none⟩) rows.length rows.length] 28) = w3 at *
    have hs3 : w3.heap.size = w2.heap.size + 1 := by rw [← hww]; simp
    clear hww
    generalize hOO : w2.heap.size = O at *
    clear hOO
    refine (placeOfKey_any A c rows q w3 w3.heap.size hR3 hSK hPos hl).mono ?_
    rintro e w4 ⟨rfl, rfl⟩
    have r0 := BR3.cell 0
    have r1 := BR3.cell 1
    have r2 := BR3.cell 2
    have fr0 := BR3.frozen 0
    have fr1 := BR3.frozen 1
    have fr2 := BR3.frozen 2
    have o0 := BO3.cell 0
    have o1 := BO3.cell 1
    have o2 := BO3.cell 2
    simp only [List.getElem?_toArray, List.getElem?_cons_zero, List.getElem?_cons_succ] at o0 o1 o2 r0 r1 r2
    clear d2 BG3 hR3 hSK hPos
    cases hf : fndB rows q with
    | false =>
      have HT := Lib.hid (show thereB s wd rows q = false by rw [HTH.out, hf])
      have HTK := Lib.hid (HTN.out hf)
      have hWR : WRows w3 w1.heap.size (.slice (some ⟨g, 0, none⟩) rows.length rows.length) es := by
        have := WRows.of_blk (cap := rows.length) hM3 (show (rowCs es).take es.length = rowCs es by rw [← rowCs_length, List.take_length]) hE3 hg2
        rwa [HEL.out] at this
      clear hf
      go_wp2
      refine bodyPost_ret (v := .tuple #[.agg #[.string s, .int .i64 wd, .slice (some ⟨g, 0, none⟩) rows.length rows.length], .bool false]) (by simp [results, Try.f25, go_sem, *]) rfl ?_
      rw [HT.out, HTT.out, HTK.out]
      obtain ⟨k1, k2⟩ := wans_end (lo := w1.heap.size) (s := s) (wd := wd) (a0 := .string s) (a1 := .int .i64 wd) HGG.out hWR (by omega) HE2.out hW3
      exact ⟨_, rfl, k1, k2⟩
    | true =>
      have HT := Lib.hid (show thereB s wd rows q = true by rw [HTH.out, hf])
      obtain ⟨hTK, hi⟩ := HTY.out hf
      obtain ⟨i, hii⟩ : ∃ i, plcK rows q = i := ⟨_, rfl⟩
      rw [hii] at hTK hi ⊢
      have HTK := Lib.hid hTK
      clear hf hTK hii HTY HTN HTH
      obtain ⟨n, hn⟩ : ∃ n, rows.length = n := ⟨_, rfl⟩
      rw [hn] at hi hlen o2 BO3 ⊢
      have HN := Lib.hid (show es.length = n by rw [HEL.out, hn])
      clear hn
      have hi00 : (0 : Int) ≤ (i : Int) := Int.natCast_nonneg _
      have hwi : IntKind.i64.wrap ((i : Int) + 1) = (i : Int) + 1 := by rw [IntKind.wrap_i64]; omega
      have hti : ((i : Int) + 1).toNat = i + 1 := by omega
      have hci : (i : Int) ≤ (n : Int) := by omega
      have hc1 : (i : Int) + 1 ≤ (n : Int) := by omega
      have hc0 : (0 : Int) ≤ (i : Int) + 1 := by omega
      have hni : ¬ n = i := by omega
      obtain ⟨m, hm⟩ : ∃ m, n = m + 1 := ⟨n - 1, by omega⟩
      have hwm : IntKind.i64.wrap ((n : Int) - 1) = (m : Int) := by rw [IntKind.wrap_i64]; omega
      have hmn : (m : Int) ≤ (n : Int) := by omega
      have hm0 : (0 : Int) ≤ (m : Int) := Int.natCast_nonneg _
      have HM := Lib.hid hm
      have hnO : some O ≠ some g := fun e => by injection e with e; omega
      have hnR : some (G + 1) ≠ some g := fun e => by injection e with e; omega
      have hsz : (Try.prog.info? 45).map (·.size) = some 1 := by obtain ⟨i0, hi0, _, hz1, _⟩ := info_parts info_rowT; rw [hi0, Option.map_some, hz1]
      have HSRC := Lib.hid (show ∀ j v, (rowCs (es.drop (i + 1)))[j]? = some v → w3.cell? (Addr.add ⟨g, i + 1, none⟩ j) = some v from fun j v hv => by
        have ea : Addr.add ⟨g, i + 1, none⟩ j = ⟨g, i + 1 + j, none⟩ := by unfold Addr.add; split <;> simp_all
        rw [ea, hM3.cell, List.getElem?_toArray, ← hv, ← rowCs_drop, List.getElem?_drop])
      have HPT := Lib.hid (show (es.take i ++ es.drop (i + 1)).map Ent.r = takenL rows q by rw [HTK.out, List.map_append, List.map_take, List.map_drop, HE2.out])
      have hlt2 : (es.take i ++ es.drop (i + 1)).length = m := by rw [List.length_append, List.length_take, List.length_drop, HN.out]; omega
      have HL2 := Lib.hid hlt2
      have hcl : (rowCs (es.drop (i + 1))).length = n - (i + 1) := by rw [rowCs_length, List.length_drop, HN.out]
      have hrl : (rowCs es).length = n := by rw [rowCs_length, HN.out]
      have HCL := Lib.hid hcl
      have HRL := Lib.hid hrl
      have HFIN := Lib.hid (show ∀ w5 : World, Hid (w5.heap[g]? = some (.cells (splice (rowCs es) i (rowCs (es.drop (i + 1)))).toArray 45 (0, 0))) → w3.grownBy w5 (some g) → w5.heap.size = w3.heap.size →
          WRows (w5.setCell ⟨O, 2, none⟩ (.slice (some ⟨g, 0, none⟩) m m)) w1.heap.size (.slice (some ⟨g, 0, none⟩) m m) (es.take i ++ es.drop (i + 1)) ∧ Below G w (w5.setCell ⟨O, 2, none⟩ (.slice (some ⟨g, 0, none⟩) m m)) from fun w5 h5 hg5 hs5 => by
        have hsub : (es.take i ++ es.drop (i + 1)).Sublist es := by
          have e := List.take_append_drop i es
          conv => rhs; rw [← e]
          refine List.Sublist.append (List.Sublist.refl _) ?_
          rw [← List.drop_drop]
          exact List.drop_sublist _ _
        have h6 : WRows w5 w1.heap.size (.slice (some ⟨g, 0, none⟩) m m) (es.take i ++ es.drop (i + 1)) := by
          have := WRows.of_blk (w := w5) (lo := w1.heap.size) (cap := m) (es := es.take i ++ es.drop (i + 1)) h5.out (splice_taken es i) ((hE3.grown hg5).sub hsub) hg2
          rwa [HL2.out] at this
        refine ⟨h6.keep (hi := O) ⟨fun b hb => by have e : g = b := Option.some.inj hb; omega, fun e he hn => hEl e (hsub.subset he) hn⟩ (fun b _ hb => Below.heap_setCell w5 ⟨O, 2, none⟩ _ b (by show b ≠ O; omega)), ?_⟩
        exact (hW3.grown hg5 (by omega) (fun r e => by have e' : g = r := Option.some.inj e; omega)).setCell (p := ⟨O, 2, none⟩) (by show G ≤ O; omega) _)
      clear hm hlt2 hcl hrl HE2 HEL HTK
      by_cases hn1 : n = i + 1
      · subst hn1
        obtain rfl : i = m := by have := HM.out; omega
        have hcA : (i : Int) ≤ (i : Int) + 1 := by omega
        go_wp2_with fail
        go_region_law (first | (refine step_copy_grown (by rfl) (.tmp 29) (.tmp 34) 22 22 (by rfl) 45 Try.underlying22 hsz (some ⟨g, i, none⟩) (some ⟨g, 0, none⟩) 1 1 0 0 (by rfl) (by rfl) g i (rowCs es) 45 (by exact hM3) (rowCs (es.drop (i + 1))) (by rw [HCL.out]; simp) (fun h => absurd h (by rw [HCL.out]; simp)) (by rw [HCL.out, HRL.out]; omega) (rowCs_one _) ?_; intro w5 h5 hg5 hs5))
        all_goals
          obtain ⟨hWR, hW6⟩ := HFIN.out w5 h5 (grown_trans (grown_drewN w3 1 _) hg5) hs5
          have BO5 := (BO3.drewN 1).grown hg5 hnO
          have BR5 := ((BR3.drewN 1).grown hg5 hnR).far (p := ⟨O, 2, none⟩) (by show G + 1 ≠ O; omega) (.slice (some ⟨g, 0, none⟩) i i)
          have p2 := BO5.cell 2
          have f2 := BO5.frozen 2
          have BO6 := BO5.set_ 2 (.slice (some ⟨g, 0, none⟩) i i)
          have q0 := BO6.cell 0
          have q1 := BO6.cell 1
          have q2 := BO6.cell 2
          have t0 := BR5.cell 0
          have t1 := BR5.cell 1
          have t2 := BR5.cell 2
          have ft0 := BR5.frozen 0
          have ft1 := BR5.frozen 1
          have ft2 := BR5.frozen 2
          simp only [List.getElem?_toArray, List.getElem?_cons_zero, List.getElem?_cons_succ, List.setIfInBounds_toArray, List.set_cons_succ, List.set_cons_zero] at p2 q0 q1 q2 t0 t1 t2
          clear BO5 BR5 BO6 h5 hg5 hs5
          go_wp2
          all_goals
            refine bodyPost_ret (v := .tuple #[.agg #[.string s, .int .i64 wd, .slice (some ⟨g, 0, none⟩) i i], .bool true]) (by simp [results, Try.f25, go_sem, *]) rfl ?_
            rw [HT.out, HTT.out]
            obtain ⟨k1, k2⟩ := wans_end (lo := w1.heap.size) (s := s) (wd := wd) (a0 := .string s) (a1 := .int .i64 wd) HGG.out hWR (by omega) HPT.out hW6
            exact ⟨_, rfl, k1, k2⟩
      · go_wp2_with fail
        go_region_law (first | (refine step_copy_grown (by rfl) (.tmp 29) (.tmp 34) 22 22 (by rfl) 45 Try.underlying22 hsz (some ⟨g, i, none⟩) (some ⟨g, i + 1, none⟩) (n - i) (n - i) (n - (i + 1)) (n - (i + 1)) (by rfl) (by rfl) g i (rowCs es) 45 (by exact hM3) (rowCs (es.drop (i + 1))) (by rw [HCL.out]; exact (Nat.min_eq_left (by omega)).symm) (fun _ => ⟨rfl, _, rfl, HSRC.out⟩) (by rw [HCL.out, HRL.out]; omega) (rowCs_one _) ?_; intro w5 h5 hg5 hs5))
        all_goals
          obtain ⟨hWR, hW6⟩ := HFIN.out w5 h5 (grown_trans (grown_drewN w3 1 _) hg5) hs5
          have BO5 := (BO3.drewN 1).grown hg5 hnO
          have BR5 := ((BR3.drewN 1).grown hg5 hnR).far (p := ⟨O, 2, none⟩) (by show G + 1 ≠ O; omega) (.slice (some ⟨g, 0, none⟩) m m)
          have p2 := BO5.cell 2
          have f2 := BO5.frozen 2
          have BO6 := BO5.set_ 2 (.slice (some ⟨g, 0, none⟩) m m)
          have q0 := BO6.cell 0
          have q1 := BO6.cell 1
          have q2 := BO6.cell 2
          have t0 := BR5.cell 0
          have t1 := BR5.cell 1
          have t2 := BR5.cell 2
          have ft0 := BR5.frozen 0
          have ft1 := BR5.frozen 1
          have ft2 := BR5.frozen 2
          simp only [List.getElem?_toArray, List.getElem?_cons_zero, List.getElem?_cons_succ, List.setIfInBounds_toArray, List.set_cons_succ, List.set_cons_zero] at p2 q0 q1 q2 t0 t1 t2
          clear BO5 BR5 BO6 h5 hg5 hs5
          go_wp2
          all_goals
            refine bodyPost_ret (v := .tuple #[.agg #[.string s, .int .i64 wd, .slice (some ⟨g, 0, none⟩) m m], .bool true]) (by simp [results, Try.f25, go_sem, *]) rfl ?_
            rw [HT.out, HTT.out]
            obtain ⟨k1, k2⟩ := wans_end (lo := w1.heap.size) (s := s) (wd := wd) (a0 := .string s) (a1 := .int .i64 wd) HGG.out hWR (by omega) HPT.out hW6
            exact ⟨_, rfl, k1, k2⟩
end Go.Proofs.Ytedbjjhkjkpnkaa
