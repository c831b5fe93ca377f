/- The contract of the program's Placed: a table of the call's own; nothing that lay has turned. -/
import Derived.Test.YtedbjjhkjkpnkaaTabI5
namespace Go.Proofs.Ytedbjjhkjkpnkaa
open Go.RowKit

theorem splice_placed {cur L : List Value} {u v : Value} {p n : Nat} (hL : L.length = n) (hp : p ≤ n) (hc : cur.take (n + 1) = L ++ [u]) : ((splice cur (p + 1) (L.drop p)).set p v).take (n + 1) = L.take p ++ v :: L.drop p := by
  have hlen : n + 1 ≤ cur.length := by
    have := congrArg List.length hc
    rw [List.length_take, List.length_append, hL, List.length_singleton] at this
    omega
  have h1 : cur.take p = L.take p := by
    have := congrArg (List.take p) hc
    rwa [List.take_take, Nat.min_eq_left (by omega), List.take_append_of_le_length (by omega)] at this
  have h2 : cur.take (p + 1) = L.take p ++ [cur[p]] := by rw [List.take_succ_eq_append_getElem (by omega), h1]
  have hl : (L.take p).length = p := by rw [List.length_take]; omega
  unfold splice
  rw [h2, List.append_assoc, List.set_append_right _ _ (by omega), hl, Nat.sub_self, List.singleton_append, List.set_cons_zero]
  have e : ∀ R : List Value, L.take p ++ v :: (L.drop p ++ R) = (L.take p ++ v :: L.drop p) ++ R := fun R => by simp
  rw [e, List.take_append_of_le_length (by rw [List.length_append, List.length_cons, List.length_drop]; omega), List.take_of_length_le (by rw [List.length_append, List.length_cons, List.length_drop]; omega)]
set_option maxRecDepth 100000 in
set_option maxHeartbeats 8000000 in
theorem implPlaced_any (s : ByteArray) (wd : Int) (A A' : Option Addr) (c c' : Nat) (rows : List (List Int)) (row : List Int) (w : World) (hR : Rws w w.heap.size A rows) (hI : Ints w w.heap.size A' row) (hs : s.size ≤ 1099511627776) (hl : rows.length ≤ 1099511627776) (hr : row.length ≤ 1099511627776) :
    Calls Try.prog 23 #[.agg #[.string s, .int .i64 wd, .slice A rows.length c], .slice A' row.length c'] w (WAns (tkS s (tabB s wd rows)) (tkW wd (tabB s wd rows)) (tkR (plR rows row (plB s wd rows row)) (tabB s wd rows)) (plB s wd rows row) w) := by
  obtain ⟨i0, hi0, hz0, hz1, hz2⟩ := info_parts info_rowT
  have bc := bel_two (w := w) (.cells #[.string s, .int .i64 wd, .slice A rows.length c] 28) (.cells #[.string ⟨#[]⟩, .int .i64 0, .slice none 0 0] 28)
  have BG := (Blk.new w 28 #[.string s, .int .i64 wd, .slice A rows.length c]).alloc (.cells #[.string ⟨#[]⟩, .int .i64 0, .slice none 0 0] 28)
  have BR := Blk.new (w.alloc (.cells #[.string s, .int .i64 wd, .slice A rows.length c] 28)) 28 #[.string ⟨#[]⟩, .int .i64 0, .slice none 0 0]
  have e2 : (w.alloc (.cells #[.string s, .int .i64 wd, .slice A rows.length c] 28)).heap.size = w.heap.size + 1 := by simp
  rw [e2] at BR
  have hRb := hR.on bc
  have hIb := hI.on bc
  clear e2 hR
  go_enter Try.func23, Try.ntmps23
  go_wp2_with fail
  generalize (w.alloc (.cells #[.string s, .int .i64 wd, .slice A rows.length c] 28)).alloc (.cells #[.string ⟨#[]⟩, .int .i64 0, .slice none 0 0] 28) = wb at *
  generalize hGG : w.heap.size = G at *
  have HGG := Lib.hid hGG
  have hsb : G ≤ wb.heap.size := by rw [← hGG]; exact bc.size
  clear hGG
  refine (implTableOk_any s wd A c rows wb hRb hs hl).mono ?_
  rintro e w1 ⟨rfl, hb1⟩
  have BG1 := BG.below hb1 BG.lt
  have BR1 := BR.below hb1 BR.lt
  have hR1 := hRb.on hb1
  have hI1 := hIb.on hb1
  have hW1 : Below G w w1 := bc.trans (hb1.mono hsb)
  have hs1 : G + 1 < w1.heap.size := BR1.lt
  clear BG BR hRb hIb bc hb1
  cases ht : tabB s wd rows with
  | false =>
    have HT := Lib.hid (show plB s wd rows row = false by unfold plB; rw [ht]; rfl)
    have HTF := Lib.hid ht
    have r0 := BR1.cell 0
    have r1 := BR1.cell 1
    have r2 := BR1.cell 2
    have fr0 := BR1.frozen 0
    have fr1 := BR1.frozen 1
    have fr2 := BR1.frozen 2
    simp only [List.getElem?_toArray, List.getElem?_cons_zero, List.getElem?_cons_succ] at r0 r1 r2
    clear ht
    go_wp2
    refine bodyPost_ret (v := .tuple #[.agg #[.string ⟨#[]⟩, .int .i64 0, .slice none 0 0], .bool false]) (by simp [results, Try.f23, go_sem, *]) rfl ?_
    rw [HT.out, HTF.out]
    obtain ⟨k1, k2⟩ := wans_end (lo := G + 2) (s := ⟨#[]⟩) (wd := 0) (a0 := .string ⟨#[]⟩) (a1 := .int .i64 0) HGG.out (ORows.none_ w1 (G + 2)).weak (by omega) rfl hW1
    exact ⟨_, rfl, k1, k2⟩
  | true =>
    have hPos := tab_pos ht
    have hSK := tab_sk ht
    have hlen := tab_len ht
    have HTT := Lib.hid ht
    have HFS := Lib.hid (show decide (idxK rows (ky row) < rows.length) = fndB rows (ky row) from (idx_fnd (tab_sk ht) (ky row)).1)
    have HW4 := Lib.hid (show inB wd 1 4 = true by
      unfold tabB at ht
      rw [Bool.and_eq_true] at ht
      exact (rowsOk_iff.1 ht.2).1.1)
    have g0 := BG1.cell 0
    have g1 := BG1.cell 1
    have g2 := BG1.cell 2
    simp only [List.getElem?_toArray, List.getElem?_cons_zero, List.getElem?_cons_succ] at g0 g1 g2
    clear ht
    go_wp2_with fail
    refine (copyOfTable_any s wd A c rows w1 hR1 (by omega)).mono ?_
    rintro e w2 ⟨g, es, rfl, hM2, hE2, hg2, he2, hb2⟩
    have hel : es.length = rows.length := by rw [← he2, List.length_map]
    have HE2 := Lib.hid he2
    have HEL := Lib.hid hel
    have BG2 := BG1.below hb2 BG1.lt
    have BR2 := BR1.below hb2 BR1.lt
    have hR2 := hR1.on hb2
    have hI2 := hI1.on hb2
    have hW2 : Below G w w2 := hW1.trans (hb2.mono (by omega))
    have hs12 : w1.heap.size ≤ w2.heap.size := hb2.size
    have hgl := hM2.lt
    have b3 := (Below.refl w2.heap.size w2).alloc (Nat.le_refl _) (.cells #[.string s, .int .i64 wd, .slice (some ⟨g, 0, none⟩) rows.length rows.length] 28)
    have BO3 := Blk.new w2 28 #[.string s, .int .i64 wd, .slice (some ⟨g, 0, none⟩) rows.length rows.length]
    have BG3 := BG2.alloc (.cells #[.string s, .int .i64 wd, .slice (some ⟨g, 0, none⟩) rows.length rows.length] 28)
    have BR3 := BR2.alloc (.cells #[.string s, .int .i64 wd, .slice (some ⟨g, 0, none⟩) rows.length rows.length] 28)
    have hM3 := hM2.alloc (.cells #[.string s, .int .i64 wd, .slice (some ⟨g, 0, none⟩) rows.length rows.length] 28)
    have hE3 := hE2.on b3
    have hEl := hE2.lt
    have hR3 := hR2.on b3
    have hI3 := hI2.on b3
    have hW3 : Below G w (w2.alloc (.cells #[.string s, .int .i64 wd, .slice (some ⟨g, 0, none⟩) rows.length rows.length] 28)) := hW2.trans (b3.mono (by omega))
    have d1 := BG3.cell 1
    have d2 := BG3.cell 2
    simp only [List.getElem?_toArray, List.getElem?_cons_zero, List.getElem?_cons_succ] at d1 d2
    clear he2 hel g0 g1 g2 BG1 BR1 hR1 hI1 hW1 hb2 hM2 hE2 BG2 BR2 hR2 hI2 hW2 b3
    have r0 := BR3.cell 0
    have r1 := BR3.cell 1
    have r2 := BR3.cell 2
    have fr0 := BR3.frozen 0
    have fr1 := BR3.frozen 1
    have fr2 := BR3.frozen 2
    have o0 := BO3.cell 0
    have o1 := BO3.cell 1
    have o2 := BO3.cell 2
    simp only [List.getElem?_toArray, List.getElem?_cons_zero, List.getElem?_cons_succ] at o0 o1 o2 r0 r1 r2
    have hWR3 : WRows (w2.alloc (.cells #[.string s, .int .i64 wd, .slice (some ⟨g, 0, none⟩) rows.length rows.length] 28)) w1.heap.size (.slice (some ⟨g, 0, none⟩) rows.length rows.length) es := by
      have := WRows.of_blk (cap := rows.length) hM3 (show (rowCs es).take es.length = rowCs es by rw [← rowCs_length, List.take_length]) hE3 hg2
      rwa [HEL.out] at this
    by_cases h30 : rows.length = 30
    · have HT := Lib.hid (show plB s wd rows row = false by unfold plB; rw [decide_eq_false (p := rows.length ≠ 30) (fun h => h h30), Bool.and_false])
      have h30b : ((rows.length : Int) == 30) = true := by rw [h30]; rfl
      clear h30
      go_wp2
      refine bodyPost_ret (v := .tuple #[.agg #[.string s, .int .i64 wd, .slice (some ⟨g, 0, none⟩) rows.length rows.length], .bool false]) (by simp [results, Try.f23, go_sem, *]) rfl ?_
      rw [HT.out, HTT.out]
      obtain ⟨k1, k2⟩ := wans_end (lo := w1.heap.size) (s := s) (wd := wd) (a0 := .string s) (a1 := .int .i64 wd) HGG.out hWR3 (by omega) HE2.out hW3
      exact ⟨_, rfl, k1, k2⟩
    have H30 := Lib.hid h30
    have h30b : ((rows.length : Int) == 30) = false := by simp; omega
    have hl30 : rows.length < 30 := by omega
    clear h30 r0 r1 r2 fr0 fr1 fr2 o0 o1 o2
    go_wp2_with fail
    clear d1 d2 h30b
    generalize hww : w2.alloc (.cells #[.string s, .int .i64 wd, .slice (some ⟨g, 0, none⟩) rows.length rows.length] 28) = w3 at *
    have hs3 : w3.heap.size = w2.heap.size + 1 := by rw [← hww]; simp
    clear hww
    generalize hOO : w2.heap.size = O at *
    clear hOO
    refine (fits_any A' c' row wd hr w3 hI3).mono ?_
    rintro e w4 ⟨rfl, hb4⟩
    have BR4 := BR3.below hb4 BR3.lt
    have BO4 := BO3.below hb4 BO3.lt
    have BG4 := BG3.below hb4 BG3.lt
    have hM4 := hM3.below hb4 hM3.lt
    have hE4 := hE3.on hb4
    have hI4 := hI3.on hb4
    have hR4 := hR3.on hb4
    have hWR4 := hWR3.on hb4
    have hW4 : Below G w w4 := hW3.trans (hb4.mono (by omega))
    have hs4 : O + 1 ≤ w4.heap.size := by have := hb4.size; omega
    clear BR3 BO3 BG3 hM3 hE3 hI3 hR3 hWR3 hW3 hb4
    have r0 := BR4.cell 0
    have r1 := BR4.cell 1
    have r2 := BR4.cell 2
    have fr0 := BR4.frozen 0
    have fr1 := BR4.frozen 1
    have fr2 := BR4.frozen 2
    have o0 := BO4.cell 0
    have o1 := BO4.cell 1
    have o2 := BO4.cell 2
    simp only [List.getElem?_toArray, List.getElem?_cons_zero, List.getElem?_cons_succ] at o0 o1 o2 r0 r1 r2
    cases hf : rowFit wd row with
    | false =>
      have HT := Lib.hid (show plB s wd rows row = false by unfold plB; rw [hf, Bool.and_false]; rfl)
      clear hf
      go_wp2
      refine bodyPost_ret (v := .tuple #[.agg #[.string s, .int .i64 wd, .slice (some ⟨g, 0, none⟩) rows.length rows.length], .bool false]) (by simp [results, Try.f23, go_sem, *]) rfl ?_
      rw [HT.out, HTT.out]
      obtain ⟨k1, k2⟩ := wans_end (lo := w1.heap.size) (s := s) (wd := wd) (a0 := .string s) (a1 := .int .i64 wd) HGG.out hWR4 (by omega) HE2.out hW4
      exact ⟨_, rfl, k1, k2⟩
    | true =>
      have HF := Lib.hid hf
      have hpr := fit_pos hf HW4.out
      have hlr : row.length ≤ 4 := by
        have h1 := fit_len hf
        have h2 := HW4.out
        unfold inB at h2
        rw [Bool.and_eq_true, decide_eq_true_eq, decide_eq_true_eq] at h2
        omega
      obtain ⟨br, oo, rfl, hbr, cr⟩ := hI4.first hpr
      have g2 := BG4.cell 2
      simp only [List.getElem?_toArray, List.getElem?_cons_zero, List.getElem?_cons_succ] at g2
      have HPK := Lib.hid (show ∀ k, Calls Try.prog 62 #[.slice A rows.length c, .int .i64 (ky row)] (w4.drewN k) fun e w' => e = .returned (.tuple #[.int .i64 (plcK rows (ky row)), .bool (fndB rows (ky row))]) ∧ w' = w4.drewN k from fun k => (placeOfKey_any A c rows (ky row) (w4.drewN k) w4.heap.size (hR4.drewN k) hSK hPos hl).mono fun _ _ h => ⟨h.1, h.2.symm⟩)
      clear hf
      cases hfd : fndB rows (ky row) with
      | true =>
        have HT := Lib.hid (show plB s wd rows row = false by
          unfold plB
          have h1 := of_decide_eq_true (HFS.out.trans hfd)
          rw [decide_eq_false (p := ¬ idxK rows (ky row) < rows.length) (fun h => h h1), Bool.and_false]; rfl)
        rw [hfd] at HPK
        clear hfd
        go_wp2_with fail
        go_quiet (first | (go_at_call 62; exact Calls.quiet_of_same (HPK.out _)))
        go_wp2
        refine bodyPost_ret (v := .tuple #[.agg #[.string s, .int .i64 wd, .slice (some ⟨g, 0, none⟩) rows.length rows.length], .bool false]) (by simp [results, Try.f23, go_sem, *]) rfl ?_
        rw [HT.out, HTT.out]
        obtain ⟨k1, k2⟩ := wans_end (lo := w1.heap.size) (s := s) (wd := wd) (a0 := .string s) (a1 := .int .i64 wd) HGG.out (show WRows (w4.drewN nq) _ _ _ from hWR4) (by omega) HE2.out (bel_drewN hW4 nq)
        exact ⟨_, rfl, k1, k2⟩
      | false =>
        have HT := Lib.hid (show plB s wd rows row = true by
          unfold plB
          have h1 := of_decide_eq_false (HFS.out.trans hfd)
          rw [HTT.out, HF.out, decide_eq_true h1, decide_eq_true (p := rows.length ≠ 30) H30.out]; rfl)
        rw [hfd] at HPK
        have hpn := plc_le rows (ky row)
        obtain ⟨p, hp⟩ : ∃ p, plcK rows (ky row) = p := ⟨_, rfl⟩
        have HPR := Lib.hid (show plR rows row true = rows.take p ++ row :: rows.drop p by unfold plR placedL; rw [if_pos rfl, hp])
        rw [hp] at HPK hpn
        clear hfd hp
        obtain ⟨n, hn⟩ : ∃ n, rows.length = n := ⟨_, rfl⟩
        have HN := Lib.hid (show es.length = n by rw [HEL.out, hn])
        rw [hn] at hpn hl30 o2 BO4 HPK g2 ⊢
        clear hn
        have hown4 : ∀ k, (w4.drewN k).ownsRow w1.heap.size 45 1 (.slice (some ⟨g, 0, none⟩) n n) n (rowCs es) := fun k => ⟨by rw [rowCs_length, HN.out, Nat.mul_one], .inr ⟨g, n, (rowCs es).toArray, rfl, hg2, hM4, Nat.le_refl _, by simp only [maxLen]; omega, by simp [rowCs_length, HN.out], by rw [Nat.mul_one, ← HN.out, ← rowCs_length]; exact List.take_length⟩⟩
        go_wp2_with fail
        go_quiet (first | (go_at_call 62; exact Calls.quiet_of_same (HPK.out _)))
        have hown4q := hown4 nq
        have hE4q : EntsAt (w4.drewN nq) w1.heap.size (some g) es := hE4
        have hRow4 : Ints (w4.drewN nq) (w4.drewN nq).heap.size (some ⟨br, oo, none⟩) row := hI4
        have BO4q := BO4.drewN nq
        have BR4q := BR4.drewN nq
        have hW4q := bel_drewN hW4 nq
        have hs4q : O + 1 ≤ (w4.drewN nq).heap.size := hs4
        have oq2 : (w4.drewN nq).cell? ⟨O, 2, none⟩ = some (.slice (some ⟨g, 0, none⟩) n n) := o2
        clear hown4 hE4 hI4 BO4 BR4 hW4 hs4 o0 o1 o2 r0 r1 r2 fr0 fr1 fr2 g2 BG4 hM4 hR4 hWR4 cr hbr HPK hSK hPos
        generalize w4.drewN nq = wq at *
        have oqa : (wq.alloc (.cells #[.slice none 0 0] 45)).cell? ⟨O, 2, none⟩ = some (.slice (some ⟨g, 0, none⟩) n n) := (World.cell?_alloc_lt _ _ _ (by show O < wq.heap.size; omega)).trans oq2
        go_wp2_with (at_builtin; refine wpList_append_any _ rfl (.tmp 39) (.tmp 40) 22 rfl w1.heap.size 45 i0 _ 1 24 Try.underlying22 hi0 hz0 hz1 hz2 rfl (by decide) _ _ (rowCs es) rfl (hown4q.alloc _) _ (some ⟨wq.heap.size, 0, none⟩) 1 1 [.slice none 0 0] rfl (reads_newT wq _ _) (by simp [Value.oneCell']) (by simp only [maxLen]; omega) (by omega) (by rw [World.size_alloc]; omega) ?_; intro v5 w5 hown5 hg5 hat5; obtain ⟨A5, cap5, rfl⟩ := own_form hown5; have B5 : Blk w5 O 28 #[.string s, .int .i64 wd, .slice (some ⟨g, 0, none⟩) n n] := (BO4q.alloc _).grown hg5 (fun e => by have e' : O = g := Option.some.inj e; omega); have s2 := B5.cell 2; have f2 := B5.frozen 2; simp only [List.getElem?_toArray, List.getElem?_cons_zero, List.getElem?_cons_succ] at s2)
        obtain ⟨g5, cur5, rfl, hlo5, hh5, hcap5, hsz5, ht5⟩ : ∃ g5 cur5, A5 = some ⟨g5, 0, none⟩ ∧ w1.heap.size ≤ g5 ∧ Blk w5 g5 45 cur5 ∧ n + 1 ≤ cap5 ∧ cur5.size = cap5 ∧ cur5.toList.take (n + 1) = rowCs es ++ [.slice none 0 0] := by
          rcases hown5.2 with ⟨hv, _⟩ | ⟨g5, cap', cur5, hv, h1, h2, h3, _, h5, h6⟩
          · injection hv with _ hv _; omega
          · injection hv with h7 _ h9
            subst h9
            exact ⟨g5, cur5, h7, h1, h2, h3, by rw [h5, Nat.mul_one], by rwa [Nat.mul_one] at h6⟩
        have hg5' : (wq.alloc (.cells #[.slice none 0 0] 45)).grownBy w5 (some g) := hg5
        have hat5' : g5 = g ∨ g5 = (wq.alloc (.cells #[.slice none 0 0] 45)).heap.size := by
          rcases hat5 with h | h
          · exact .inl (Option.some.inj h)
          · exact .inr (Option.some.inj h)
        rw [World.size_alloc] at hat5'
        have hs5 : wq.heap.size + 1 ≤ w5.heap.size := by have := hg5'.size; rwa [World.size_alloc] at this
        have hg5O : g5 ≠ O := by rcases hat5' with h | h <;> omega
        have bqa := (Below.refl wq.heap.size wq).alloc (Nat.le_refl _) (.cells #[.slice none 0 0] 45)
        have hElq := hE4q.lt
        have hE5 : EntsAt w5 w1.heap.size (some g5) es := ((hE4q.on bqa).grown hg5').renew (fun e he hn => by
          have h1 := hElq e he hn
          have h2 := ((hE4q.1 e he).2 hn).2
          rcases hat5' with h | h
          · rw [h]; exact fun e1 => h2 (congrArg some e1)
          · omega)
        have hEO : ∀ e ∈ es, 0 < e.r.length → e.g ≠ O := fun e he hn => by have := hEl e he hn; omega
        have hW5 : Below G w w5 := (hW4q.alloc (by omega) _).grown hg5' (by rw [World.size_alloc]; omega) (fun r e => by have e' : g = r := Option.some.inj e; omega)
        have HV := Lib.hid hEO
        clear hEO
        have s6 := B5.set_ 2 (.slice (some ⟨g5, 0, none⟩) (n + 1) cap5)
        simp only [List.setIfInBounds_toArray, List.set_cons_succ, List.set_cons_zero] at s6
        have hM6 := hh5.far (p := ⟨O, 2, none⟩) hg5O (.slice (some ⟨g5, 0, none⟩) (n + 1) cap5)
        have hE6 := hE5.far ⟨O, 2, none⟩ (.slice (some ⟨g5, 0, none⟩) (n + 1) cap5) HV.out
        have BR6 := ((BR4q.alloc (.cells #[.slice none 0 0] 45)).grown hg5' (fun e => by have e' : G + 1 = g := Option.some.inj e; omega)).far (p := ⟨O, 2, none⟩) (by show G + 1 ≠ O; omega) (.slice (some ⟨g5, 0, none⟩) (n + 1) cap5)
        have hW6 := hW5.setCell (p := ⟨O, 2, none⟩) (by show G ≤ O; omega) (.slice (some ⟨g5, 0, none⟩) (n + 1) cap5)
        have hs6 : O + 1 < (w5.setCell ⟨O, 2, none⟩ (.slice (some ⟨g5, 0, none⟩) (n + 1) cap5)).heap.size := by simp [World.setCell]; omega
        have hg6 : g5 < (w5.setCell ⟨O, 2, none⟩ (.slice (some ⟨g5, 0, none⟩) (n + 1) cap5)).heap.size := hM6.lt
        clear hown5 hg5 hat5 B5 s2 f2 hh5 hE5 BR4q BO4q hW5 hW4q hown4q hE4q oq2 oqa hRow4 hg5' bqa hElq
        generalize w5.setCell ⟨O, 2, none⟩ (.slice (some ⟨g5, 0, none⟩) (n + 1) cap5) = w6 at *
        have hsz : (Try.prog.info? 45).map (·.size) = some 1 := by rw [hi0, Option.map_some, hz1]
        have hrl : (rowCs es).length = n := by rw [rowCs_length, HN.out]
        have hcl : ((rowCs es).drop p).length = n - p := by rw [List.length_drop, hrl]
        have hcur : cur5 = cur5.toList.toArray := rfl
        have hcl5 : cur5.toList.length = cap5 := by rw [Array.length_toList]; exact hsz5
        generalize hcu : cur5.toList = cur at *
        subst hcur
        have hone : ∀ v ∈ (rowCs es).drop p, v.oneCell' = true := fun v hv => rowCs_one es v (List.mem_of_mem_drop hv)
        have HSRC := Lib.hid (show ∀ j v, ((rowCs es).drop p)[j]? = some v → w6.cell? (Addr.add ⟨g5, p, none⟩ j) = some v from fun j v hv => by
          have ea : Addr.add ⟨g5, p, none⟩ j = ⟨g5, p + j, none⟩ := by unfold Addr.add; split <;> simp_all
          have hj : p + j < n := by
            rw [List.getElem?_drop] at hv
            have := (List.getElem?_eq_some_iff.1 hv).1
            omega
          have e1 : cur[p + j]? = (rowCs es)[p + j]? := by
            have : (cur.take (n + 1))[p + j]? = (rowCs es ++ [.slice none 0 0])[p + j]? := by rw [ht5]
            rwa [List.getElem?_take, if_pos (by omega), List.getElem?_append_left (by omega)] at this
          rw [ea, hM6.cell, List.getElem?_toArray, e1, ← hv, List.getElem?_drop])
        have HT5 := Lib.hid ht5
        have HCL := Lib.hid hcl
        have HRL := Lib.hid hrl
        have HC5 := Lib.hid hcl5
        have HONE := Lib.hid hone
        have q2 := s6.cell 2
        simp only [List.getElem?_toArray, List.getElem?_cons_zero, List.getElem?_cons_succ] at q2
        have hp0 : (0 : Int) ≤ (p : Int) := Int.natCast_nonneg _
        have hp1 : (0 : Int) ≤ (p : Int) + 1 := by omega
        have hwp : IntKind.i64.wrap ((p : Int) + 1) = (p : Int) + 1 := by rw [IntKind.wrap_i64]; omega
        have htp : ((p : Int) + 1).toNat = p + 1 := by omega
        have hpa : (p : Int) ≤ (n : Int) + 1 := by omega
        have hpb : (p : Int) + 1 ≤ (n : Int) + 1 := by omega
        have hpc : ¬ cap5 = p := by omega
        have hpe : (p : Int) < (n : Int) + 1 := by omega
        have hpd : (n : Int) + 1 ≤ (cap5 : Int) := by omega
        clear ht5 hcl hrl hcl5 hone hat5' hcu hsz5
        by_cases hcp : cap5 = p + 1
        · obtain rfl : p = n := by omega
          subst hcp
          have hcA : (p : Int) ≤ (p : Int) + 1 := by omega
          have hcB : (p : Int) < (p : Int) + 1 := by omega
          go_wp2_with fail
          go_region_law (first | (refine step_copy_grown (by rfl) (.tmp 47) (.tmp 51) 22 22 (by rfl) 45 Try.underlying22 hsz (some ⟨g5, 0, none⟩) (some ⟨g5, p, none⟩) 0 0 1 1 (by rfl) (by rfl) g5 (p + 1) cur 45 (by exact hM6) ((rowCs es).drop p) (by rw [HCL.out]; simp) (fun h => absurd h (by rw [HCL.out]; simp)) (by rw [HCL.out, HC5.out]; omega) HONE.out ?_; intro w7 h7 hg7 hs7))
          all_goals
            have hg7' := grown_trans (grown_drewN w6 1 (some g5)) hg7
            have hM7 := Lib.hid h7.out
            have BO7 : Blk w7 O 28 #[.string s, .int .i64 wd, .slice (some ⟨g5, 0, none⟩) (p + 1) (p + 1)] := s6.grown hg7' (fun e => hg5O (Option.some.inj e).symm)
            have BR7 := BR6.grown hg7' (fun e => by have e' : G + 1 = g5 := Option.some.inj e; omega)
            have hE7 := hE6.grown hg7'
            have hW7 : Below G w w7 := hW6.grown hg7' (by omega) (fun r e => by have e' : g5 = r := Option.some.inj e; omega)
            have hs7' : w7.heap.size = w6.heap.size := hs7
            have hI7 : Ints w7 w7.heap.size (some ⟨br, oo, none⟩) row := (hI.below hW7).more (by omega)
            clear hg7 hs7 h7 hg7' hE6 hM6 hW6 s6 BR6 q2
            have hgl7 : g5 < w7.heap.size := by omega
            have hOl7 : O < w7.heap.size := by omega
            have hB7 : Blk w7 g5 45 (splice cur (p + 1) ((rowCs es).drop p)).toArray := hM7.out
            obtain ⟨uu, huu⟩ : ∃ uu, (splice cur (p + 1) ((rowCs es).drop p))[p]? = some uu := ⟨_, List.getElem?_eq_getElem (by rw [length_splice _ _ _ (by rw [HCL.out, HC5.out]; omega), HC5.out]; omega)⟩
            have x1 : w7.cell? ⟨g5, p, none⟩ = some uu := by rw [hB7.cell, List.getElem?_toArray]; exact huu
            have x2 := hB7.frozen p
            have q2 := BO7.cell 2
            simp only [List.getElem?_toArray, List.getElem?_cons_zero, List.getElem?_cons_succ] at q2
            have HX := Lib.hid (And.intro q2 x1)
            go_wp2_with fail
            go_region_law (first | (go_simp; refine (copyOfRow_row (some ⟨br, oo, none⟩) c' row _ (by exact hI7) (by omega)).mono ?_; rintro e w8 ⟨A8, cap8, g8, rfl, hg8, hR8, hb8⟩; have hk8 : Below w7.heap.size w7 w8 := (bel_drewN (Below.refl _ _) 1).trans hb8; have q8 : w8.cell? ⟨O, 2, none⟩ = some (.slice (some ⟨g5, 0, none⟩) (p + 1) (p + 1)) := (hk8.cell hOl7).trans HX.out.1; have x8 : w8.cell? ⟨g5, p, none⟩ = some uu := (hk8.cell hgl7).trans HX.out.2; have f8 := (hB7.below hk8 hgl7).frozen p))
            all_goals
              have hg8' : w7.heap.size ≤ g8 := hg8
              have BO9 := (BO7.below hk8 hOl7).far (p := ⟨g5, p, none⟩) (fun e => hg5O e.symm) (.slice A8 row.length cap8)
              have BR9 := (BR7.below hk8 BR7.lt).far (p := ⟨g5, p, none⟩) (by show G + 1 ≠ g5; omega) (.slice A8 row.length cap8)
              have hM9 := (hB7.below hk8 hgl7).set_ p (.slice A8 row.length cap8)
              rw [List.setIfInBounds_toArray] at hM9
              have hE9 := ((hE7.on hk8).ins (k := p) (e0 := ⟨row, 0, A8, cap8, g8⟩) hR8 (fun _ => ⟨by show w1.heap.size ≤ g8; omega, fun e => by have e' : g8 = g5 := Option.some.inj e; omega, fun e he hn => by have := hE7.lt e he hn; show e.g ≠ g8; omega⟩)).set_ p (.slice A8 row.length cap8)
              have hW9 := (hW7.trans (hk8.mono (by omega))).setCell (p := ⟨g5, p, none⟩) (by show G ≤ g5; omega) (.slice A8 row.length cap8)
              have hlen9 : (es.take p ++ (⟨row, 0, A8, cap8, g8⟩ : Ent) :: es.drop p).length = (p + 1) := by rw [List.length_append, List.length_cons, List.length_take, List.length_drop, HN.out]; omega
              have hWR9 : WRows (w8.setCell ⟨g5, p, none⟩ (.slice A8 row.length cap8)) w1.heap.size (.slice (some ⟨g5, 0, none⟩) (p + 1) (p + 1)) (es.take p ++ (⟨row, 0, A8, cap8, g8⟩ : Ent) :: es.drop p) := by
                have := WRows.of_blk (cap := (p + 1)) hM9 (by rw [hlen9, rowCs_ins]; exact splice_placed HRL.out hpn HT5.out) hE9 hlo5
                rwa [hlen9] at this
              have HP9 := Lib.hid (show (es.take p ++ (⟨row, 0, A8, cap8, g8⟩ : Ent) :: es.drop p).map Ent.r = plR rows row true by rw [HPR.out, List.map_append, List.map_cons, List.map_take, List.map_drop, HE2.out])
              have o0 := BO9.cell 0
              have o1 := BO9.cell 1
              have o2 := BO9.cell 2
              have r0 := BR9.cell 0
              have r1 := BR9.cell 1
              have r2 := BR9.cell 2
              have fr0 := BR9.frozen 0
              have fr1 := BR9.frozen 1
              have fr2 := BR9.frozen 2
              simp only [List.getElem?_toArray, List.getElem?_cons_zero, List.getElem?_cons_succ] at o0 o1 o2 r0 r1 r2
              clear BO9 BR9 hM9 hE9 hlen9 hk8 hb8 hR8 hg8 q8 x8 f8 q2 x1 x2 hB7 BO7 BR7 hE7 hW7 hI7
              generalize w8.setCell ⟨g5, p, none⟩ (.slice A8 row.length cap8) = w9 at *
              go_wp2
              refine bodyPost_ret (v := .tuple #[.agg #[.string s, .int .i64 wd, .slice (some ⟨g5, 0, none⟩) (p + 1) (p + 1)], .bool true]) (by simp [results, Try.f23, go_sem, *]) rfl ?_
              rw [HT.out, HTT.out]
              obtain ⟨k1, k2⟩ := wans_end (lo := w1.heap.size) (s := s) (wd := wd) (a0 := .string s) (a1 := .int .i64 wd) HGG.out hWR9 (by omega) HP9.out hW9
              exact ⟨_, rfl, k1, k2⟩
        · go_wp2_with fail
          go_region_law (first | (refine step_copy_grown (by rfl) (.tmp 47) (.tmp 51) 22 22 (by rfl) 45 Try.underlying22 hsz (some ⟨g5, p + 1, none⟩) (some ⟨g5, p, none⟩) (n - p) (cap5 - (p + 1)) (n + 1 - p) (cap5 - p) (by rfl) (by rfl) g5 (p + 1) cur 45 (by exact hM6) ((rowCs es).drop p) (by rw [HCL.out]; show n - p = min (n + 1 - p) (n - p); omega) (fun _ => ⟨rfl, _, rfl, HSRC.out⟩) (by rw [HCL.out, HC5.out]; omega) HONE.out ?_; intro w7 h7 hg7 hs7))
          all_goals
            have hg7' := grown_trans (grown_drewN w6 1 (some g5)) hg7
            have hM7 := Lib.hid h7.out
            have BO7 : Blk w7 O 28 #[.string s, .int .i64 wd, .slice (some ⟨g5, 0, none⟩) (n + 1) cap5] := s6.grown hg7' (fun e => hg5O (Option.some.inj e).symm)
            have BR7 := BR6.grown hg7' (fun e => by have e' : G + 1 = g5 := Option.some.inj e; omega)
            have hE7 := hE6.grown hg7'
            have hW7 : Below G w w7 := hW6.grown hg7' (by omega) (fun r e => by have e' : g5 = r := Option.some.inj e; omega)
            have hs7' : w7.heap.size = w6.heap.size := hs7
            have hI7 : Ints w7 w7.heap.size (some ⟨br, oo, none⟩) row := (hI.below hW7).more (by omega)
            clear hg7 hs7 h7 hg7' hE6 hM6 hW6 s6 BR6 q2
            have hgl7 : g5 < w7.heap.size := by omega
            have hOl7 : O < w7.heap.size := by omega
            have hB7 : Blk w7 g5 45 (splice cur (p + 1) ((rowCs es).drop p)).toArray := hM7.out
            obtain ⟨uu, huu⟩ : ∃ uu, (splice cur (p + 1) ((rowCs es).drop p))[p]? = some uu := ⟨_, List.getElem?_eq_getElem (by rw [length_splice _ _ _ (by rw [HCL.out, HC5.out]; omega), HC5.out]; omega)⟩
            have x1 : w7.cell? ⟨g5, p, none⟩ = some uu := by rw [hB7.cell, List.getElem?_toArray]; exact huu
            have x2 := hB7.frozen p
            have q2 := BO7.cell 2
            simp only [List.getElem?_toArray, List.getElem?_cons_zero, List.getElem?_cons_succ] at q2
            have HX := Lib.hid (And.intro q2 x1)
            go_wp2_with fail
            go_region_law (first | (go_simp; refine (copyOfRow_row (some ⟨br, oo, none⟩) c' row _ (by exact hI7) (by omega)).mono ?_; rintro e w8 ⟨A8, cap8, g8, rfl, hg8, hR8, hb8⟩; have hk8 : Below w7.heap.size w7 w8 := (bel_drewN (Below.refl _ _) 1).trans hb8; have q8 : w8.cell? ⟨O, 2, none⟩ = some (.slice (some ⟨g5, 0, none⟩) (n + 1) cap5) := (hk8.cell hOl7).trans HX.out.1; have x8 : w8.cell? ⟨g5, p, none⟩ = some uu := (hk8.cell hgl7).trans HX.out.2; have f8 := (hB7.below hk8 hgl7).frozen p))
            all_goals
              have hg8' : w7.heap.size ≤ g8 := hg8
              have BO9 := (BO7.below hk8 hOl7).far (p := ⟨g5, p, none⟩) (fun e => hg5O e.symm) (.slice A8 row.length cap8)
              have BR9 := (BR7.below hk8 BR7.lt).far (p := ⟨g5, p, none⟩) (by show G + 1 ≠ g5; omega) (.slice A8 row.length cap8)
              have hM9 := (hB7.below hk8 hgl7).set_ p (.slice A8 row.length cap8)
              rw [List.setIfInBounds_toArray] at hM9
              have hE9 := ((hE7.on hk8).ins (k := p) (e0 := ⟨row, 0, A8, cap8, g8⟩) hR8 (fun _ => ⟨by show w1.heap.size ≤ g8; omega, fun e => by have e' : g8 = g5 := Option.some.inj e; omega, fun e he hn => by have := hE7.lt e he hn; show e.g ≠ g8; omega⟩)).set_ p (.slice A8 row.length cap8)
              have hW9 := (hW7.trans (hk8.mono (by omega))).setCell (p := ⟨g5, p, none⟩) (by show G ≤ g5; omega) (.slice A8 row.length cap8)
              have hlen9 : (es.take p ++ (⟨row, 0, A8, cap8, g8⟩ : Ent) :: es.drop p).length = (n + 1) := by rw [List.length_append, List.length_cons, List.length_take, List.length_drop, HN.out]; omega
              have hWR9 : WRows (w8.setCell ⟨g5, p, none⟩ (.slice A8 row.length cap8)) w1.heap.size (.slice (some ⟨g5, 0, none⟩) (n + 1) cap5) (es.take p ++ (⟨row, 0, A8, cap8, g8⟩ : Ent) :: es.drop p) := by
                have := WRows.of_blk (cap := cap5) hM9 (by rw [hlen9, rowCs_ins]; exact splice_placed HRL.out hpn HT5.out) hE9 hlo5
                rwa [hlen9] at this
              have HP9 := Lib.hid (show (es.take p ++ (⟨row, 0, A8, cap8, g8⟩ : Ent) :: es.drop p).map Ent.r = plR rows row true by rw [HPR.out, List.map_append, List.map_cons, List.map_take, List.map_drop, HE2.out])
              have o0 := BO9.cell 0
              have o1 := BO9.cell 1
              have o2 := BO9.cell 2
              have r0 := BR9.cell 0
              have r1 := BR9.cell 1
              have r2 := BR9.cell 2
              have fr0 := BR9.frozen 0
              have fr1 := BR9.frozen 1
              have fr2 := BR9.frozen 2
              simp only [List.getElem?_toArray, List.getElem?_cons_zero, List.getElem?_cons_succ] at o0 o1 o2 r0 r1 r2
              clear BO9 BR9 hM9 hE9 hlen9 hk8 hb8 hR8 hg8 q8 x8 f8 q2 x1 x2 hB7 BO7 BR7 hE7 hW7 hI7
              generalize w8.setCell ⟨g5, p, none⟩ (.slice A8 row.length cap8) = w9 at *
              go_wp2
              refine bodyPost_ret (v := .tuple #[.agg #[.string s, .int .i64 wd, .slice (some ⟨g5, 0, none⟩) (n + 1) cap5], .bool true]) (by simp [results, Try.f23, go_sem, *]) rfl ?_
              rw [HT.out, HTT.out]
              obtain ⟨k1, k2⟩ := wans_end (lo := w1.heap.size) (s := s) (wd := wd) (a0 := .string s) (a1 := .int .i64 wd) HGG.out hWR9 (by omega) HP9.out hW9
              exact ⟨_, rfl, k1, k2⟩
end Go.Proofs.Ytedbjjhkjkpnkaa
