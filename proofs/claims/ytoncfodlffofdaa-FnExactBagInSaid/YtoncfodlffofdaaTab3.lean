/- Contracts of the model's RowAt and l4Copy: a row, a table of the call's own; nothing that lay has turned. -/
import Derived.Test.YtoncfodlffofdaaTab2
import Derived.Deep.RegionLaw
namespace Go.Proofs.Ytoncfodlffofdaa
open Go.RowKit

def thereB (s : ByteArray) (wd : Int) (rows : List (List Int)) (q : Int) : Bool := tabB s wd rows && decide (idxK rows q < rows.length)
def atL (s : ByteArray) (wd : Int) (rows : List (List Int)) (q : Int) : List Int := if thereB s wd rows q = true then rr rows (idxK rows q) else []
/-- A row of the call's own, and whether it is there. -/
def AtRow (zs : List Int) (b : Bool) (w : World) (e : Ending) (w' : World) : Prop :=
  ∃ v, e = .returned (.tuple #[v, .bool b]) ∧ w'.ownsRow w.heap.size 2 1 v zs.length (i64l zs) ∧ Below w.heap.size w w'
theorem tab_pos {s : ByteArray} {wd : Int} {rows : List (List Int)} (h : tabB s wd rows = true) : ∀ j, j < rows.length → 0 < (rr rows j).length := fun j hj => by
  unfold tabB at h
  rw [Bool.and_eq_true] at h
  obtain ⟨⟨h1, _⟩, _, h4⟩ := rowsOk_iff.1 h.2
  exact fit_pos (h4 (rr rows j) (by rw [rr_eq hj]; exact List.getElem_mem hj)) h1
theorem tab_len {s : ByteArray} {wd : Int} {rows : List (List Int)} (h : tabB s wd rows = true) : rows.length ≤ 30 := by
  unfold tabB at h
  rw [Bool.and_eq_true] at h
  exact (rowsOk_iff.1 h.2).1.2
theorem own_low {w : World} {base base' : Nat} {e : TypeId} {size : Nat} {v : Value} {n : Nat} {xs : List Value} (h : w.ownsRow base e size v n xs) (hl : base' ≤ base) : w.ownsRow base' e size v n xs := by
  refine ⟨h.1, ?_⟩
  rcases h.2 with h2 | ⟨g, cap, cur, rfl, h4, h5⟩
  · exact .inl h2
  · exact .inr ⟨g, cap, cur, rfl, by omega, h5⟩
set_option maxRecDepth 100000 in
set_option maxHeartbeats 4000000 in
theorem specRowAt_any (s : ByteArray) (wd : Int) (A : Option Addr) (c : Nat) (rows : List (List Int)) (q : Int) (w : World) (hR : Rws w w.heap.size A rows) (hs : s.size ≤ 1099511627776) (hl : rows.length ≤ 1099511627776) :
    Calls Try.prog 65 #[.agg #[.string s, .int .i64 wd, .slice A rows.length c], .int .i64 q] w (AtRow (atL s wd rows q) (thereB s wd rows q) w) := by
  have bc := (Below.refl w.heap.size w).alloc (Nat.le_refl _) (.cells #[.string s, .int .i64 wd, .slice A rows.length c] 44)
  have BC := Blk.new w 44 #[.string s, .int .i64 wd, .slice A rows.length c]
  have hRb := hR.on bc
  have hGl := BC.lt
  go_enter Try.func65, Try.ntmps65
  go_wp2_with fail
  clear hR
  generalize w.alloc (.cells #[.string s, .int .i64 wd, .slice A rows.length c] 44) = wb at *
  refine (specTableOk_any s wd A c rows wb hRb hs hl).mono ?_
  rintro e w1 ⟨rfl, hb1⟩
  have B1 := BC.below hb1 hGl
  have hR1 := hRb.on hb1
  have hW1 : Below w.heap.size w w1 := bc.trans (hb1.mono bc.size)
  have hs1 : w.heap.size ≤ w1.heap.size := hW1.size
  have hG1 := B1.lt
  have d0 := B1.cell 0
  have d1 := B1.cell 1
  have d2 := B1.cell 2
  simp only [List.getElem?_toArray, List.getElem?_cons_zero, List.getElem?_cons_succ] at d0 d1 d2
  clear bc BC hRb hGl hb1
  cases ht : tabB s wd rows with
  | false =>
    have HT := Lib.hid (show thereB s wd rows q = false by unfold thereB; rw [ht]; rfl)
    have HA := Lib.hid (show atL s wd rows q = [] by unfold atL; rw [HT.out]; rfl)
    clear ht
    go_wp2
    go_ret2
    rw [HA.out, HT.out]
    exact ⟨_, rfl, ownsRow_empty w1 2 w.heap.size hs1, hW1.alloc hs1 _⟩
  | true =>
    have HP := Lib.hid (tab_pos ht)
    by_cases hfi : idxK rows q < rows.length
    · have HT := Lib.hid (show thereB s wd rows q = true by unfold thereB; rw [ht, decide_eq_true hfi]; rfl)
      have HA := Lib.hid (show atL s wd rows q = rr rows (idxK rows q) by unfold atL; rw [HT.out]; rfl)
      obtain ⟨i, hi⟩ : ∃ i, idxK rows q = i := ⟨_, rfl⟩
      have HF := Lib.hid (show findK rows q = (i : Int) by unfold findK; rw [if_pos hfi, hi])
      rw [hi] at hfi HA
      clear ht hi
      have HF2 := Lib.hid (show ∀ W, Rws W W.heap.size A rows → Calls Try.prog 128 #[.agg #[.string s, .int .i64 wd, .slice A rows.length c], .int .i64 q] W fun e w' => e = .returned (.int .i64 (i : Int)) ∧ Below W.heap.size W w' from fun W h => by rw [← HF.out]; exact l4Find_any s wd A c rows q W h hl HP.out)
      have hi0 : (0 : Int) ≤ (i : Int) := Int.natCast_nonneg _
      have hi1 : (i : Int) < (rows.length : Int) := by omega
      go_wp2_with fail
      refine (HF2.out w1 hR1).mono ?_
      rintro e w2 ⟨rfl, hb2⟩
      have B2 := B1.below hb2 hG1
      have hR2 := hR1.on hb2
      have hW2 : Below w.heap.size w w2 := hW1.trans (hb2.mono hs1)
      have hs2 : w.heap.size ≤ w2.heap.size := hW2.size
      have hG2 := B2.lt
      have e0 := B2.cell 0
      have e1 := B2.cell 1
      have e2 := B2.cell 2
      simp only [List.getElem?_toArray, List.getElem?_cons_zero, List.getElem?_cons_succ] at e0 e1 e2
      obtain ⟨b, off, Ar, cap, rfl, hb, h1, h2, h3⟩ := hR2.here1 hfi
      clear d0 d1 d2 B1 hR1 hW1 hs1 hG1 hb2
      have HX := Lib.hid (And.intro (And.intro e0 (And.intro e1 e2)) h1)
      generalize hGG : w.heap.size = G at *
      have HGG := Lib.hid hGG
      clear hGG
      go_wp2_with fail
      go_region_held3 (fun w' => (w'.cell? ⟨G, 0, none⟩ = some (.string s) ∧ w'.cell? ⟨G, 1, none⟩ = some (.int .i64 wd) ∧ w'.cell? ⟨G, 2, none⟩ = some (.slice (some ⟨b, off, none⟩) rows.length c)) ∧ w'.cell? ⟨b, off + i, none⟩ = some (.slice Ar (rr rows i).length cap))
        (first | go_keep | exact ⟨⟨(hk3.cell hG2).trans HX.out.1.1, (hk3.cell hG2).trans HX.out.1.2.1, (hk3.cell hG2).trans HX.out.1.2.2⟩, (hk3.cell hb).trans HX.out.2⟩ | exact ⟨⟨(hk4.cell hG2).trans HX.out.1.1, (hk4.cell hG2).trans HX.out.1.2.1, (hk4.cell hG2).trans HX.out.1.2.2⟩, (hk4.cell hb).trans HX.out.2⟩)
        (first | (go_at_call 128; refine (HF2.out _ (hR2.drewN 1)).mono ?_; rintro e w3 ⟨rfl, hb3⟩; have hk3 : Below w2.heap.size w2 w3 := (bel_drewN (Below.refl _ _) 1).trans hb3) | (go_at_call 129; refine (l1Row_any Ar cap (rr rows i) w3 (h2.on hk3) h3).mono ?_; rintro e w4 ⟨v4, rfl, hown4, hb4⟩; have hk4 : Below w2.heap.size w2 w4 := bel_step hk3 hb4))
      have hs3 : G ≤ w3.heap.size := Nat.le_trans hs2 hk3.size
      go_wp2
      go_ret2
      rw [HA.out, HT.out]
      exact ⟨v4, rfl, by rw [HGG.out]; exact own_low hown4 hs3, by rw [HGG.out]; exact hW2.trans (hk4.mono hs2)⟩
    · have HT := Lib.hid (show thereB s wd rows q = false by unfold thereB; rw [decide_eq_false hfi, Bool.and_false])
      have HA := Lib.hid (show atL s wd rows q = [] by unfold atL; rw [HT.out]; rfl)
      have HF := Lib.hid (show findK rows q = -1 by unfold findK; rw [if_neg hfi])
      clear ht hfi
      go_wp2_with fail
      refine (l4Find_any s wd A c rows q w1 hR1 hl HP.out).mono ?_
      rintro e w2 ⟨rfl, hb2⟩
      rw [HF.out]
      have hW2 : Below w.heap.size w w2 := hW1.trans (hb2.mono hs1)
      have hs2 : w.heap.size ≤ w2.heap.size := hW2.size
      go_wp2
      go_ret2
      rw [HA.out, HT.out]
      exact ⟨_, rfl, ownsRow_empty w2 2 w.heap.size hs2, hW2.alloc hs2 _⟩

theorem info_rowT : (Try.prog.info? 25).map (fun i => (i.zero, i.size, i.bytes)) = some (some (.slice none 0 0), 1, 24) := by kernel_rfl
theorem reads_newT (w : World) (t : TypeId) (u0 : Value) : Reads (w.alloc (.cells #[u0] t)) (w.heap.size + 1) 1 (some ⟨w.heap.size, 0, none⟩) 1 [u0] := by
  refine ⟨rfl, fun _ => ⟨_, rfl, Nat.lt_succ_self _, fun j u hu => ?_⟩⟩
  have hB := Blk.new w t #[u0]
  have ea : Addr.add ⟨w.heap.size, 0, none⟩ j = ⟨w.heap.size, 0 + j, none⟩ := by unfold Addr.add; split <;> simp_all
  rw [ea, Nat.zero_add, hB.cell j, ← hu]
  simp
/-- A table of the call's own: its name, its width, its rows. -/
def OwnTab (lo : Nat) (s : ByteArray) (wd : Int) (rows : List (List Int)) (v : Value) (w' : World) : Prop :=
  ∃ u es, v = .agg #[.string s, .int .i64 wd, u] ∧ ORows w' lo u es ∧ es.map Ent.r = rows
set_option maxRecDepth 100000 in
set_option maxHeartbeats 8000000 in
theorem l4Copy_any (s : ByteArray) (wd : Int) (A : Option Addr) (c : Nat) (rows : List (List Int)) (w : World) (hR : Rws w w.heap.size A rows) (hl : rows.length ≤ 1099511627776) :
    Calls Try.prog 126 #[.agg #[.string s, .int .i64 wd, .slice A rows.length c]] w fun e w' => ∃ v, e = .returned v ∧ OwnTab w.heap.size s wd rows v w' ∧ Below w.heap.size w w' := by
  obtain ⟨i0, hi0, hz0, hz1, hz2⟩ := info_parts info_rowT
  have bc := (bel_two (w := w) (.cells #[.string s, .int .i64 wd, .slice A rows.length c] 44) (.cells #[.string ⟨#[]⟩, .int .i64 0, .slice none 0 0] 44)).alloc (by simp; omega) (.cells #[.string s, .int .i64 wd, .slice none 0 0] 44)
  have BG := ((Blk.new w 44 #[.string s, .int .i64 wd, .slice A rows.length c]).alloc (.cells #[.string ⟨#[]⟩, .int .i64 0, .slice none 0 0] 44)).alloc (.cells #[.string s, .int .i64 wd, .slice none 0 0] 44)
  have BR := (Blk.new (w.alloc (.cells #[.string s, .int .i64 wd, .slice A rows.length c] 44)) 44 #[.string ⟨#[]⟩, .int .i64 0, .slice none 0 0]).alloc (.cells #[.string s, .int .i64 wd, .slice none 0 0] 44)
  have BO := Blk.new ((w.alloc (.cells #[.string s, .int .i64 wd, .slice A rows.length c] 44)).alloc (.cells #[.string ⟨#[]⟩, .int .i64 0, .slice none 0 0] 44)) 44 #[.string s, .int .i64 wd, .slice none 0 0]
  have e2 : (w.alloc (.cells #[.string s, .int .i64 wd, .slice A rows.length c] 44)).heap.size = w.heap.size + 1 := by simp
  have e3 : ((w.alloc (.cells #[.string s, .int .i64 wd, .slice A rows.length c] 44)).alloc (.cells #[.string ⟨#[]⟩, .int .i64 0, .slice none 0 0] 44)).heap.size = w.heap.size + 1 + 1 := by simp
  rw [e2] at BR
  rw [e3] at BO
  clear e2 e3
  go_enter Try.func126, Try.ntmps126
  go_wp2
  generalize ((w.alloc (.cells #[.string s, .int .i64 wd, .slice A rows.length c] 44)).alloc (.cells #[.string ⟨#[]⟩, .int .i64 0, .slice none 0 0] 44)).alloc (.cells #[.string s, .int .i64 wd, .slice none 0 0] 44) = wb at *
  generalize hGG : w.heap.size = G at *
  have HGG := Lib.hid hGG
  clear hGG
  go_loopw [4] (fun i wr => ∃ (k : Nat) (v : Value) (es : List Ent), k ≤ rows.length ∧ i = .int .i64 k ∧ Blk wr G 44 #[.string s, .int .i64 wd, .slice A rows.length c] ∧ Blk wr (G + 1) 44 #[.string ⟨#[]⟩, .int .i64 0, .slice none 0 0] ∧ Blk wr (G + 1 + 1) 44 #[.string s, .int .i64 wd, v] ∧ ORows wr (G + 3) v es ∧ es.map Ent.r = rows.take k ∧ Below G w wr) (fun i _ => rows.length - (intOf i).toNat)
  case atStart => exact ⟨0, _, [], Nat.zero_le _, rfl, BG, BR, BO, ORows.none_ _ _, by simp, bc⟩
  case round =>
    clear BG BR BO bc
    obtain ⟨k, v, es, hk, rfl, BG, BR, BO, hO, he, hW⟩ := hrel
    have HE := Lib.hid he
    have hel : es.length = k := by have := congrArg List.length HE.out; simp at this; omega
    have HEL := Lib.hid hel
    have hOl := BO.lt
    have g2 := BG.cell 2
    have o0 := BO.cell 0
    have o1 := BO.cell 1
    have o2 := BO.cell 2
    have r0 := BR.cell 0
    have r1 := BR.cell 1
    have r2 := BR.cell 2
    have fr0 := BR.frozen 0
    have fr1 := BR.frozen 1
    have fr2 := BR.frozen 2
    simp only [List.getElem?_toArray, List.getElem?_cons_zero, List.getElem?_cons_succ] at g2 o0 o1 o2 r0 r1 r2
    clear he hel
    by_cases hlt : k < rows.length
    · obtain ⟨b, off, Ar, cap, rfl, hb, h1, h2, h3⟩ := (hR.below hW).here1 hlt
      have hlor : G + 3 ≤ wr.heap.size := by omega
      have h2r := h2.more (show G ≤ wr.heap.size by omega)
      have hk0 : (0 : Int) ≤ (k : Int) := Int.natCast_nonneg _
      have hk1 : (k : Int) < (rows.length : Int) := by omega
      have hnO : some (G + 1 + 1) ≠ v.ownBlock := fun e => by have := (hO.1.lt _ e.symm).1; omega
      have hnG : some G ≠ v.ownBlock := fun e => by have := (hO.1.lt _ e.symm).1; omega
      have hnR : some (G + 1) ≠ v.ownBlock := fun e => by have := (hO.1.lt _ e.symm).1; omega
      go_wp2_with fail
      go_region_law (first | (refine step_append_any _ (by rfl) (.tmp 18) (.tmp 25) 42 (by rfl) (G + 3) 25 i0 _ 1 24 Try.underlying42 hi0 hz0 hz1 hz2 rfl (by decide) _ _ (rowCs es) (by rfl) (hO1.1.alloc _) _ (some ⟨w1.heap.size, 0, none⟩) 1 1 [.slice A1 (rr rows k).length cap1] (by rfl) (reads_newT w1 _ _) (by simp [Value.oneCell']) (by simp only [maxLen]; have := HEL.out; omega) (by have := HEL.out; omega) (by rw [World.size_alloc]; omega) ?_; intro v2 w2 hown2 hgrow2 hat2; obtain ⟨Av, cv, hv2⟩ := own_form hown2; subst hv2; have B2 : Blk w2 (G + 1 + 1) 44 #[.string s, .int .i64 wd, v] := (B1.alloc _).grown hgrow2 hnO; have s2 := B2.cell 2; have f2 := B2.frozen 2; simp only [List.getElem?_toArray, List.getElem?_cons_zero, List.getElem?_cons_succ] at s2) | (go_simp; refine (l1Row_row Ar cap (rr rows k) _ (by exact h2r) h3).mono ?_; rintro e w1 ⟨A1, cap1, g1, rfl, hg1, hR1, hb1⟩; have hO1 := (hO.drewN 1).on hb1; have B1 := (BO.drewN 1).below hb1 hOl; have hs1 : wr.heap.size ≤ w1.heap.size := hb1.size; have p2 := B1.cell 2; simp only [List.getElem?_toArray, List.getElem?_cons_zero, List.getElem?_cons_succ] at p2; have p3 : (w1.alloc (.cells #[.slice A1 (rr rows k).length cap1] 25)).cell? ⟨G + 1 + 1, 2, none⟩ = some v := (World.cell?_alloc_lt _ _ _ (by show G + 1 + 1 < w1.heap.size; omega)).trans p2))
      all_goals
        have hO2 := hO.pushRow rfl hlor hg1 hR1 hO1 hown2 hgrow2 hat2
        have hkr : Below wr.heap.size wr w1 := (bel_drewN (Below.refl _ _) 1).trans hb1
        have hW2 : Below G w w2 := ((hW.trans (hkr.mono (by omega))).alloc (by omega) _).grown hgrow2 (by rw [World.size_alloc]; omega) (fun r e => by have := (hO.1.lt r e).1; omega)
        have BG2 := ((BG.below hkr BG.lt).alloc _).grown hgrow2 hnG
        have BR2 := ((BR.below hkr BR.lt).alloc _).grown hgrow2 hnR
        have B3 := B2.set_ 2 (.slice Av (es.length + 1) cv)
        have BG3 := BG2.far (p := ⟨G + 1 + 1, 2, none⟩) (by simp; omega) (.slice Av (es.length + 1) cv)
        have BR3 := BR2.far (p := ⟨G + 1 + 1, 2, none⟩) (by simp) (.slice Av (es.length + 1) cv)
        have hW3 := hW2.setCell (p := ⟨G + 1 + 1, 2, none⟩) (by simp; omega) (.slice Av (es.length + 1) cv)
        have hO3 : ORows (w2.setCell ⟨G + 1 + 1, 2, none⟩ (.slice Av (es.length + 1) cv)) (G + 3) (.slice Av (es.length + 1) cv) (es ++ [⟨rr rows k, 0, A1, cap1, g1⟩]) := hO2.keep hO2.inside (fun b hb _ => Below.heap_setCell w2 ⟨G + 1 + 1, 2, none⟩ _ b (by simp; omega))
        have HP := Lib.hid (show (es ++ [(⟨rr rows k, 0, A1, cap1, g1⟩ : Ent)]).map Ent.r = rows.take (k + 1) by rw [List.map_append, HE.out, List.take_succ_eq_append_getElem hlt, ← rr_eq hlt]; rfl)
        have HB3 := Lib.hid B3
        have HBG := Lib.hid BG3
        have HBR := Lib.hid BR3
        have HO3 := Lib.hid hO3
        clear hO2 hkr hW2 BG2 BR2 B3 BG3 BR3 hO3 B2 B1 s2 f2 p2 p3 hown2 hgrow2 hat2 hO1 hb1 hR1 hg1 hO BG BR BO hW g2 o0 o1 o2 r0 r1 r2 fr0 fr1 fr2 h1 h2 h2r
        go_wp2
        go_roundw
        case rel => exact ⟨k + 1, _, _, by omega, by go_num, HBG.out, HBR.out, HB3.out, HO3.out, HP.out, hW3⟩
        case measure => simp [intOf]; omega
    · have hd : decide (k < rows.length) = false := by simpa using hlt
      obtain ⟨Av, cv, rfl⟩ := hO.form
      go_wp2
      refine bodyPost_ret (v := .agg #[.string s, .int .i64 wd, .slice Av es.length cv]) (by simp [results, Try.f126, go_sem, *]) rfl ?_
      rw [HGG.out]
      refine ⟨_, rfl, ⟨_, es, rfl, ?_, by rw [HE.out, List.take_of_length_le (by omega)]⟩, ?_⟩
      · exact ORows.lower (lo := G + 3) (((hO.keep hO.inside (fun b hb _ => Below.heap_setCell wr ⟨G + 1, 0, none⟩ _ b (by simp; omega))).keep (hi := wr.heap.size) hO.inside (fun b hb _ => Below.heap_setCell _ ⟨G + 1, 1, none⟩ _ b (by simp; omega))).keep (hi := wr.heap.size) hO.inside (fun b hb _ => Below.heap_setCell _ ⟨G + 1, 2, none⟩ _ b (by simp; omega))) (by omega)
      · exact ((hW.setCell (p := ⟨G + 1, 0, none⟩) (by simp) _).setCell (p := ⟨G + 1, 1, none⟩) (by simp) _).setCell (p := ⟨G + 1, 2, none⟩) (by simp) _
end Go.Proofs.Ytoncfodlffofdaa
