/- The contract of the model's Taken: a table of the call's own; nothing that lay has turned. -/
import Derived.Test.YtedbjjhkjkpnkaaJC
namespace Go.Proofs.Ytedbjjhkjkpnkaa
open Go.RowKit

/-- A table of the call's own, and a flag. -/
def TabAns (s : ByteArray) (wd : Int) (rows : List (List Int)) (b : Bool) (w : World) (e : Ending) (w' : World) : Prop :=
  ∃ v, e = .returned (.tuple #[v, .bool b]) ∧ OwnTab w.heap.size s wd rows v w' ∧ Below w.heap.size w w'
theorem taken_same {rows : List (List Int)} {q : Int} (h : ¬ idxK rows q < rows.length) : takenL rows q = rows := by
  have := idx_le rows q
  unfold takenL
  rw [List.take_of_length_le (by omega), List.drop_of_length_le (by omega), List.append_nil]
def tkS (s : ByteArray) (b : Bool) : ByteArray := if b = true then s else ⟨#[]⟩
def tkW (wd : Int) (b : Bool) : Int := if b = true then wd else 0
def tkR (rows : List (List Int)) (b : Bool) : List (List Int) := if b = true then rows else []
set_option maxRecDepth 100000 in
set_option maxHeartbeats 8000000 in
theorem specTaken_any (s : ByteArray) (wd : Int) (A : Option Addr) (c : Nat) (rows : List (List Int)) (q : Int) (w : World) (hR : Rws w w.heap.size A rows) (hs : s.size ≤ 1099511627776) (hl : rows.length ≤ 1099511627776) :
    Calls Try.prog 34 #[.agg #[.string s, .int .i64 wd, .slice A rows.length c], .int .i64 q] w (TabAns (tkS s (tabB s wd rows)) (tkW wd (tabB s wd rows)) (tkR (takenL rows q) (tabB s wd rows)) (thereB s wd rows q) w) := by
  obtain ⟨i0, hi0, hz0, hz1, hz2⟩ := info_parts info_rowT
  have bc := bel_two (w := w) (.cells #[.string s, .int .i64 wd, .slice A rows.length c] 28) (.cells #[.string ⟨#[]⟩, .int .i64 0, .slice none 0 0] 28)
  have BG := (Blk.new w 28 #[.string s, .int .i64 wd, .slice A rows.length c]).alloc (.cells #[.string ⟨#[]⟩, .int .i64 0, .slice none 0 0] 28)
  have BR := Blk.new (w.alloc (.cells #[.string s, .int .i64 wd, .slice A rows.length c] 28)) 28 #[.string ⟨#[]⟩, .int .i64 0, .slice none 0 0]
  have e2 : (w.alloc (.cells #[.string s, .int .i64 wd, .slice A rows.length c] 28)).heap.size = w.heap.size + 1 := by simp
  rw [e2] at BR
  have hRb := hR.on bc
  clear e2 hR
  go_enter Try.func34, Try.ntmps34
  go_wp2_with fail
  generalize (w.alloc (.cells #[.string s, .int .i64 wd, .slice A rows.length c] 28)).alloc (.cells #[.string ⟨#[]⟩, .int .i64 0, .slice none 0 0] 28) = wb at *
  generalize hGG : w.heap.size = G at *
  have HGG := Lib.hid hGG
  have hsb : G ≤ wb.heap.size := by rw [← hGG]; exact bc.size
  clear hGG
  refine (specTableOk_any s wd A c rows wb hRb hs hl).mono ?_
  rintro e w1 ⟨rfl, hb1⟩
  have BG1 := BG.below hb1 BG.lt
  have BR1 := BR.below hb1 BR.lt
  have hR1 := hRb.on hb1
  have hW1 : Below G w w1 := bc.trans (hb1.mono hsb)
  have hs1 : G + 1 < w1.heap.size := BR1.lt
  clear BG BR hRb bc hb1
  cases ht : tabB s wd rows with
  | false =>
    have HT := Lib.hid (show thereB s wd rows q = false by unfold thereB; rw [ht]; rfl)
    have HTF := Lib.hid ht
    have r0 := BR1.cell 0
    have r1 := BR1.cell 1
    have r2 := BR1.cell 2
    have fr0 := BR1.frozen 0
    have fr1 := BR1.frozen 1
    have fr2 := BR1.frozen 2
    simp only [List.getElem?_toArray, List.getElem?_cons_zero, List.getElem?_cons_succ] at r0 r1 r2
    clear ht
    go_wp2
    refine bodyPost_ret (v := .tuple #[.agg #[.string ⟨#[]⟩, .int .i64 0, .slice none 0 0], .bool false]) (by simp [results, Try.f34, go_sem, *]) rfl ?_
    rw [HT.out, HTF.out]
    refine ⟨_, rfl, ⟨_, [], rfl, ORows.none_ _ _, rfl⟩, ?_⟩
    rw [HGG.out]
    exact ((hW1.setCell (p := ⟨G + 1, 0, none⟩) (by simp) _).setCell (p := ⟨G + 1, 1, none⟩) (by simp) _).setCell (p := ⟨G + 1, 2, none⟩) (by simp) _
  | true =>
    have HP := Lib.hid (tab_pos ht)
    have hlen := tab_len ht
    have HTT := Lib.hid ht
    have g0 := BG1.cell 0
    have g1 := BG1.cell 1
    have g2 := BG1.cell 2
    simp only [List.getElem?_toArray, List.getElem?_cons_zero, List.getElem?_cons_succ] at g0 g1 g2
    clear ht
    go_wp2_with fail
    refine (l4Copy_any s wd A c rows w1 hR1 hl).mono ?_
    rintro e w2 ⟨v2, rfl, ⟨u, es, rfl, hO2, he2⟩, hb2⟩
    have hel : es.length = rows.length := by rw [← he2, List.length_map]
    have HE2 := Lib.hid he2
    have HEL := Lib.hid hel
    obtain ⟨Au, cu, rfl⟩ := hO2.form
    have BG2 := BG1.below hb2 BG1.lt
    have BR2 := BR1.below hb2 BR1.lt
    have hR2 := hR1.on hb2
    have hW2 : Below G w w2 := hW1.trans (hb2.mono (by omega))
    have hs12 : w1.heap.size ≤ w2.heap.size := hb2.size
    have b3 := (Below.refl w2.heap.size w2).alloc (Nat.le_refl _) (.cells #[.string s, .int .i64 wd, .slice Au es.length cu] 28)
    have BO3 := Blk.new w2 28 #[.string s, .int .i64 wd, .slice Au es.length cu]
    have BG3 := BG2.alloc (.cells #[.string s, .int .i64 wd, .slice Au es.length cu] 28)
    have BR3 := BR2.alloc (.cells #[.string s, .int .i64 wd, .slice Au es.length cu] 28)
    have hO3 := hO2.on b3
    have hin := hO2.inside
    have hR3 := hR2.on b3
    have hW3 : Below G w (w2.alloc (.cells #[.string s, .int .i64 wd, .slice Au es.length cu] 28)) := hW2.trans (b3.mono (by omega))
    have d0 := BG3.cell 0
    have d1 := BG3.cell 1
    have d2 := BG3.cell 2
    simp only [List.getElem?_toArray, List.getElem?_cons_zero, List.getElem?_cons_succ] at d0 d1 d2
    clear he2 hel g0 g1 g2 BG1 BR1 hR1 hW1 hb2 hO2 BG2 BR2 hR2 hW2 b3
    go_wp2_with fail
    generalize hww : w2.alloc (.cells #[.string s, .int .i64 wd, .slice Au es.length cu] 28) = w3 at *
    have hs3 : w3.heap.size = w2.heap.size + 1 := by rw [← hww]; simp
    clear hww
    generalize hOO : w2.heap.size = O at *
    clear hOO
    refine (l4Find_any s wd A c rows q w3 hR3 hl HP.out).mono ?_
    rintro e w4 ⟨rfl, hb4⟩
    have BO4 := BO3.below hb4 (by omega)
    have BR4 := BR3.below hb4 (by omega)
    have hO4 := hO3.on hb4
    have hW4 : Below G w w4 := hW3.trans (hb4.mono (by omega))
    have hs4 : O + 1 ≤ w4.heap.size := by have := hb4.size; omega
    clear d0 d1 d2 BO3 BG3 BR3 hO3 hR3 hW3 hb4 hs3
    by_cases hfi : idxK rows q < rows.length
    · have HT := Lib.hid (show thereB s wd rows q = true by unfold thereB; rw [HTT.out, decide_eq_true hfi]; rfl)
      obtain ⟨i, hi⟩ : ∃ i, idxK rows q = i := ⟨_, rfl⟩
      have HTK := Lib.hid (show takenL rows q = rows.take i ++ rows.drop (i + 1) by unfold takenL; rw [hi])
      rw [show findK rows q = (i : Int) by unfold findK; rw [if_pos hfi, hi]]
      rw [hi] at hfi
      clear hi
      have hie : i < es.length := by rw [HEL.out]; exact hfi
      have hes30 : es.length ≤ 30 := by rw [HEL.out]; exact hlen
      obtain ⟨g, cap, hv, hOR⟩ := hO4.at0 (by omega)
      injection hv with hv _ hv2
      subst hv hv2
      obtain ⟨cur, _, _, hcap, _⟩ := hOR.parts
      have hgl := hOR.lt
      have hi00 : (0 : Int) ≤ (i : Int) := Int.natCast_nonneg _
      have hwi : IntKind.i64.wrap ((i : Int) + 1) = (i : Int) + 1 := by rw [IntKind.wrap_i64]; omega
      have o2 := BO4.cell 2
      simp only [List.getElem?_toArray, List.getElem?_cons_zero, List.getElem?_cons_succ] at o2
      have hnO : some O ≠ some g := fun e => by injection e with e; have := hin.1 g rfl; omega
      have hti : ((i : Int) + 1).toNat = i + 1 := by omega
      have hci : (i : Int) ≤ (cu : Int) := by omega
      have hc1 : (i : Int) + 1 ≤ (es.length : Int) := by omega
      have hc2 : (es.length : Int) ≤ (cu : Int) := by omega
      have hc0 : (0 : Int) ≤ (i : Int) + 1 := by omega
      have hT := OR.take (hOR) (k := i) (by omega)
      have hF := OR.readsFrom hOR (k := i + 1) (by omega)
      go_wp2_with fail
      go_region_law (first | (refine step_append_any _ (by rfl) (.tmp 23) (.tmp 28) 22 (by rfl) w1.heap.size 45 i0 _ 1 24 Try.underlying22 hi0 hz0 hz1 hz2 rfl (by decide) _ _ (rowCs (es.take i)) (by rfl) (by exact hT) _ (if cu = i + 1 then some ⟨g, 0, none⟩ else some ⟨g, i + 1, none⟩) (es.length - (i + 1)) (cu - (i + 1)) (rowCs (es.drop (i + 1))) (by rfl) (by exact hF) (rowCs_one _) (by simp only [maxLen]; omega) (by omega) (by show w1.heap.size ≤ w4.heap.size; omega) ?_; intro v6 w6 hown6 hg6 hat6; obtain ⟨Av, cv, hv6⟩ := own_form hown6; subst hv6; have B6 : Blk w6 O 28 #[.string s, .int .i64 wd, .slice (some ⟨g, 0, none⟩) es.length cu] := (BO4.drewN 1).grown hg6 hnO; have s2 := B6.cell 2; have f2 := B6.frozen 2; simp only [List.getElem?_toArray, List.getElem?_cons_zero, List.getElem?_cons_succ] at s2))
      all_goals
        have hsub : (es.take i ++ es.drop (i + 1)).Sublist es := by
          have e := List.take_append_drop i es
          conv => rhs; rw [← e]
          refine List.Sublist.append (List.Sublist.refl _) ?_
          rw [← List.drop_drop]
          exact List.drop_sublist _ _
        have hlen2 : (es.take i ++ es.drop (i + 1)).length = i + (es.length - (i + 1)) := by rw [List.length_append, List.length_take, List.length_drop]; omega
        have hO6 : ORows w6 w1.heap.size (.slice Av (i + (es.length - (i + 1))) cv) (es.take i ++ es.drop (i + 1)) := ORows.regrow (hO4.drewN 1) hsub hg6 (by rw [hlen2, rowCs_append]; exact hown6) hat6
        have hg4 := hO4.inside.1 g rfl
        have hvO : (Value.slice Av (i + (es.length - (i + 1))) cv).ownBlock ≠ some O := fun e => by
          rcases hat6 with h | h
          · rw [h] at e; exact hnO e.symm
          · rw [h] at e
            injection e with e
            have e' : w4.heap.size = O := e
            omega
        have hO7 := hO6.far ⟨O, 2, none⟩ (.slice Av (i + (es.length - (i + 1))) cv) hvO (fun e he hn => by have := hin.2 e (hsub.subset he) hn; show e.g ≠ O; omega)
        have B7 := B6.set_ 2 (.slice Av (i + (es.length - (i + 1))) cv)
        have BR6 := (BR4.drewN 1).grown hg6 (fun e => by have e' : G + 1 = g := Option.some.inj e; omega)
        have BR7 := BR6.far (p := ⟨O, 2, none⟩) (by show G + 1 ≠ O; omega) (.slice Av (i + (es.length - (i + 1))) cv)
        have hW6 : Below G w w6 := (bel_drewN hW4 1).grown hg6 (by show G ≤ w4.heap.size; omega) (fun r e => by have e' : g = r := Option.some.inj e; omega)
        have hW7 := hW6.setCell (p := ⟨O, 2, none⟩) (by show G ≤ O; omega) (.slice Av (i + (es.length - (i + 1))) cv)
        have HP7 := Lib.hid (show (es.take i ++ es.drop (i + 1)).map Ent.r = takenL rows q by rw [HTK.out, List.map_append, List.map_take, List.map_drop, HE2.out])
        clear B6 s2 f2 BR6 hO6 hW6 hown6 hg6 hat6 hT hF hOR BO4 BR4 hO4 hW4 o2
        generalize w6.setCell ⟨O, 2, none⟩ (.slice Av (i + (es.length - (i + 1))) cv) = w7 at *
        have o0 := B7.cell 0
        have o1 := B7.cell 1
        have o2 := B7.cell 2
        have r0 := BR7.cell 0
        have r1 := BR7.cell 1
        have r2 := BR7.cell 2
        have fr0 := BR7.frozen 0
        have fr1 := BR7.frozen 1
        have fr2 := BR7.frozen 2
        simp only [List.getElem?_toArray, List.getElem?_cons_zero, List.getElem?_cons_succ, List.setIfInBounds_toArray, List.set_cons_succ, List.set_cons_zero] at o0 o1 o2 r0 r1 r2
        clear hlen2
        generalize i + (es.length - (i + 1)) = nn at *
        go_wp2
        all_goals
          refine bodyPost_ret (v := .tuple #[.agg #[.string s, .int .i64 wd, .slice Av nn cv], .bool true]) (by simp [results, Try.f34, go_sem, *]) rfl ?_
          rw [HT.out, HTT.out]
          refine ⟨_, rfl, ⟨_, _, rfl, ?_, HP7.out⟩, ?_⟩
          · rw [HGG.out]
            exact ORows.lower (lo := w1.heap.size) (((hO7.keep hO7.inside (fun b hb _ => Below.heap_setCell w7 ⟨G + 1, 0, none⟩ _ b (by simp; omega))).keep (hi := w7.heap.size) hO7.inside (fun b hb _ => Below.heap_setCell _ ⟨G + 1, 1, none⟩ _ b (by simp; omega))).keep (hi := w7.heap.size) hO7.inside (fun b hb _ => Below.heap_setCell _ ⟨G + 1, 2, none⟩ _ b (by simp; omega))) (by omega)
          · rw [HGG.out]
            exact ((hW7.setCell (p := ⟨G + 1, 0, none⟩) (by simp) _).setCell (p := ⟨G + 1, 1, none⟩) (by simp) _).setCell (p := ⟨G + 1, 2, none⟩) (by simp) _
    · have HT := Lib.hid (show thereB s wd rows q = false by unfold thereB; rw [decide_eq_false hfi, Bool.and_false])
      have HTK := Lib.hid (taken_same hfi)
      rw [show findK rows q = -1 by unfold findK; rw [if_neg hfi]]
      have o0 := BO4.cell 0
      have o1 := BO4.cell 1
      have o2 := BO4.cell 2
      have r0 := BR4.cell 0
      have r1 := BR4.cell 1
      have r2 := BR4.cell 2
      have fr0 := BR4.frozen 0
      have fr1 := BR4.frozen 1
      have fr2 := BR4.frozen 2
      simp only [List.getElem?_toArray, List.getElem?_cons_zero, List.getElem?_cons_succ] at o0 o1 o2 r0 r1 r2
      clear hfi
      go_wp2
      refine bodyPost_ret (v := .tuple #[.agg #[.string s, .int .i64 wd, .slice Au es.length cu], .bool false]) (by simp [results, Try.f34, go_sem, *]) rfl ?_
      rw [HT.out, HTT.out, HTK.out]
      refine ⟨_, rfl, ⟨_, es, rfl, ?_, HE2.out⟩, ?_⟩
      · rw [HGG.out]
        exact ORows.lower (lo := w1.heap.size) (((hO4.keep hO4.inside (fun b hb _ => Below.heap_setCell w4 ⟨G + 1, 0, none⟩ _ b (by simp; omega))).keep (hi := w4.heap.size) hO4.inside (fun b hb _ => Below.heap_setCell _ ⟨G + 1, 1, none⟩ _ b (by simp; omega))).keep (hi := w4.heap.size) hO4.inside (fun b hb _ => Below.heap_setCell _ ⟨G + 1, 2, none⟩ _ b (by simp; omega))) (by omega)
      · rw [HGG.out]
        exact ((hW4.setCell (p := ⟨G + 1, 0, none⟩) (by simp) _).setCell (p := ⟨G + 1, 1, none⟩) (by simp) _).setCell (p := ⟨G + 1, 2, none⟩) (by simp) _
end Go.Proofs.Ytedbjjhkjkpnkaa
