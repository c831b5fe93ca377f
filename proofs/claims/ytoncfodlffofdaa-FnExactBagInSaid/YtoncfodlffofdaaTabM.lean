/- The laws' marking of own rows and of own tables, and the asking whether they still hold: contracts; nothing else has turned. -/
import Derived.Test.YtoncfodlffofdaaTabI0
import Derived.Test.YtoncfodlffofdaaBagMark2
namespace Go.Proofs.Ytoncfodlffofdaa
open Go.RowKit

theorem rowCs_setR (es : List Ent) (i : Nat) (h : i < es.length) (r : List Int) (hr : r.length = es[i].r.length) : rowCs (es.set i { es[i] with r := r }) = rowCs es := by
  unfold rowCs
  apply List.ext_getElem
  · simp
  · intro j h1 h2
    rw [List.getElem_map, List.getElem_map, List.getElem_set]
    split
    · rename_i e; subst e; simp [hr]
    · rfl
/-- A row of it written anew. -/
theorem WRows.setR {w w' : World} {lo : Nat} {v : Value} {es : List Ent} (h : WRows w lo v es) {i : Nat} (hi : i < es.length) (r : List Int) (hr : r.length = es[i].r.length) (hR : Row w' 2 es[i].A r es[i].g) (hg : 0 < es[i].r.length → w.grownBy w' (some es[i].g)) (hg0 : es[i].r.length = 0 → Below w.heap.size w w') : WRows w' lo v (es.set i { es[i] with r := r }) := by
  have hkeep : ∀ b, b < w.heap.size → (0 < es[i].r.length → b ≠ es[i].g) → w'.heap[b]? = w.heap[b]? := by
    intro b hb hne
    rcases Nat.eq_zero_or_pos es[i].r.length with h0 | h0
    · exact (hg0 h0).block b hb
    · exact (hg h0).block b hb (fun e => hne h0 (Option.some.inj e))
  obtain ⟨hRi, hni⟩ := h.2.1 es[i] (List.getElem_mem hi)
  have hpw := List.pairwise_iff_getElem.1 h.2.2
  refine ⟨?_, fun e he => ?_, ?_⟩
  · rcases h.1 with ⟨_, rfl⟩ | ⟨g, cap, cur, rfl, h2, h3, h4⟩
    · simp at hi
    · refine .inr ⟨g, cap, cur, by rw [List.length_set], h2, (hkeep g (Blk.lt (t := 25) (cs := cur) h3) fun h0 e => ?_).trans h3, by rw [rowCs_setR es i hi r hr, List.length_set]; exact h4⟩
      subst e
      exact (hni h0).2 rfl
  · obtain ⟨j, hj, rfl⟩ := List.getElem_of_mem he
    have hj' : j < es.length := by simpa using hj
    rw [List.getElem_set]
    by_cases e : i = j
    · subst e
      rw [if_pos rfl]
      exact ⟨hR, fun hn => hni (by rw [← hr]; exact hn)⟩
    · rw [if_neg e]
      obtain ⟨h1, h2⟩ := h.2.1 es[j] (List.getElem_mem hj')
      refine ⟨h1.keepB fun hn => hkeep _ (h1.lt hn) fun h0 => ?_, h2⟩
      rcases Nat.lt_or_ge i j with hij | hij
      · exact (hpw i j hi hj' hij h0 hn).symm
      · exact hpw j i hj' hi (by omega) hn h0
  · rw [List.pairwise_iff_getElem]
    intro a b ha hb hab
    have key : ∀ j (hj : j < es.length) (hj' : j < (es.set i { es[i] with r := r }).length), (es.set i { es[i] with r := r })[j].r.length = es[j].r.length ∧ (es.set i { es[i] with r := r })[j].g = es[j].g := by
      intro j hj hj'
      rw [List.getElem_set]
      split
      · rename_i e; subst e; exact ⟨hr, rfl⟩
      · exact ⟨rfl, rfl⟩
    have ha' : a < es.length := by simpa using ha
    have hb' : b < es.length := by simpa using hb
    rw [(key a ha' _).1, (key a ha' _).2, (key b hb' _).1, (key b hb' _).2]
    exact hpw a b ha' hb' hab
/-- Own rows that lie between lo and hi. -/
def RIn (w : World) (lo hi : Nat) (v : Value) (es : List Ent) : Prop := WRows w lo v es ∧ Inside hi v es ∧ hi ≤ w.heap.size
theorem WRows.rin {w : World} {lo : Nat} {v : Value} {es : List Ent} (h : WRows w lo v es) : RIn w lo w.heap.size v es := ⟨h, h.inside, Nat.le_refl _⟩
theorem RIn.on {w w' : World} {lo hi : Nat} {v : Value} {es : List Ent} (h : RIn w lo hi v es) (hb : Below w.heap.size w w') : RIn w' lo hi v es := ⟨h.1.on hb, h.2.1, Nat.le_trans h.2.2 hb.size⟩
theorem RIn.within {w w' : World} {lo hi lo' hi' : Nat} {v : Value} {es : List Ent} (h : RIn w lo hi v es) (hw : Within lo' hi' w w') (ha : hi ≤ lo' ∨ hi' ≤ lo) : RIn w' lo hi v es :=
  ⟨h.1.keep h.2.1 fun b h1 h2 => hw.block b (by have := h.2.2; omega) (by omega), h.2.1, Nat.le_trans h.2.2 hw.size⟩
/-- The mark that the row at place i begins with. -/
def kR (k : Int) (es : List Ent) : Nat → Int
  | 0 => k
  | i + 1 => kR k es i + (rl es i : Int)
theorem kR_bd {k : Int} {es : List Ent} {m : Nat} (hm : ∀ e ∈ es, e.r.length ≤ m) : ∀ i : Nat, k ≤ kR k es i ∧ kR k es i ≤ k + (i : Int) * (m : Int)
  | 0 => by simp [kR]
  | i + 1 => by
    have h1 := kR_bd (k := k) hm i
    have h2 := rl_le hm i
    simp only [kR]
    have e : ((i + 1 : Nat) : Int) * (m : Int) = (i : Int) * (m : Int) + (m : Int) := by
      rw [Int.natCast_add, Int.add_mul]; simp
    rw [e]; omega
theorem kR_fit {k : Int} {es : List Ent} (hk0 : 0 ≤ k) (hm : ∀ e ∈ es, e.r.length ≤ 2097152) (i : Nat) (hi : i ≤ 2097152) : 0 ≤ kR k es i ∧ kR k es i ≤ k + 4398046511104 := by
  have := kR_bd (k := k) hm i
  omega
def mkTo (k : Int) (es : List Ent) (i : Nat) : List Ent := es.mapIdx fun j e => if j < i then { e with r := marks (kR k es j) e.r.length } else e
theorem mkTo_length (k : Int) (es : List Ent) (i : Nat) : (mkTo k es i).length = es.length := by simp [mkTo]
theorem mkTo_get {k : Int} {es : List Ent} {i j : Nat} (h : j < es.length) (h' : j < (mkTo k es i).length) : (mkTo k es i)[j] = if j < i then { es[j] with r := marks (kR k es j) es[j].r.length } else es[j] := by simp [mkTo]
theorem mkTo_zero (k : Int) (es : List Ent) : mkTo k es 0 = es := by
  apply List.ext_getElem
  · simp [mkTo]
  · intro j h1 h2
    rw [mkTo_get h2]; simp
theorem mkTo_step {k : Int} {es : List Ent} {i : Nat} (h : i < es.length) (h' : i < (mkTo k es i).length) : mkTo k es (i + 1) = (mkTo k es i).set i { (mkTo k es i)[i] with r := marks (kR k es i) es[i].r.length } := by
  apply List.ext_getElem
  · simp [mkTo]
  · intro j h1 h2
    have hj : j < es.length := by simpa [mkTo] using h1
    rw [mkTo_get hj, List.getElem_set]
    by_cases e : i = j
    · subst e
      rw [if_pos (by omega), if_pos rfl, mkTo_get h h', if_neg (by omega)]
    · rw [if_neg e, mkTo_get hj (by simpa [mkTo] using hj)]
      by_cases hlt : j < i
      · rw [if_pos (by omega), if_pos hlt]
      · rw [if_neg (by omega), if_neg hlt]
theorem mkTo_gr {k : Int} {es : List Ent} {i j : Nat} (h : j < es.length) (h' : j < (mkTo k es i).length) : (mkTo k es i)[j].g = es[j].g ∧ (mkTo k es i)[j].r.length = es[j].r.length := by
  rw [mkTo_get h h']; split <;> simp [marks_length]
/-- One row marked. -/
theorem mk_step {wr w1 : World} {lo hi n c : Nat} {A : Option Addr} {k : Int} {es : List Ent} {i g' : Nat} (hO : RIn wr lo hi (.slice A n c) (mkTo k es i)) (hi' : i < es.length) (hg' : g' = if es[i].r.length = 0 then wr.heap.size else es[i].g)
    (hR1 : Row w1 2 es[i].A (marks (kR k es i) es[i].r.length) g') (hg1 : wr.grownBy w1 (some g')) : RIn w1 lo hi (.slice A n c) (mkTo k es (i + 1)) ∧ Within lo hi wr w1 := by
  have hil : i < (mkTo k es i).length := by rw [mkTo_length]; exact hi'
  have hei : (mkTo k es i)[i] = es[i] := by rw [mkTo_get hi' hil, if_neg (Nat.lt_irrefl _)]
  obtain ⟨hRo, hno⟩ := hO.1.2.1 (mkTo k es i)[i] (List.getElem_mem hil)
  have hin := hO.2.1.2 (mkTo k es i)[i] (List.getElem_mem hil)
  have hwin : Within lo hi wr w1 := by
    refine Within.of_grown hg1 ?_
    rw [hei] at hno hin
    rw [hg']
    split
    · exact .inr (Nat.le_refl _)
    · rename_i h0
      exact .inl ⟨(hno (by omega)).1, hin (by omega)⟩
  have hR2 : Row w1 2 (mkTo k es i)[i].A (marks (kR k es i) es[i].r.length) (mkTo k es i)[i].g := by
    rw [hei]
    intro hn
    rw [marks_length] at hn
    have e : g' = es[i].g := by rw [hg', if_neg (by omega)]
    rw [← e]
    exact hR1 (by rw [marks_length]; exact hn)
  have hO2 := hO.1.setR hil (marks (kR k es i) es[i].r.length) (by rw [marks_length, hei]) hR2 (fun h0 => by
    rw [hei] at h0 ⊢
    have e : g' = es[i].g := by rw [hg', if_neg (by omega)]
    rw [← e]; exact hg1) (fun h0 => by
    rw [hei] at h0
    have e : g' = wr.heap.size := by rw [hg', if_pos h0]
    rw [e] at hg1
    exact ⟨hg1.os, hg1.tape, hg1.output, hg1.size, fun b hb => hg1.block b hb (fun e => by injection e with e; omega)⟩)
  rw [← mkTo_step hi' hil] at hO2
  refine ⟨⟨hO2, ⟨hO.2.1.1, fun e he hn => ?_⟩, Nat.le_trans hO.2.2 hwin.size⟩, hwin⟩
  obtain ⟨j, hj, rfl⟩ := List.getElem_of_mem he
  have hj' : j < es.length := by rw [mkTo_length] at hj; exact hj
  have hjl : j < (mkTo k es i).length := by rw [mkTo_length]; exact hj'
  rw [(mkTo_gr hj' hj).2] at hn
  rw [(mkTo_gr hj' hj).1]
  have := hO.2.1.2 (mkTo k es i)[j] (List.getElem_mem hjl) (by rw [(mkTo_gr hj' hjl).2]; exact hn)
  rwa [(mkTo_gr hj' hjl).1] at this
set_option maxRecDepth 100000 in
set_option maxHeartbeats 1000000 in
theorem markInt64SS_own (lo hi : Nat) (A : Option Addr) (n c : Nat) (es : List Ent) (k : Int) (w : World) (hO : RIn w lo hi (.slice A n c) es) (hl : n ≤ 2097152) (hm : ∀ e ∈ es, e.r.length ≤ 2097152) (hk0 : 0 ≤ k) (hk1 : k ≤ 562949953421312) :
    Calls Try.prog 85 #[.slice A n c, .int .i64 k] w fun e w' => e = .returned (.int .i64 (kR k es n)) ∧ RIn w' lo hi (.slice A n c) (mkTo k es n) ∧ Within lo hi w w' := by
  have hnl := hO.1.len
  have HNL := Lib.hid hnl
  have HM := Lib.hid hm
  clear hm hnl
  go_enter Try.func85, Try.ntmps85
  go_wp2
  go_loopw [1, 5] (fun q s wr => ∃ i : Nat, i ≤ n ∧ s = .int .i64 i ∧ q = .int .i64 (kR k es i) ∧ RIn wr lo hi (.slice A n c) (mkTo k es i) ∧ Within lo hi w wr) (fun _ s _ => n - (intOf s).toNat)
  case atStart => exact ⟨0, Nat.zero_le _, rfl, rfl, by rw [mkTo_zero]; exact hO, Within.refl _ _ _⟩
  case round =>
    obtain ⟨i, hi, rfl, rfl, hOr, hWr⟩ := hrel
    clear hO
    by_cases hlt : i < n
    · have hie : i < es.length := by have := HNL.out; omega
      have hil : i < (mkTo k es i).length := by rw [mkTo_length]; exact hie
      obtain ⟨g, rfl⟩ := hOr.1.addr (by omega)
      have h1 := hOr.1.cellAt hil
      rw [mkTo_get hie hil, if_neg (Nat.lt_irrefl _)] at h1
      obtain ⟨hRi, _⟩ := hOr.1.2.1 (mkTo k es i)[i] (List.getElem_mem hil)
      rw [mkTo_get hie hil, if_neg (Nat.lt_irrefl _)] at hRi
      obtain ⟨g', hg'⟩ : ∃ g', g' = if es[i].r.length = 0 then wr.heap.size else es[i].g := ⟨_, rfl⟩
      have hRg : Row wr 2 es[i].A es[i].r g' := by
        intro hn
        rw [hg', if_neg (by omega)]
        exact hRi hn
      have HG := Lib.hid hg'
      have hml := HM.out es[i] (List.getElem_mem hie)
      obtain ⟨hf0, hf1⟩ := kR_fit hk0 HM.out i (by omega)
      clear hg' hRi
      go_wp2_with fail
      refine (markInt64S_any es[i].A es[i].c g' es[i].r (kR k es i) wr hRg (by omega) hf0 (by omega)).mono ?_
      rintro e w1 ⟨rfl, hR1, hg1⟩
      obtain ⟨hO2, hW2⟩ := mk_step hOr hie HG.out hR1 hg1
      have hW3 := hWr.trans hW2
      have hk2 : kR k es (i + 1) = kR k es i + (es[i].r.length : Int) := by simp only [kR]; rw [rl_eq hie]
      have HK2 := Lib.hid hk2
      clear hk2 hR1 hg1 hOr hWr hW2 hRg h1
      go_wp2
      go_roundw
      case rel => exact ⟨i + 1, by omega, by go_num, by rw [HK2.out], hO2, hW3⟩
      case measure => simp [intOf]; omega
    · have hd : decide (i < n) = false := by simpa using hlt
      have hin : i = n := by omega
      go_wp2
      go_ret
      subst hin
      exact ⟨rfl, hOr, hWr⟩
theorem heldR_rr {k : Int} {es : List Ent} {j : Nat} (h : j < es.length) : rr ((mkTo k es es.length).map Ent.r) j = marks (kR k es j) es[j].r.length := by
  have hj : j < (mkTo k es es.length).length := by rw [mkTo_length]; exact h
  rw [rr_map hj, mkTo_get h hj, if_pos h]
set_option maxRecDepth 100000 in
set_option maxHeartbeats 1000000 in
theorem heldInt64SS_any (A : Option Addr) (n c B : Nat) (es : List Ent) (k : Int) (w : World) (hn : n = es.length) (hB : Rws w B A ((mkTo k es n).map Ent.r)) (hl : n ≤ 2097152) (hm : ∀ e ∈ es, e.r.length ≤ 2097152) (hk0 : 0 ≤ k) (hk1 : k ≤ 562949953421312) :
    Calls Try.prog 142 #[.slice A n c, .int .i64 k] w fun e w' => e = .returned (.int .i64 (kR k es n)) ∧ w = w' := by
  have HN := Lib.hid hn
  have HM := Lib.hid hm
  clear hm hn
  go_enter Try.func142, Try.ntmps142
  go_wp2
  go_loop [1, 5] (fun q s => ∃ i : Nat, i ≤ n ∧ s = .int .i64 i ∧ q = .int .i64 (kR k es i)) (fun _ s => n - (intOf s).toNat)
  case atStart => exact ⟨0, Nat.zero_le _, rfl, rfl⟩
  case round =>
    obtain ⟨i, hi, rfl, rfl⟩ := hrel
    by_cases hlt : i < n
    · have hie : i < es.length := by have := HN.out; omega
      obtain ⟨b, off, rfl, _, hc⟩ := hB (by rw [List.length_map, mkTo_length]; have := HN.out; omega)
      obtain ⟨Ar, cap, h1, h3, _⟩ := hc i (by rw [List.length_map, mkTo_length]; exact hie)
      rw [HN.out, heldR_rr hie] at h1 h3
      rw [marks_length] at h1
      have hml := HM.out es[i] (List.getElem_mem hie)
      obtain ⟨hf0, hf1⟩ := kR_fit hk0 HM.out i (by omega)
      have hk2 : kR k es (i + 1) = kR k es i + (es[i].r.length : Int) := by simp only [kR]; rw [rl_eq hie]
      have HK2 := Lib.hid hk2
      clear hk2 hc hB
      go_wp2_with fail
      refine (heldInt64S_any Ar cap es[i].r.length B (kR k es i) w h3 (by omega) hf0 (by omega)).mono ?_
      rintro e w1 ⟨rfl, rfl⟩
      have hs0 : 0 ≤ kR k es i + (es[i].r.length : Int) := by omega
      go_wp2
      go_round
      case rel => exact ⟨i + 1, by omega, by go_num, by rw [HK2.out]⟩
      case measure => simp [intOf]; omega
    · have hd : decide (i < n) = false := by simpa using hlt
      have hin : i = n := by omega
      go_wp2
      go_ret
      subst hin
      exact ⟨rfl, rfl⟩
set_option maxRecDepth 100000 in
set_option maxHeartbeats 2000000 in
theorem markTable_own (lo hi : Nat) (s : ByteArray) (wd : Int) (A : Option Addr) (n c : Nat) (es : List Ent) (k : Int) (w : World) (hO : RIn w lo hi (.slice A n c) es) (hl : n ≤ 2097152) (hm : ∀ e ∈ es, e.r.length ≤ 2097152) (hk0 : 0 ≤ k) (hk1 : k ≤ 562949953421312) :
    Calls Try.prog 89 #[.agg #[.string s, .int .i64 wd, .slice A n c], .int .i64 k] w fun e w' => e = .returned (.int .i64 (kR k es n)) ∧ RIn w' lo hi (.slice A n c) (mkTo k es n) ∧ Within lo hi w w' := by
  have bc := (Below.refl w.heap.size w).alloc (Nat.le_refl _) (.cells #[.string s, .int .i64 wd, .slice A n c] 44)
  have hw0 : Within lo hi w (w.alloc (.cells #[.string s, .int .i64 wd, .slice A n c] 44)) := ⟨bc.os, bc.tape, bc.output, bc.size, fun b hb _ => bc.block b hb⟩
  go_enter Try.func89, Try.ntmps89
  go_wp2_with fail
  refine (markInt64SS_own lo hi A n c es k _ (hO.on bc) hl hm hk0 hk1).mono ?_
  rintro e w1 ⟨rfl, hO1, hW1⟩
  have hW := hw0.trans hW1
  obtain ⟨q, hq⟩ : ∃ q, kR k es n = q := ⟨_, rfl⟩
  have HQ := Lib.hid hq
  rw [hq]
  clear hq hW1 hw0 bc
  go_wp2
  go_ret
  exact ⟨by rw [HQ.out]; rfl, hO1, hW⟩
set_option maxRecDepth 100000 in
set_option maxHeartbeats 2000000 in
theorem heldTable_any (s : ByteArray) (wd : Int) (A : Option Addr) (n c : Nat) (es : List Ent) (k : Int) (w : World) (hn : n = es.length) (hB : Rws w w.heap.size A ((mkTo k es n).map Ent.r)) (hl : n ≤ 2097152) (hm : ∀ e ∈ es, e.r.length ≤ 2097152) (hk0 : 0 ≤ k) (hk1 : k ≤ 562949953421312) :
    Calls Try.prog 90 #[.agg #[.string s, .int .i64 wd, .slice A n c], .int .i64 k] w fun e w' => e = .returned (.int .i64 (kR k es n)) ∧ Below w.heap.size w w' := by
  have bc := (Below.refl w.heap.size w).alloc (Nat.le_refl _) (.cells #[.string s, .int .i64 wd, .slice A n c] 44)
  obtain ⟨hf0, hf1⟩ := kR_fit hk0 hm n hl
  have HNE := Lib.hid hn
  have HM := Lib.hid hm
  have hBb := hB.on bc
  clear hn hm hB
  go_enter Try.func90, Try.ntmps90
  go_wp2_with fail
  generalize w.alloc (.cells #[.string s, .int .i64 wd, .slice A n c] 44) = wb at *
  refine (heldInt64SS_any A n c wb.heap.size es k wb HNE.out hBb hl HM.out hk0 hk1).mono ?_
  rintro e w1 ⟨rfl, hw1⟩
  obtain ⟨q, hq⟩ : ∃ q, kR k es n = q := ⟨_, rfl⟩
  have HQ := Lib.hid hq
  rw [hq] at hf0 hf1 ⊢
  have hb1 : Below w.heap.size w w1 := by rw [← hw1]; exact bc
  clear hq hw1 bc hBb
  go_wp2
  go_ret
  exact ⟨by rw [HQ.out]; rfl, hb1⟩
end Go.Proofs.Ytoncfodlffofdaa
