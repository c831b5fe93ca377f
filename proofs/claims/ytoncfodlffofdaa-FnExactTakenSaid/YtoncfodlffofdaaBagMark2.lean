/- Contracts of markCountS and heldCountS: an own bag marked whole, only its own blocks turned; the marks read back. For bags and rows of at most 2^21. -/
import Derived.Test.YtoncfodlffofdaaBagMark
namespace Go.Proofs.Ytoncfodlffofdaa
open Go.RowKit

theorem OBag.at0 {w : World} {lo n c : Nat} {A : Option Addr} {es : List Ent} (h : OBag w lo (.slice A n c) es) (hn : 0 < n) : ∃ g, A = some ⟨g, 0, none⟩ := by
  obtain ⟨g, cap, hv, _⟩ := h.1.form (by rw [← h.len]; exact hn)
  exact ⟨g, by injection hv⟩
theorem markTo_gr {k : Int} {es : List Ent} {i j : Nat} (h : j < es.length) (h' : j < (markTo k es i).length) : (markTo k es i)[j].g = es[j].g ∧ (markTo k es i)[j].r.length = es[j].r.length := by
  rw [markTo_get h h']; split <;> simp [marks_length]
/-- One count marked. -/
theorem mark_step {wr w1 : World} {lo hi g n c : Nat} {k : Int} {es : List Ent} {i g' : Nat} (hO : OIn wr lo hi (.slice (some ⟨g, 0, none⟩) n c) (markTo k es i)) (hi' : i < es.length) (hg' : g' = if es[i].r.length = 0 then wr.heap.size else es[i].g)
    (hR : Row w1 2 es[i].A (marks (kAt k es i) es[i].r.length) g') (hg : wr.grownBy w1 (some g')) :
    ∃ u, w1.cell? ⟨g, i * 2 + 1, none⟩ = some u ∧ w1.frozen? ⟨g, i * 2 + 1, none⟩ = false ∧
      OIn (w1.setCell ⟨g, i * 2 + 1, none⟩ (.int .i64 (kAt k es i + (es[i].r.length : Int)))) lo hi (.slice (some ⟨g, 0, none⟩) n c) (markTo k es (i + 1)) ∧
      Within lo hi wr (w1.setCell ⟨g, i * 2 + 1, none⟩ (.int .i64 (kAt k es i + (es[i].r.length : Int)))) := by
  have hil : i < (markTo k es i).length := by rw [markTo_length]; exact hi'
  have hfi : (markTo k es i)[i] = es[i] := by rw [markTo_get hi' hil, if_neg (Nat.lt_irrefl _)]
  obtain ⟨hRi, hni⟩ := hO.1.2.1 (markTo k es i)[i] (List.getElem_mem hil)
  have hini := hO.2.1.2 (markTo k es i)[i] (List.getElem_mem hil)
  rw [hfi] at hRi hni hini
  have hgb : g < hi := hO.2.1.1 g rfl
  have hgl : lo ≤ g := (hO.1.1.lt g rfl).1
  have hO1 : OBag w1 lo (.slice (some ⟨g, 0, none⟩) n c) ((markTo k es i).set i { (markTo k es i)[i] with r := marks (kAt k es i) es[i].r.length }) := by
    refine hO.1.setR hil _ (by rw [marks_length, hfi]) ?_ (fun h0 => ?_) (fun h0 => ?_)
    · rw [hfi]
      intro hn
      rw [marks_length] at hn
      have e : g' = es[i].g := by rw [hg', if_neg (by omega)]
      rw [← e]
      exact hR (by rw [marks_length]; exact hn)
    · rw [hfi] at h0 ⊢
      have e : g' = es[i].g := by rw [hg', if_neg (by omega)]
      rw [← e]; exact hg
    · rw [hfi] at h0
      have e : g' = wr.heap.size := by rw [hg', if_pos h0]
      exact ⟨hg.os, hg.tape, hg.output, hg.size, fun b hb => hg.block b hb (fun e2 => by injection e2 with e2; omega)⟩
  have hW1 : Within lo hi wr w1 := by
    refine Within.of_grown hg ?_
    by_cases h0 : es[i].r.length = 0
    · right; rw [hg', if_pos h0]; exact Nat.le_refl _
    · left
      rw [hg', if_neg h0]
      exact ⟨(hni (by omega)).1, hini (by omega)⟩
  have hil1 : i < ((markTo k es i).set i { (markTo k es i)[i] with r := marks (kAt k es i) es[i].r.length }).length := by rw [List.length_set]; exact hil
  obtain ⟨_, h2, h3⟩ := hO1.cellsAt hil1
  have en := hO1.len
  have hOB : OB w1 lo g c ((markTo k es i).set i { (markTo k es i)[i] with r := marks (kAt k es i) es[i].r.length }) := by
    unfold OB; rw [← en]; exact hO1
  have hS := hOB.setN hil1 (kAt k es i + (es[i].r.length : Int))
  have hfs : ((markTo k es i).set i { (markTo k es i)[i] with r := marks (kAt k es i) es[i].r.length }).set i { ((markTo k es i).set i { (markTo k es i)[i] with r := marks (kAt k es i) es[i].r.length })[i] with n := kAt k es i + (es[i].r.length : Int) } = markTo k es (i + 1) := by
    rw [markTo_step hi' hil]
    congr 1
    rw [List.getElem_set_self, hfi]
  rw [hfs] at hS
  have hW2 := hW1.setCell (p := ⟨g, i * 2 + 1, none⟩) ⟨hgl, hgb⟩ (.int .i64 (kAt k es i + (es[i].r.length : Int)))
  refine ⟨_, h2, h3, ⟨?_, ?_, Nat.le_trans hO.2.2 hW2.size⟩, hW2⟩
  · unfold OB at hS
    rw [markTo_length] at hS
    have : n = es.length := by have := hO.1.len; rw [markTo_length] at this; exact this
    rw [this]; exact hS
  · refine ⟨hO.2.1.1, fun e he hn => ?_⟩
    obtain ⟨j, hj, rfl⟩ := List.getElem_of_mem he
    have hj' : j < es.length := by rw [markTo_length] at hj; exact hj
    have hjl : j < (markTo k es i).length := by rw [markTo_length]; exact hj'
    have key := hO.2.1.2 (markTo k es i)[j] (List.getElem_mem hjl)
    rw [(markTo_gr hj' hjl).1, (markTo_gr hj' hjl).2] at key
    rw [(markTo_gr hj' hj).2] at hn
    rw [(markTo_gr hj' hj).1]
    exact key hn

theorem kAt_fit {k : Int} {es : List Ent} (hk0 : 0 ≤ k) (hk1 : k ≤ 1000) (hm : ∀ e ∈ es, e.r.length ≤ 2097152) (i : Nat) (hi : i ≤ 2097152) : 0 ≤ kAt k es i ∧ kAt k es i ≤ 4398048609256 := by
  have := kAt_bd (k := k) hm i
  have e : (((2097152 : Nat) : Int) + 1) = 2097153 := rfl
  rw [e] at this
  omega

set_option maxRecDepth 100000 in
set_option maxHeartbeats 1000000 in
theorem markCountS_any (lo hi : Nat) (A : Option Addr) (n c : Nat) (es : List Ent) (k : Int) (w : World) (hO : OIn w lo hi (.slice A n c) es) (hl : n ≤ 2097152) (hm : ∀ e ∈ es, e.r.length ≤ 2097152) (hk0 : 0 ≤ k) (hk1 : k ≤ 1000) :
    Calls Try.prog 78 #[.slice A n c, .int .i64 k] w fun e w' => e = .returned (.int .i64 (kAt k es n)) ∧ OIn w' lo hi (.slice A n c) (markTo k es n) ∧ Within lo hi w w' := by
  have hnl := hO.1.len
  have HNL := Lib.hid hnl
  have HM := Lib.hid hm
  clear hm hnl
  go_enter Try.func78, Try.ntmps78
  go_wp2
  go_loopw [1, 5] (fun q s wr => ∃ i : Nat, i ≤ n ∧ s = .int .i64 i ∧ q = .int .i64 (kAt k es i) ∧ OIn wr lo hi (.slice A n c) (markTo k es i) ∧ Within lo hi w wr) (fun _ s _ => n - (intOf s).toNat)
  case atStart => exact ⟨0, Nat.zero_le _, rfl, rfl, by rw [markTo_zero]; exact hO, Within.refl _ _ _⟩
  case round =>
    obtain ⟨i, hi, rfl, rfl, hOr, hWr⟩ := hrel
    clear hO
    by_cases hlt : i < n
    · obtain ⟨g, rfl⟩ := hOr.1.at0 (by omega)
      have hie : i < es.length := by have := HNL.out; omega
      have hil : i < (markTo k es i).length := by rw [markTo_length]; exact hie
      obtain ⟨h1, _, _⟩ := hOr.1.cellsAt hil
      rw [markTo_get hie hil, if_neg (Nat.lt_irrefl _)] at h1
      obtain ⟨hRi, _⟩ := hOr.1.2.1 (markTo k es i)[i] (List.getElem_mem hil)
      rw [markTo_get hie hil, if_neg (Nat.lt_irrefl _)] at hRi
      obtain ⟨g', hg'⟩ : ∃ g', g' = if es[i].r.length = 0 then wr.heap.size else es[i].g := ⟨_, rfl⟩
      have hRg : Row wr 2 es[i].A es[i].r g' := by
        intro hn
        rw [hg', if_neg (by omega)]
        exact hRi hn
      have HG := Lib.hid hg'
      have hml := HM.out es[i] (List.getElem_mem hie)
      obtain ⟨hf0, hf1⟩ := kAt_fit hk0 hk1 HM.out i (by omega)
      clear hg' hRi
      go_wp2_with fail
      refine (markInt64S_any es[i].A es[i].c g' es[i].r (kAt k es i) wr hRg (by omega) hf0 (by omega)).mono ?_
      rintro e w1 ⟨rfl, hR1, hg1⟩
      obtain ⟨u, hc, hfz, hO2, hW2⟩ := mark_step hOr hie HG.out hR1 hg1
      have hW3 := hWr.trans hW2
      have hk2 : kAt k es (i + 1) = kAt k es i + (es[i].r.length : Int) + 1 := by simp only [kAt]; rw [rl_eq hie]
      have HK2 := Lib.hid hk2
      clear hk2 hR1 hg1 hOr hWr hW2 hRg h1
      go_wp2
      go_roundw
      case rel => exact ⟨i + 1, by omega, by go_num, by rw [HK2.out], hO2, hW3⟩
      case measure => simp [intOf]; omega
    · have hd : decide (i < n) = false := by simpa using hlt
      have hin : i = n := by omega
      go_wp2
      go_ret
      subst hin
      exact ⟨rfl, hOr, hWr⟩

theorem held_rx {k : Int} {es : List Ent} {j : Nat} (h : j < es.length) : rx ((markTo k es es.length).map Ent.pair) j = marks (kAt k es j) es[j].r.length ∧ nx ((markTo k es es.length).map Ent.pair) j = kAt k es j + (es[j].r.length : Int) := by
  have hj : j < (markTo k es es.length).length := by rw [markTo_length]; exact h
  rw [rx_map hj, nx_map hj, markTo_get h hj, if_pos h]
  exact ⟨rfl, rfl⟩
set_option maxRecDepth 100000 in
set_option maxHeartbeats 1000000 in
theorem heldCountS_any (A : Option Addr) (n c B : Nat) (es : List Ent) (k : Int) (w : World) (hn : n = es.length) (hB : Bag w B A ((markTo k es n).map Ent.pair)) (hl : n ≤ 2097152) (hm : ∀ e ∈ es, e.r.length ≤ 2097152) (hk0 : 0 ≤ k) (hk1 : k ≤ 1000) :
    Calls Try.prog 79 #[.slice A n c, .int .i64 k] w fun e w' => e = .returned (.int .i64 (kAt k es n)) ∧ w = w' := by
  have HN := Lib.hid hn
  have HM := Lib.hid hm
  clear hm hn
  go_enter Try.func79, Try.ntmps79
  go_wp2
  go_loop [1, 5] (fun q s => ∃ i : Nat, i ≤ n ∧ s = .int .i64 i ∧ q = .int .i64 (kAt k es i)) (fun _ s => n - (intOf s).toNat)
  case atStart => exact ⟨0, Nat.zero_le _, rfl, rfl⟩
  case round =>
    obtain ⟨i, hi, rfl, rfl⟩ := hrel
    by_cases hlt : i < n
    · have hie : i < es.length := by have := HN.out; omega
      obtain ⟨b, off, rfl, _, hc⟩ := hB (by rw [List.length_map, markTo_length]; have := HN.out; omega)
      obtain ⟨Ar, cap, h1, h2, h3, _⟩ := hc i (by rw [List.length_map, markTo_length]; exact hie)
      rw [HN.out, (held_rx hie).1] at h1 h3
      rw [HN.out, (held_rx hie).2] at h2
      rw [marks_length] at h1
      have hml := HM.out es[i] (List.getElem_mem hie)
      obtain ⟨hf0, hf1⟩ := kAt_fit hk0 hk1 HM.out i (by omega)
      have hk2 : kAt k es (i + 1) = kAt k es i + (es[i].r.length : Int) + 1 := by simp only [kAt]; rw [rl_eq hie]
      have HK2 := Lib.hid hk2
      clear hk2 hc hB
      go_wp2_with fail
      refine (heldInt64S_any Ar cap es[i].r.length B (kAt k es i) w h3 (by omega) hf0 (by omega)).mono ?_
      rintro e w1 ⟨rfl, rfl⟩
      have hs0 : 0 ≤ kAt k es i + (es[i].r.length : Int) := by omega
      go_wp2
      go_round
      case rel => exact ⟨i + 1, by omega, by go_num, by rw [HK2.out]⟩
      case measure => simp [intOf]; omega
    · have hd : decide (i < n) = false := by simpa using hlt
      have hin : i = n := by omega
      go_wp2
      go_ret
      subst hin
      exact ⟨rfl, rfl⟩
end Go.Proofs.Ytoncfodlffofdaa
