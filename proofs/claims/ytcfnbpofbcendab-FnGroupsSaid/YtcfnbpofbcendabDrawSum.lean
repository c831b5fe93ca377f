/- Contracts of the drawing for stage 3: DrawPlus, DrawChange: two bags; DrawMinus, DrawLeast, DrawIsSet: a bag; new memory; nothing that lay has turned. -/
import Derived.Test.YtcfnbpofbcendabDrawBag3
import Derived.Test.YtcfnbpofbcendabJB
namespace Go.Proofs.Ytcfnbpofbcendab
open Go.RowKit

theorem RB.parts {w : World} {lo g cap : Nat} {es : List Ent} (h : RB w lo g cap es) : ∃ cur : Array Value, lo ≤ g ∧ w.heap[g]? = some (.cells cur 33 (0, 0)) ∧ es.length ≤ cap ∧ cap ≤ maxLen ∧ cur.size = cap * 2 ∧ cur.toList.take (es.length * 2) = entCells es := by
  rcases h.1.2 with ⟨hv, _⟩ | ⟨g', cap', cur, hv, h2, h3, h4, h5, h6, h7⟩
  · cases hv
  · injection hv with hv hn hc
    injection hv with hv
    injection hv with hv _ _
    subst hv hc
    exact ⟨cur, h2, h3, h4, h5, h6, h7⟩
theorem RB.cellN {w : World} {lo g cap : Nat} {es : List Ent} (h : RB w lo g cap es) {k : Nat} (hk : k < es.length) : w.cell? ⟨g, k * 2 + 1, none⟩ = some (.int .i64 es[k].n) ∧ w.frozen? ⟨g, k * 2 + 1, none⟩ = false := by
  obtain ⟨cur, h2, h3, h4, h5, h6, h7⟩ := h.parts
  refine ⟨?_, Blk.frozen (t := 33) h3 _⟩
  rw [Blk.cell (t := 33) h3, ← entCells_get1 es k hk, ← h7, List.getElem?_take, if_pos (by omega), Array.getElem?_toList]
theorem RB.setN {w : World} {lo g cap : Nat} {es : List Ent} (h : RB w lo g cap es) {k : Nat} (hk : k < es.length) (m : Int) : RB (w.setCell ⟨g, k * 2 + 1, none⟩ (.int .i64 m)) lo g cap (es.set k { es[k] with n := m }) := by
  obtain ⟨cur, h2, h3, h4, h5, h6, h7⟩ := h.parts
  refine ⟨⟨by rw [entCells_length], .inr ⟨g, cap, cur.setIfInBounds (k * 2 + 1) (.int .i64 m), by rw [List.length_set], h2, Blk.set_ (t := 33) h3 _ _, by rw [List.length_set]; exact h4, h5, by simpa using h6, ?_⟩⟩, fun e he => ?_⟩
  · rw [entCells_setN es k hk, ← h7, List.length_set, Array.toList_setIfInBounds, List.take_set]
  · obtain ⟨f, hf, e1, e2, e3⟩ := mem_setN he
    have h8 := h.2 f hf
    have hne := row_not h.1 h8
    rw [e1, e2, e3] at h8
    rw [e1, e3] at hne
    refine h8.keepB fun hn => ?_
    exact Below.heap_setCell w ⟨g, k * 2 + 1, none⟩ _ _ (fun e => hne hn (by rw [e]; rfl))

/-- A bag, drawn from a code. -/
def DrawnC (w : World) (e : Ending) (w' : World) : Prop :=
  ∃ g cap bag, e = .returned (.slice (some ⟨g, 0, none⟩) bag.length cap) ∧ Bag w' w'.heap.size (some ⟨g, 0, none⟩) bag ∧ bag.length ≤ cap ∧ bag.length ≤ 400 ∧ Below w.heap.size w w'
theorem RB.drawnC {w w' : World} {lo g cap : Nat} {es : List Ent} {v : Value} (h : RB w' lo g cap es) (hv : v = .slice (some ⟨g, 0, none⟩) es.length cap) (hl : es.length ≤ 400) (he : ∀ e ∈ es, e.r.length ≤ 1000) (hb : Below w.heap.size w w') : DrawnC w (.returned v) w' :=
  ⟨g, cap, es.map Ent.pair, by rw [hv, List.length_map], h.bag (fun e hm => by have := he e hm; omega), by rw [List.length_map]; exact h.cap, by rw [List.length_map]; exact hl, hb⟩
/-- Two bags, drawn from a code. -/
def DrawnBB (w : World) (e : Ending) (w' : World) : Prop :=
  ∃ g cap bag g' cap' bag', e = .returned (.tuple #[.slice (some ⟨g, 0, none⟩) bag.length cap, .slice (some ⟨g', 0, none⟩) bag'.length cap']) ∧ Bag w' w'.heap.size (some ⟨g, 0, none⟩) bag ∧ bag.length ≤ cap ∧ bag.length ≤ 400 ∧ Bag w' w'.heap.size (some ⟨g', 0, none⟩) bag' ∧ bag'.length ≤ cap' ∧ bag'.length ≤ 400 ∧ Below w.heap.size w w'
theorem RB.drawnBB {w w' : World} {lo g cap lo' g' cap' : Nat} {es es' : List Ent} {v : Value} (h : RB w' lo g cap es) (h' : RB w' lo' g' cap' es') (hv : v = .tuple #[.slice (some ⟨g, 0, none⟩) es.length cap, .slice (some ⟨g', 0, none⟩) es'.length cap']) (hl : es.length ≤ 400) (he : ∀ e ∈ es, e.r.length ≤ 1000) (hl' : es'.length ≤ 400) (he' : ∀ e ∈ es', e.r.length ≤ 1000) (hb : Below w.heap.size w w') : DrawnBB w (.returned v) w' :=
  ⟨g, cap, es.map Ent.pair, g', cap', es'.map Ent.pair, by rw [hv, List.length_map, List.length_map], h.bag (fun e hm => by have := he e hm; omega), by rw [List.length_map]; exact h.cap, by rw [List.length_map]; exact hl, h'.bag (fun e hm => by have := he' e hm; omega), by rw [List.length_map]; exact h'.cap, by rw [List.length_map]; exact hl', hb⟩
end Go.Proofs.Ytcfnbpofbcendab
