/- Contracts of the drawing of bags, fourth part: DrawBagOk, DrawShowBag: a bag; DrawBagOf: a few rows, in new memory; nothing that lay has turned. -/
import Derived.Test.YtcfnbpofbcendabDrawBag3
import Derived.Test.YtcfnbpofbcendabJB
namespace Go.Proofs.Ytcfnbpofbcendab
open Go.RowKit

def rowCells (es : List Ent) : List Value := es.map fun e => .slice e.A e.r.length e.c
/-- Drawn rows: their slices begin block g, the rows lie in blocks of numbers. -/
def RS (w : World) (lo g cap : Nat) (es : List Ent) : Prop :=
  w.ownsRow lo 25 1 (.slice (some ⟨g, 0, none⟩) es.length cap) es.length (rowCells es) ∧ ∀ e ∈ es, Row w 2 e.A e.r e.g
theorem row_not1 {w : World} {lo : Nat} {v : Value} {n : Nat} {xs : List Value} {A : Option Addr} {r : List Int} {b : Nat} (hown : w.ownsRow lo 25 1 v n xs) (hR : Row w 2 A r b) (hn : 0 < r.length) : some b ≠ v.ownBlock := by
  intro e
  obtain ⟨_, cur, hc, _⟩ := hR hn
  rcases hown.2 with ⟨rfl, _⟩ | ⟨g, cap, cur', rfl, _, hg, _⟩
  · cases e
  · have : b = g := Option.some.inj e
    subst this
    rw [hc] at hg
    injection hg with hg
    injection hg with _ h2 _
    exact absurd h2 (by decide)
theorem RS.rws {w : World} {lo g cap : Nat} {es : List Ent} (h : RS w lo g cap es) (hl : ∀ e ∈ es, e.r.length ≤ 1099511627776) : Rws w w.heap.size (some ⟨g, 0, none⟩) (es.map Ent.r) := fun hn => by
  simp only [List.length_map] at hn
  rcases h.1.2 with ⟨hv, _⟩ | ⟨g', cap', cur, hv, hg, hh, _, _, hs, ht⟩
  · cases hv
  · injection hv with hv _ _
    injection hv with hv
    injection hv with hv _ _
    subst hv
    have hlt := Blk.lt (t := 25) (cs := cur) hh
    refine ⟨g, 0, rfl, hlt, fun j hj => ?_⟩
    simp only [List.length_map] at hj
    have e0 : ∀ i, i < es.length → w.cell? ⟨g, 0 + i, none⟩ = (rowCells es)[i]? := by
      intro i hi
      rw [Nat.zero_add, Blk.cell (t := 25) (cs := cur) hh i, ← ht, List.getElem?_take, if_pos (by omega), Array.getElem?_toList]
    have h1 := h.2 es[j] (List.getElem_mem hj)
    have hr : rr (es.map Ent.r) j = es[j].r := by simp [rr, hj]
    rw [hr]
    refine ⟨es[j].A, es[j].c, ?_, h1.ints, hl _ (List.getElem_mem hj)⟩
    rw [e0 j hj]
    simp [rowCells, hj]
theorem RS.on {w w' : World} {lo g cap : Nat} {es : List Ent} (h : RS w lo g cap es) (hb : Below w.heap.size w w') : RS w' lo g cap es :=
  ⟨own_keepB h.1 fun r e => hb.block r (h.1.lt r e).2, fun e he => (h.2 e he).on hb⟩
theorem RS.grow {w w' : World} {lo g cap : Nat} {es : List Ent} {f : Ent} {v' : Value} {n : Nat} (h : RS w lo g cap es) (hg : w.grownBy w' (some g)) (hn : n = es.length + 1) (hown : w'.ownsRow lo 25 1 v' n (rowCells es ++ [.slice f.A f.r.length f.c])) (hat : v'.ownBlock = some g ∨ v'.ownBlock = some w.heap.size)
    (hf : Row w 2 f.A f.r f.g) : ∃ g' cap', v' = .slice (some ⟨g', 0, none⟩) (es ++ [f]).length cap' ∧ RS w' lo g' cap' (es ++ [f]) := by
  have hn' : n = (es ++ [f]).length := by simp [hn]
  subst hn'
  obtain ⟨g', hv⟩ : ∃ g', v'.ownBlock = some g' := by
    rcases hat with h | h
    · exact ⟨_, h⟩
    · exact ⟨_, h⟩
  have hform : ∃ cap', v' = .slice (some ⟨g', 0, none⟩) (es ++ [f]).length cap' := by
    rcases hown.2 with ⟨rfl, _⟩ | ⟨g2, cap2, cur, rfl, _⟩
    · cases hv
    · have e : g2 = g' := Option.some.inj hv
      subst e
      exact ⟨cap2, rfl⟩
  obtain ⟨cap', rfl⟩ := hform
  refine ⟨g', cap', rfl, by unfold rowCells at *; rw [List.map_append]; exact hown, fun e he => ?_⟩
  have hR : Row w 2 e.A e.r e.g := by
    rcases List.mem_append.1 he with he | he
    · exact h.2 e he
    · obtain rfl := List.mem_singleton.1 he; exact hf
  exact hR.kept hg fun hn => row_not1 h.1 hR hn
theorem RS.grownC {w w' : World} {lo g cap c : Nat} {es : List Ent} (h : RS w lo g cap es) (hg : w.grownBy w' (some c)) (hc : Cur w c) : RS w' lo g cap es := by
  have hc0 := hc
  obtain ⟨A, cp, zs, i, hh, hB, _⟩ := hc
  have hne : ∀ {v : Value} {n : Nat} {xs : List Value}, w.ownsRow lo 25 1 v n xs → v.ownBlock = none ∨ v.ownBlock ≠ some c := by
    intro v n xs hown
    right
    intro e
    rcases hown.2 with ⟨rfl, _⟩ | ⟨g', cap', cur', rfl, _, hg', _⟩
    · cases e
    · have : g' = c := Option.some.inj e
      subst this
      unfold Blk at hB
      rw [hB] at hg'
      injection hg' with hg'
      injection hg' with _ h2 _
      exact absurd h2 (by decide)
  exact ⟨h.1.kept hg (hne h.1), fun e he => (h.2 e he).kC hg hc0⟩
theorem reads_new1 (w : World) (t : TypeId) (u0 : Value) : Reads (w.alloc (.cells #[u0] t)) (w.heap.size + 1) 1 (some ⟨w.heap.size, 0, none⟩) 1 [u0] := by
  refine ⟨rfl, fun _ => ⟨_, rfl, Nat.lt_succ_self _, fun j u hu => ?_⟩⟩
  have hB := Blk.new w t #[u0]
  have ea : Addr.add ⟨w.heap.size, 0, none⟩ j = ⟨w.heap.size, 0 + j, none⟩ := by unfold Addr.add; split <;> simp_all
  rw [ea, Nat.zero_add, hB.cell j, ← hu]
  simp
theorem empty_rows (w : World) (lo : Nat) (h : lo ≤ w.heap.size) : (w.alloc (.cells #[] 25)).ownsRow lo 25 1 (.slice (some ⟨w.heap.size, 0, none⟩) 0 0) 0 [] :=
  World.ownsRow_made w #[] 0 h (Nat.zero_le _) rfl
theorem info_rowD : (Try.prog.info? 25).map (fun i => (i.zero, i.size, i.bytes)) = some (some (.slice none 0 0), 1, 24) := by kernel_rfl

/-- A few rows, drawn from a code. -/
def DrawnRows (w : World) (e : Ending) (w' : World) : Prop :=
  ∃ g cap rows, e = .returned (.slice (some ⟨g, 0, none⟩) rows.length cap) ∧ Rws w' w'.heap.size (some ⟨g, 0, none⟩) rows ∧ rows.length ≤ 8 ∧ (∀ j, j < rows.length → (rr rows j).length ≤ 1000) ∧ Below w.heap.size w w'
theorem RS.drawn {w w' : World} {lo g cap : Nat} {es : List Ent} {v : Value} (h : RS w' lo g cap es) (hv : v = .slice (some ⟨g, 0, none⟩) es.length cap) (hl : es.length ≤ 8) (he : ∀ e ∈ es, e.r.length ≤ 1000) (hb : Below w.heap.size w w') : DrawnRows w (.returned v) w' := by
  refine ⟨g, cap, es.map Ent.r, by rw [hv, List.length_map], h.rws (fun e h => by have := he e h; omega), by simpa using hl, fun j hj => ?_, hb⟩
  rw [List.length_map] at hj
  have hr : rr (es.map Ent.r) j = es[j].r := by simp [rr, hj]
  rw [hr]
  exact he _ (List.getElem_mem hj)

/-- A bag, drawn from a code. -/
def DrawnB (w : World) (e : Ending) (w' : World) : Prop :=
  ∃ g cap bag, e = .returned (.slice (some ⟨g, 0, none⟩) bag.length cap) ∧ Bag w' w'.heap.size (some ⟨g, 0, none⟩) bag ∧ bag.length ≤ 400 ∧ Below w.heap.size w w'
end Go.Proofs.Ytcfnbpofbcendab
