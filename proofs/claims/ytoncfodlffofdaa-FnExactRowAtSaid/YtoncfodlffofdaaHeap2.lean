/- Contracts of the heap of counts: its Len, Less, Swap: what each returns, how the counts stand then. For counts that lie in memory of the call's own, rows of at most 2^40. -/
import Derived.Test.YtoncfodlffofdaaHeap0
import Derived.Test.YtoncfodlffofdaaHeap1
import Derived.Test.YtoncfodlffofdaaCopyRow0
namespace Go.Proofs.Ytoncfodlffofdaa
open Go.RowKit

/-- The counts of a heap begin block g; their rows lie below lo; each is there once. -/
def HC (w : World) (lo g cap : Nat) (es : List Ent) : Prop :=
  w.ownsRow lo 34 2 (.slice (some ⟨g, 0, none⟩) es.length cap) es.length (entCells es) ∧ ∀ e ∈ es, Ints w lo e.A e.r ∧ e.r.length ≤ 1099511627776 ∧ e.n = 1
theorem HC.lt {w : World} {lo g cap : Nat} {es : List Ent} (h : HC w lo g cap es) : lo ≤ g ∧ g < w.heap.size := h.1.lt g rfl
theorem HC.on {w w' : World} {lo g cap : Nat} {es : List Ent} (h : HC w lo g cap es) (hb : Below w.heap.size w w') : HC w' lo g cap es :=
  ⟨own_keepB h.1 fun r e => hb.block r (h.1.lt r e).2, fun e he => ⟨(h.2 e he).1.below (hb.mono (by have := h.lt; omega)), (h.2 e he).2⟩⟩
theorem HC.parts {w : World} {lo g cap : Nat} {es : List Ent} (h : HC w lo g cap es) : ∃ cur : Array Value, lo ≤ g ∧ w.heap[g]? = some (.cells cur 34 (0, 0)) ∧ es.length ≤ cap ∧ cap ≤ maxLen ∧ cur.size = cap * 2 ∧ cur.toList.take (es.length * 2) = entCells es := by
  rcases h.1.2 with ⟨hv, _⟩ | ⟨g', cap', cur, hv, h2, h3, h4, h5, h6, h7⟩
  · cases hv
  · injection hv with h8 _ h10
    injection h8 with h8
    injection h8 with h8 _ _
    subst h8 h10
    exact ⟨cur, h2, h3, h4, h5, h6, h7⟩
theorem HC.cells {w : World} {lo g cap : Nat} {es : List Ent} (h : HC w lo g cap es) {i : Nat} (hi : i < es.length) :
    w.cell? ⟨g, i * 2, none⟩ = some (.slice (ex es i).A (kx es i).length (ex es i).c) ∧ w.cell? ⟨g, i * 2 + 1, none⟩ = some (.int .i64 (ex es i).n) ∧ w.frozen? ⟨g, i * 2, none⟩ = false ∧ w.frozen? ⟨g, i * 2 + 1, none⟩ = false := by
  obtain ⟨cur, h2, h3, h4, h5, h6, h7⟩ := h.parts
  have hB : Blk w g 34 cur := h3
  have e0 : ∀ k, k < es.length * 2 → cur[k]? = (entCells es)[k]? := fun k hk => by rw [← h7, List.getElem?_take, if_pos hk, Array.getElem?_toList]
  unfold kx
  rw [ex_eq hi]
  exact ⟨by rw [hB.cell, e0 _ (by omega), entCells_get0 es i hi], by rw [hB.cell, e0 _ (by omega), entCells_get1 es i hi], hB.frozen _, hB.frozen _⟩
theorem entCells_set : ∀ (es : List Ent) (i : Nat) (e : Ent), i < es.length → entCells (es.set i e) = ((entCells es).set (i * 2) (.slice e.A e.r.length e.c)).set (i * 2 + 1) (.int .i64 e.n)
  | f :: es, 0, e, _ => by simp [entCells, Ent.cells]
  | f :: es, i + 1, e, h => by
    have := entCells_set es i e (by simpa using h)
    rw [show (i + 1) * 2 = i * 2 + 2 by omega, show i * 2 + 2 + 1 = i * 2 + 1 + 2 by omega]
    simpa [entCells, Ent.cells] using this
theorem HC.set {w : World} {lo g cap : Nat} {es : List Ent} (h : HC w lo g cap es) {i : Nat} (hi : i < es.length) (e : Ent) (he : Ints w lo e.A e.r ∧ e.r.length ≤ 1099511627776 ∧ e.n = 1) :
    HC ((w.setCell ⟨g, i * 2, none⟩ (.slice e.A e.r.length e.c)).setCell ⟨g, i * 2 + 1, none⟩ (.int .i64 e.n)) lo g cap (es.set i e) := by
  obtain ⟨cur, h2, h3, h4, h5, h6, h7⟩ := h.parts
  have hB : Blk w g 34 cur := h3
  have hk : ∀ p : Addr, p.block < lo → ((w.setCell ⟨g, i * 2, none⟩ (.slice e.A e.r.length e.c)).setCell ⟨g, i * 2 + 1, none⟩ (.int .i64 e.n)).cell? p = w.cell? p := by
    intro p hp
    rw [World.cell?_setCell_other _ _ _ _ (fun e => by subst e; simp at hp; omega), World.cell?_setCell_other _ _ _ _ (fun e => by subst e; simp at hp; omega)]
  refine ⟨⟨entCells_length _, .inr ⟨g, cap, _, by rw [List.length_set], h2, (hB.set_ _ _).set_ _ _, by rw [List.length_set]; exact h4, h5, by simpa using h6, ?_⟩⟩, fun f hf => ?_⟩
  · rw [entCells_set es i e hi, ← h7, List.length_set, Array.toList_setIfInBounds, Array.toList_setIfInBounds, List.take_set, List.take_set]
  · rcases List.mem_or_eq_of_mem_set hf with h1 | h1
    · exact ⟨(h.2 f h1).1.keep hk, (h.2 f h1).2⟩
    · subst h1; exact ⟨he.1.keep hk, he.2⟩

theorem heapLen_any (A : Option Addr) (n c : Nat) (w : World) : Calls Try.prog 140 #[.slice A n c] w fun e w' => e = .returned (.int .i64 n) ∧ w = w' := by
  go_enter Try.func140, Try.ntmps140
  go_wp2
  go_ret
  exact ⟨rfl, rfl⟩
set_option maxRecDepth 100000 in
set_option maxHeartbeats 1000000 in
theorem heapLess_any (lo g cap : Nat) (es : List Ent) (i j : Nat) (w : World) (h : HC w lo g cap es) (hi : i < es.length) (hj : j < es.length) :
    Calls Try.prog 170 #[.slice (some ⟨g, 0, none⟩) es.length cap, .int .i64 i, .int .i64 j] w fun e w' => e = .returned (.bool (lessB (kx es i) (kx es j))) ∧ Below w.heap.size w w' := by
  obtain ⟨ci, _, _, _⟩ := h.cells hi
  obtain ⟨cj, _, _, _⟩ := h.cells hj
  have hlo : lo ≤ w.heap.size := by have := h.lt; omega
  have hei := h.2 es[i] (List.getElem_mem hi)
  have hej := h.2 es[j] (List.getElem_mem hj)
  rw [← ex_eq hi] at hei
  rw [← ex_eq hj] at hej
  have i1 : Ints w.drew w.drew.heap.size (ex es i).A (kx es i) := hei.1.more hlo
  have i2 : Ints w.drew w.drew.heap.size (ex es j).A (kx es j) := hej.1.more hlo
  have l1 : (kx es i).length ≤ 1099511627776 := hei.2.1
  have l2 : (kx es j).length ≤ 1099511627776 := hej.2.1
  have hbd : Below w.heap.size w w.drew := bel_drewN (Below.refl _ _) 1
  go_enter Try.func170, Try.ntmps170
  go_wp2_with fail
  go_still_tail 10, (by kernel_rfl)
  change wpList _ _ _ _ _ w.drew
  clear ci cj hei hej h
  generalize w.drew = wd at *
  go_wp2_with fail
  refine (implRowLess_any _ _ _ _ (kx es i) (kx es j) l1 l2 wd i1 i2).mono ?_
  rintro e w1 ⟨rfl, hb1⟩
  have hb := hbd.trans (hb1.mono hbd.size)
  go_wp2
  go_ret
  exact ⟨rfl, hb⟩
set_option maxRecDepth 100000 in
set_option maxHeartbeats 1000000 in
theorem heapSwap_any (lo g cap : Nat) (es : List Ent) (i j : Nat) (w : World) (h : HC w lo g cap es) (hi : i < es.length) (hj : j < es.length) (hij : i ≠ j) :
    Calls Try.prog 171 #[.slice (some ⟨g, 0, none⟩) es.length cap, .int .i64 i, .int .i64 j] w fun e w' => (∃ v, e = .returned v) ∧ HC w' lo g cap (swp es i j) ∧ w.grownBy w' (some g) := by
  obtain ⟨ci0, ci1, fi0, fi1⟩ := h.cells hi
  obtain ⟨cj0, cj1, fj0, fj1⟩ := h.cells hj
  go_enter Try.func171, Try.ntmps171
  go_wp2_with fail
  go_region
  have hei := h.2 es[i] (List.getElem_mem hi)
  have hej := h.2 es[j] (List.getElem_mem hj)
  rw [← ex_eq hi] at hei
  rw [← ex_eq hj] at hej
  have h1 := h.set hi (ex es j) hej
  have hk1 : Ints ((w.setCell ⟨g, i * 2, none⟩ (.slice (ex es j).A (ex es j).r.length (ex es j).c)).setCell ⟨g, i * 2 + 1, none⟩ (.int .i64 (ex es j).n)) lo (ex es i).A (ex es i).r := hei.1.keep fun p hp => by
    have := h.lt
    rw [World.cell?_setCell_other _ _ _ _ (fun e => by subst e; simp at hp; omega), World.cell?_setCell_other _ _ _ _ (fun e => by subst e; simp at hp; omega)]
  have h2 := h1.set (i := j) (by rw [List.length_set]; exact hj) (ex es i) ⟨hk1, hei.2⟩
  have hg2 : w.grownBy ((((w.setCell ⟨g, i * 2, none⟩ (.slice (ex es j).A (ex es j).r.length (ex es j).c)).setCell ⟨g, i * 2 + 1, none⟩ (.int .i64 (ex es j).n)).setCell ⟨g, j * 2, none⟩ (.slice (ex es i).A (ex es i).r.length (ex es i).c)).setCell ⟨g, j * 2 + 1, none⟩ (.int .i64 (ex es i).n)) (some g) :=
    grown_trans (grown_trans (grown_trans (grown_setCell _ g _ _) (grown_setCell _ g _ _)) (grown_setCell _ g _ _)) (grown_setCell _ g _ _)
  have H2 := Lib.hid h2
  have HG2 := Lib.hid hg2
  clear h1 h2 hg2 hk1 hei hej
  go_end0
  exact ⟨⟨_, rfl⟩, H2.out, grown_trans HG2.out (grown_drew _ _)⟩
end Go.Proofs.Ytoncfodlffofdaa
