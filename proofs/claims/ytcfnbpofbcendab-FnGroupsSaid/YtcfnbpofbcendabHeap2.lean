/- Contracts of the heap of counts: its Len, Less, Swap: what each returns, how the counts stand then. For counts that lie in memory of the call's own, rows of at most 2^40. -/
import Derived.Test.YtcfnbpofbcendabHeap0
import Derived.Test.YtcfnbpofbcendabHeap1
import Derived.Test.YtcfnbpofbcendabJB
namespace Go.Proofs.Ytcfnbpofbcendab
open Go.RowKit

/-- A row that lies below hi, in another block than g. -/
def RowG (w : World) (hi g : Nat) (A : Option Addr) (zs : List Int) : Prop :=
  0 < zs.length → ∃ b off, A = some ⟨b, off, none⟩ ∧ b < hi ∧ b ≠ g ∧ b < w.heap.size ∧ ∀ j, j < zs.length → w.cell? ⟨b, off + j, none⟩ = some (.int .i64 (ix zs j))
theorem RowG.keep {w w' : World} {hi g : Nat} {A : Option Addr} {zs : List Int} (h : RowG w hi g A zs) (hs : w.heap.size ≤ w'.heap.size) (hk : ∀ p : Addr, p.block < hi → p.block ≠ g → p.block < w.heap.size → w'.cell? p = w.cell? p) : RowG w' hi g A zs := fun hn => by
  obtain ⟨b, off, e, h1, h2, h3, hc⟩ := h hn
  exact ⟨b, off, e, h1, h2, by omega, fun j hj => (hk _ h1 h2 h3).trans (hc j hj)⟩
theorem RowG.on {w w' : World} {hi g : Nat} {A : Option Addr} {zs : List Int} (h : RowG w hi g A zs) (hb : Below w.heap.size w w') : RowG w' hi g A zs := h.keep hb.size fun _ _ _ h3 => hb.cell h3
theorem RowG.ints {w : World} {hi g : Nat} {A : Option Addr} {zs : List Int} (h : RowG w hi g A zs) : Ints w w.heap.size A zs := fun hn => by
  obtain ⟨b, off, e, _, _, h3, hc⟩ := h hn
  exact ⟨b, off, e, h3, hc⟩
theorem RowG.of {w : World} {B hi g : Nat} {A : Option Addr} {zs : List Int} (h : Ints w B A zs) (h1 : B ≤ hi) (h2 : B ≤ w.heap.size) (h3 : B ≤ g) : RowG w hi g A zs := fun hn => by
  obtain ⟨b, off, e, hb, hc⟩ := h hn
  exact ⟨b, off, e, by omega, by omega, by omega, hc⟩
/-- The counts of a heap begin block g; their rows lie below hi, and not in g. -/
def HC (w : World) (lo hi g cap : Nat) (es : List Ent) : Prop :=
  w.ownsRow lo 33 2 (.slice (some ⟨g, 0, none⟩) es.length cap) es.length (entCells es) ∧ ∀ e ∈ es, RowG w hi g e.A e.r ∧ e.r.length ≤ 1099511627776
theorem HC.lt {w : World} {lo hi g cap : Nat} {es : List Ent} (h : HC w lo hi g cap es) : lo ≤ g ∧ g < w.heap.size := h.1.lt g rfl
theorem HC.on {w w' : World} {lo hi g cap : Nat} {es : List Ent} (h : HC w lo hi g cap es) (hb : Below w.heap.size w w') : HC w' lo hi g cap es :=
  ⟨own_keepB h.1 fun r e => hb.block r (h.1.lt r e).2, fun e he => ⟨(h.2 e he).1.on hb, (h.2 e he).2⟩⟩
theorem HC.parts {w : World} {lo hi g cap : Nat} {es : List Ent} (h : HC w lo hi g cap es) : ∃ cur : Array Value, lo ≤ g ∧ w.heap[g]? = some (.cells cur 33 (0, 0)) ∧ es.length ≤ cap ∧ cap ≤ maxLen ∧ cur.size = cap * 2 ∧ cur.toList.take (es.length * 2) = entCells es := by
  rcases h.1.2 with ⟨hv, _⟩ | ⟨g', cap', cur, hv, h2, h3, h4, h5, h6, h7⟩
  · cases hv
  · injection hv with h8 _ h10
    injection h8 with h8
    injection h8 with h8 _ _
    subst h8 h10
    exact ⟨cur, h2, h3, h4, h5, h6, h7⟩
theorem HC.cells {w : World} {lo hi g cap : Nat} {es : List Ent} (h : HC w lo hi g cap es) {i : Nat} (hil : i < es.length) :
    w.cell? ⟨g, i * 2, none⟩ = some (.slice (ex es i).A (kx es i).length (ex es i).c) ∧ w.cell? ⟨g, i * 2 + 1, none⟩ = some (.int .i64 (ex es i).n) ∧ w.frozen? ⟨g, i * 2, none⟩ = false ∧ w.frozen? ⟨g, i * 2 + 1, none⟩ = false := by
  obtain ⟨cur, h2, h3, h4, h5, h6, h7⟩ := h.parts
  have hB : Blk w g 33 cur := h3
  have e0 : ∀ k, k < es.length * 2 → cur[k]? = (entCells es)[k]? := fun k hk => by rw [← h7, List.getElem?_take, if_pos hk, Array.getElem?_toList]
  unfold kx
  rw [ex_eq hil]
  exact ⟨by rw [hB.cell, e0 _ (by omega), entCells_get0 es i hil], by rw [hB.cell, e0 _ (by omega), entCells_get1 es i hil], hB.frozen _, hB.frozen _⟩
theorem entCells_set : ∀ (es : List Ent) (i : Nat) (e : Ent), i < es.length → entCells (es.set i e) = ((entCells es).set (i * 2) (.slice e.A e.r.length e.c)).set (i * 2 + 1) (.int .i64 e.n)
  | f :: es, 0, e, _ => by simp [entCells, Ent.cells]
  | f :: es, i + 1, e, h => by
    have := entCells_set es i e (by simpa using h)
    rw [show (i + 1) * 2 = i * 2 + 2 by omega, show i * 2 + 2 + 1 = i * 2 + 1 + 2 by omega]
    simpa [entCells, Ent.cells] using this
theorem HC.set {w : World} {lo hi g cap : Nat} {es : List Ent} (h : HC w lo hi g cap es) {i : Nat} (hil : i < es.length) (e : Ent) (he : RowG w hi g e.A e.r ∧ e.r.length ≤ 1099511627776) :
    HC ((w.setCell ⟨g, i * 2, none⟩ (.slice e.A e.r.length e.c)).setCell ⟨g, i * 2 + 1, none⟩ (.int .i64 e.n)) lo hi g cap (es.set i e) := by
  obtain ⟨cur, h2, h3, h4, h5, h6, h7⟩ := h.parts
  have hB : Blk w g 33 cur := h3
  have hk : ∀ p : Addr, p.block < hi → p.block ≠ g → p.block < w.heap.size → ((w.setCell ⟨g, i * 2, none⟩ (.slice e.A e.r.length e.c)).setCell ⟨g, i * 2 + 1, none⟩ (.int .i64 e.n)).cell? p = w.cell? p := by
    intro p _ hp _
    rw [World.cell?_setCell_other _ _ _ _ (fun e => by subst e; exact hp rfl), World.cell?_setCell_other _ _ _ _ (fun e => by subst e; exact hp rfl)]
  refine ⟨⟨entCells_length _, .inr ⟨g, cap, _, by rw [List.length_set], h2, (hB.set_ _ _).set_ _ _, by rw [List.length_set]; exact h4, h5, by simpa using h6, ?_⟩⟩, fun f hf => ?_⟩
  · rw [entCells_set es i e hil, ← h7, List.length_set, Array.toList_setIfInBounds, Array.toList_setIfInBounds, List.take_set, List.take_set]
  · rcases List.mem_or_eq_of_mem_set hf with h1 | h1
    · exact ⟨(h.2 f h1).1.keep (by simp) hk, (h.2 f h1).2⟩
    · subst h1; exact ⟨he.1.keep (by simp) hk, he.2⟩

theorem heapLen_any (A : Option Addr) (n c : Nat) (w : World) : Calls Try.prog 48 #[.slice A n c] w fun e w' => e = .returned (.int .i64 n) ∧ w = w' := by
  go_enter Try.func48, Try.ntmps48
  go_wp2
  go_ret
  exact ⟨rfl, rfl⟩
set_option maxRecDepth 100000 in
set_option maxHeartbeats 1000000 in
theorem heapLess_any (lo hi g cap : Nat) (es : List Ent) (i j : Nat) (w : World) (h : HC w lo hi g cap es) (hil : i < es.length) (hj : j < es.length) :
    Calls Try.prog 73 #[.slice (some ⟨g, 0, none⟩) es.length cap, .int .i64 i, .int .i64 j] w fun e w' => e = .returned (.bool (lessB (kx es i) (kx es j))) ∧ Below w.heap.size w w' := by
  obtain ⟨ci, _, _, _⟩ := h.cells hil
  obtain ⟨cj, _, _, _⟩ := h.cells hj
  have hlo : lo ≤ w.heap.size := by have := h.lt; omega
  have hei := h.2 es[i] (List.getElem_mem hil)
  have hej := h.2 es[j] (List.getElem_mem hj)
  rw [← ex_eq hil] at hei
  rw [← ex_eq hj] at hej
  have i1 : Ints w.drew w.drew.heap.size (ex es i).A (kx es i) := hei.1.ints
  have i2 : Ints w.drew w.drew.heap.size (ex es j).A (kx es j) := hej.1.ints
  have l1 : (kx es i).length ≤ 1099511627776 := hei.2
  have l2 : (kx es j).length ≤ 1099511627776 := hej.2
  have hbd : Below w.heap.size w w.drew := bel_drewN (Below.refl _ _) 1
  go_enter Try.func73, Try.ntmps73
  go_wp2_with fail
  go_still_tail 10, (by kernel_rfl)
  change wpList _ _ _ _ _ w.drew
  clear ci cj hei hej h
  generalize w.drew = wd at *
  go_wp2_with fail
  refine (implRowLess_any _ _ _ _ (kx es i) (kx es j) l1 l2 wd i1 i2).mono ?_
  rintro e w1 ⟨rfl, hb1⟩
  have hb := hbd.trans (hb1.mono hbd.size)
  go_wp2
  go_ret
  exact ⟨rfl, hb⟩
set_option maxRecDepth 100000 in
set_option maxHeartbeats 1000000 in
theorem heapSwap_any (lo hi g cap : Nat) (es : List Ent) (i j : Nat) (w : World) (h : HC w lo hi g cap es) (hil : i < es.length) (hj : j < es.length) (hij : i ≠ j) :
    Calls Try.prog 74 #[.slice (some ⟨g, 0, none⟩) es.length cap, .int .i64 i, .int .i64 j] w fun e w' => (∃ v, e = .returned v) ∧ HC w' lo hi g cap (swp es i j) ∧ w.grownBy w' (some g) := by
  obtain ⟨ci0, ci1, fi0, fi1⟩ := h.cells hil
  obtain ⟨cj0, cj1, fj0, fj1⟩ := h.cells hj
  go_enter Try.func74, Try.ntmps74
  go_wp2_with fail
  go_region
  have hei := h.2 es[i] (List.getElem_mem hil)
  have hej := h.2 es[j] (List.getElem_mem hj)
  rw [← ex_eq hil] at hei
  rw [← ex_eq hj] at hej
  have h1 := h.set hil (ex es j) hej
  have hk1 : RowG ((w.setCell ⟨g, i * 2, none⟩ (.slice (ex es j).A (ex es j).r.length (ex es j).c)).setCell ⟨g, i * 2 + 1, none⟩ (.int .i64 (ex es j).n)) hi g (ex es i).A (ex es i).r := hei.1.keep (by simp) fun p _ hp _ => by
    rw [World.cell?_setCell_other _ _ _ _ (fun e => by subst e; exact hp rfl), World.cell?_setCell_other _ _ _ _ (fun e => by subst e; exact hp rfl)]
  have h2 := h1.set (i := j) (by rw [List.length_set]; exact hj) (ex es i) ⟨hk1, hei.2⟩
  have hg2 : w.grownBy ((((w.setCell ⟨g, i * 2, none⟩ (.slice (ex es j).A (ex es j).r.length (ex es j).c)).setCell ⟨g, i * 2 + 1, none⟩ (.int .i64 (ex es j).n)).setCell ⟨g, j * 2, none⟩ (.slice (ex es i).A (ex es i).r.length (ex es i).c)).setCell ⟨g, j * 2 + 1, none⟩ (.int .i64 (ex es i).n)) (some g) :=
    grown_trans (grown_trans (grown_trans (grown_setCell _ g _ _) (grown_setCell _ g _ _)) (grown_setCell _ g _ _)) (grown_setCell _ g _ _)
  have H2 := Lib.hid h2
  have HG2 := Lib.hid hg2
  clear h1 h2 hg2 hk1 hei hej
  go_end0
  exact ⟨⟨_, rfl⟩, H2.out, grown_trans HG2.out (grown_drew _ _)⟩
end Go.Proofs.Ytcfnbpofbcendab
