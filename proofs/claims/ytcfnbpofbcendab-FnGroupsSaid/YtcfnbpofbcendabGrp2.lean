/- The model's list of groups in memory: a row, a number, a number each; words and laws. -/
import Derived.Test.YtcfnbpofbcendabGrpThy
namespace Go.Proofs.Ytcfnbpofbcendab
open Go.RowKit

theorem info_group : (Try.prog.info? 59).map (fun i => (i.zero, i.size, i.bytes)) = some (some (.agg #[.slice none 0 0, .int .i64 0, .int .i64 0]), 3, 40) := by kernel_rfl
/-- A group in memory: its list (at A, of capacity c), how many, the sum. -/
structure GEnt where
  r : List Int
  n : Int
  m : Int
  A : Option Addr
  c : Nat
def GEnt.tr (e : GEnt) : Tr := (e.r, e.n, e.m)
def GEnt.cells (e : GEnt) : List Value := [.slice e.A e.r.length e.c, .int .i64 e.n, .int .i64 e.m]
def gCells : List GEnt → List Value
  | [] => []
  | e :: es => e.cells ++ gCells es
theorem gCells_length (es : List GEnt) : (gCells es).length = es.length * 3 := by
  induction es with
  | nil => rfl
  | cons e es ih => simp [gCells, GEnt.cells, ih]; omega
theorem gCells_append (es fs : List GEnt) : gCells (es ++ fs) = gCells es ++ gCells fs := by
  induction es with
  | nil => rfl
  | cons e es ih => simp [gCells, ih]
theorem gCells_get : ∀ (es : List GEnt) (k : Nat) (h : k < es.length), (gCells es)[k * 3]? = some (.slice es[k].A es[k].r.length es[k].c) ∧ (gCells es)[k * 3 + 1]? = some (.int .i64 es[k].n) ∧ (gCells es)[k * 3 + 2]? = some (.int .i64 es[k].m)
  | e :: es, 0, _ => ⟨rfl, rfl, rfl⟩
  | e :: es, k + 1, h => by
    have := gCells_get es k (by simpa using h)
    rw [show (k + 1) * 3 = k * 3 + 3 by omega, show k * 3 + 3 + 1 = k * 3 + 1 + 3 by omega, show k * 3 + 3 + 2 = k * 3 + 2 + 3 by omega]
    simpa [gCells, GEnt.cells] using this
theorem gCells_setN : ∀ (es : List GEnt) (k : Nat) (x : Int) (h : k < es.length), gCells (es.set k { es[k] with n := x }) = (gCells es).set (k * 3 + 1) (.int .i64 x)
  | e :: es, 0, x, _ => by simp [gCells, GEnt.cells]
  | e :: es, k + 1, x, h => by
    have := gCells_setN es k x (by simpa using h)
    rw [show (k + 1) * 3 + 1 = k * 3 + 1 + 3 by omega]
    simpa [gCells, GEnt.cells] using this
theorem gCells_setM : ∀ (es : List GEnt) (k : Nat) (x : Int) (h : k < es.length), gCells (es.set k { es[k] with m := x }) = (gCells es).set (k * 3 + 2) (.int .i64 x)
  | e :: es, 0, x, _ => by simp [gCells, GEnt.cells]
  | e :: es, k + 1, x, h => by
    have := gCells_setM es k x (by simpa using h)
    rw [show (k + 1) * 3 + 2 = k * 3 + 2 + 3 by omega]
    simpa [gCells, GEnt.cells] using this
def GC (w : World) (lo g cap : Nat) (es : List GEnt) : Prop :=
  w.ownsRow lo 59 3 (.slice (some ⟨g, 0, none⟩) es.length cap) es.length (gCells es) ∧ ∀ e ∈ es, RowG w w.heap.size g e.A e.r ∧ e.r.length ≤ 1099511627776
theorem RowG.upto {w : World} {hi g : Nat} {A : Option Addr} {r : List Int} (h : RowG w hi g A r) : RowG w w.heap.size g A r := fun hn => by
  obtain ⟨b, off, e1, _, h2, h3, hc⟩ := h hn
  exact ⟨b, off, e1, h3, h2, h3, hc⟩
theorem GC.lt {w : World} {lo g cap : Nat} {es : List GEnt} (h : GC w lo g cap es) : lo ≤ g ∧ g < w.heap.size := h.1.lt g rfl
theorem GC.on {w w' : World} {lo g cap : Nat} {es : List GEnt} (h : GC w lo g cap es) (hb : Below w.heap.size w w') : GC w' lo g cap es :=
  ⟨own_keepB h.1 fun r e => hb.block r (h.1.lt r e).2, fun e he => ⟨((h.2 e he).1.on hb).upto, (h.2 e he).2⟩⟩
theorem GC.drewN {w : World} {lo g cap : Nat} {es : List GEnt} (h : GC w lo g cap es) (n : Nat) : GC (w.drewN n) lo g cap es := h
theorem GC.parts {w : World} {lo g cap : Nat} {es : List GEnt} (h : GC w lo g cap es) : ∃ cur : Array Value, lo ≤ g ∧ w.heap[g]? = some (.cells cur 59 (0, 0)) ∧ es.length ≤ cap ∧ cap ≤ maxLen ∧ cur.size = cap * 3 ∧ cur.toList.take (es.length * 3) = gCells es := by
  rcases h.1.2 with ⟨hv, _⟩ | ⟨g', cap', cur, hv, h2, h3, h4, h5, h6, h7⟩
  · cases hv
  · injection hv with h8 _ h10
    injection h8 with h8
    injection h8 with h8 _ _
    subst h8 h10
    exact ⟨cur, h2, h3, h4, h5, h6, h7⟩
theorem GC.cells {w : World} {lo g cap : Nat} {es : List GEnt} (h : GC w lo g cap es) {i : Nat} (hi : i < es.length) :
    w.cell? ⟨g, i * 3, none⟩ = some (.slice es[i].A es[i].r.length es[i].c) ∧ w.cell? ⟨g, i * 3 + 1, none⟩ = some (.int .i64 es[i].n) ∧ w.cell? ⟨g, i * 3 + 2, none⟩ = some (.int .i64 es[i].m) ∧ w.frozen? ⟨g, i * 3 + 1, none⟩ = false ∧ w.frozen? ⟨g, i * 3 + 2, none⟩ = false := by
  obtain ⟨cur, h2, h3, h4, h5, h6, h7⟩ := h.parts
  have hB : Blk w g 59 cur := h3
  have e0 : ∀ k, k < es.length * 3 → cur[k]? = (gCells es)[k]? := fun k hk => by rw [← h7, List.getElem?_take, if_pos hk, Array.getElem?_toList]
  obtain ⟨c0, c1, c2⟩ := gCells_get es i hi
  exact ⟨by rw [hB.cell, e0 _ (by omega), c0], by rw [hB.cell, e0 _ (by omega), c1], by rw [hB.cell, e0 _ (by omega), c2], hB.frozen _, hB.frozen _⟩
theorem GC.setCell {w : World} {lo g cap : Nat} {es es' : List GEnt} (h : GC w lo g cap es) (o : Nat) (u : Value) (hl : es'.length = es.length) (hc : gCells es' = (gCells es).set o u) (hm : ∀ e ∈ es', ∃ f ∈ es, e.A = f.A ∧ e.r = f.r) : GC (w.setCell ⟨g, o, none⟩ u) lo g cap es' := by
  obtain ⟨cur, h2, h3, h4, h5, h6, h7⟩ := h.parts
  have hB : Blk w g 59 cur := h3
  refine ⟨⟨gCells_length _, .inr ⟨g, cap, _, by rw [hl], h2, hB.set_ o u, by rw [hl]; exact h4, h5, by simpa using h6, ?_⟩⟩, fun e he => ?_⟩
  · rw [hc, ← h7, hl, Array.toList_setIfInBounds, List.take_set]
  · obtain ⟨f, hf, e1, e2⟩ := hm e he
    rw [e1, e2]
    refine ⟨fun hn => ?_, (h.2 f hf).2⟩
    obtain ⟨b, off, q1, q2, q3, q4, hcc⟩ := (h.2 f hf).1 hn
    exact ⟨b, off, q1, by simpa using q2, q3, by simpa using q4, fun j hj => by rw [World.cell?_setCell_other _ _ _ _ (fun e => q3 (by have := congrArg Addr.block e; simpa using this.symm))]; exact hcc j hj⟩
theorem GC.setN {w : World} {lo g cap : Nat} {es : List GEnt} (h : GC w lo g cap es) {k : Nat} (hk : k < es.length) (x : Int) : GC (w.setCell ⟨g, k * 3 + 1, none⟩ (.int .i64 x)) lo g cap (es.set k { es[k] with n := x }) :=
  h.setCell _ _ (by rw [List.length_set]) (gCells_setN es k x hk) fun e he => by
    rcases List.mem_or_eq_of_mem_set he with h1 | h1
    · exact ⟨e, h1, rfl, rfl⟩
    · exact ⟨es[k], List.getElem_mem hk, by rw [h1], by rw [h1]⟩
theorem GC.setM {w : World} {lo g cap : Nat} {es : List GEnt} (h : GC w lo g cap es) {k : Nat} (hk : k < es.length) (x : Int) : GC (w.setCell ⟨g, k * 3 + 2, none⟩ (.int .i64 x)) lo g cap (es.set k { es[k] with m := x }) :=
  h.setCell _ _ (by rw [List.length_set]) (gCells_setM es k x hk) fun e he => by
    rcases List.mem_or_eq_of_mem_set he with h1 | h1
    · exact ⟨e, h1, rfl, rfl⟩
    · exact ⟨es[k], List.getElem_mem hk, by rw [h1], by rw [h1]⟩
theorem GC.push {w w' : World} {lo g cap : Nat} {es : List GEnt} {v' : Value} {e : GEnt} {o : Obj} (h : GC w lo g cap es) (hg : (w.alloc o).grownBy w' (some g)) (hown : w'.ownsRow lo 59 3 v' (es.length + 1) (gCells es ++ e.cells)) (hat : v'.ownBlock = some g ∨ v'.ownBlock = some (w.alloc o).heap.size)
    (he : RowG w w.heap.size g e.A e.r ∧ e.r.length ≤ 1099511627776) : ∃ g' cap', v' = .slice (some ⟨g', 0, none⟩) (es ++ [e]).length cap' ∧ GC w' lo g' cap' (es ++ [e]) := by
  obtain ⟨g', hv⟩ : ∃ g', v'.ownBlock = some g' := by
    rcases hat with h | h
    · exact ⟨_, h⟩
    · exact ⟨_, h⟩
  have hform : ∃ cap', v' = .slice (some ⟨g', 0, none⟩) (es ++ [e]).length cap' := by
    rcases hown.2 with ⟨rfl, _⟩ | ⟨g2, cap2, cur, rfl, _⟩
    · cases hv
    · have e2 : g2 = g' := Option.some.inj hv
      subst e2
      exact ⟨cap2, by simp⟩
  obtain ⟨cap', rfl⟩ := hform
  have hg' : g' = g ∨ g' = w.heap.size + 1 := by
    rcases hat with h | h
    · exact .inl (Option.some.inj h)
    · right; have := Option.some.inj h; simpa [World.size_alloc] using this
  have hsz : w.heap.size < w'.heap.size := by have := hg.size; rw [World.size_alloc] at this; omega
  have key : ∀ (A : Option Addr) (r : List Int), RowG w w.heap.size g A r → RowG w' w'.heap.size g' A r := by
    intro A r hr hn
    obtain ⟨b, off, e1, h1, h2, h3, hc⟩ := hr hn
    refine ⟨b, off, e1, by omega, by rcases hg' with h | h <;> omega, by omega, fun j hj => ?_⟩
    have e2 : w'.heap[b]? = (w.alloc o).heap[b]? := hg.block b (by rw [World.size_alloc]; omega) (fun e => h2 (Option.some.inj e))
    rw [World.cell?_of_block (a := ⟨b, off + j, none⟩) e2, World.cell?_alloc_lt w o _ h3]
    exact hc j hj
  refine ⟨g', cap', rfl, ?_, fun f hf => ?_⟩
  · rw [gCells_append, show gCells [e] = e.cells by simp [gCells], List.length_append, List.length_singleton]
    simpa using hown
  · rcases List.mem_append.1 hf with hf | hf
    · exact ⟨key _ _ (h.2 f hf).1, (h.2 f hf).2⟩
    · obtain rfl := List.mem_singleton.1 hf
      exact ⟨key _ _ he.1, he.2⟩
theorem GC.nil (w : World) : GC (w.alloc (.cells #[] 59)) w.heap.size w.heap.size 0 [] := ⟨World.ownsRow_made w #[] 0 (Nat.le_refl _) (Nat.zero_le _) rfl, fun e he => by cases he⟩
theorem reads_new3 (w : World) (t : TypeId) (u0 u1 u2 : Value) : Reads (w.alloc (.cells #[u0, u1, u2] t)) (w.heap.size + 1) 3 (some ⟨w.heap.size, 0, none⟩) 1 [u0, u1, u2] := by
  refine ⟨rfl, fun _ => ⟨_, rfl, Nat.lt_succ_self _, fun j u hu => ?_⟩⟩
  have hB := Blk.new w t #[u0, u1, u2]
  have ea : Addr.add ⟨w.heap.size, 0, none⟩ j = ⟨w.heap.size, 0 + j, none⟩ := by unfold Addr.add; split <;> simp_all
  rw [ea, Nat.zero_add, hB.cell j, ← hu]
  simp
end Go.Proofs.Ytcfnbpofbcendab
