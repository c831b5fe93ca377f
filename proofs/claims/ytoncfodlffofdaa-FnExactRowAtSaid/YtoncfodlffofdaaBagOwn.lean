/- A bag in memory of the call's own, count by count: words and laws; how it grows by a count; how it reads. No condition; of the program only the types of counts and numbers are named. -/
import Derived.Test.YtoncfodlffofdaaBag5
import Derived.Test.YtoncfodlffofdaaBagI1
import Derived.Test.YtoncfodlffofdaaMarks1
namespace Go.Proofs.Ytoncfodlffofdaa
open Go.RowKit

/-- A count in own memory: the row r (at A, of capacity c, in block g) and its number n. -/
structure Ent where
  r : List Int
  n : Int
  A : Option Addr
  c : Nat
  g : Nat
def Ent.pair (e : Ent) : List Int × Int := (e.r, e.n)
def Ent.cells (e : Ent) : List Value := [.slice e.A e.r.length e.c, .int .i64 e.n]
def entCells : List Ent → List Value
  | [] => []
  | e :: es => e.cells ++ entCells es
theorem entCells_length (es : List Ent) : (entCells es).length = es.length * 2 := by
  induction es with
  | nil => rfl
  | cons e es ih => simp [entCells, Ent.cells, ih]; omega
theorem entCells_append (es fs : List Ent) : entCells (es ++ fs) = entCells es ++ entCells fs := by
  induction es with
  | nil => rfl
  | cons e es ih => simp [entCells, ih]
theorem entCells_take (es : List Ent) (k : Nat) (h : k ≤ es.length) : (entCells es).take (k * 2) = entCells (es.take k) := by
  have e1 : entCells es = entCells (es.take k) ++ entCells (es.drop k) := by rw [← entCells_append, List.take_append_drop]
  rw [e1, List.take_append_of_le_length (by rw [entCells_length]; simp; omega), List.take_of_length_le (by rw [entCells_length]; simp; omega)]
theorem entCells_drop (es : List Ent) (k : Nat) (h : k ≤ es.length) : (entCells es).drop (k * 2) = entCells (es.drop k) := by
  have e1 : entCells es = entCells (es.take k) ++ entCells (es.drop k) := by rw [← entCells_append, List.take_append_drop]
  rw [e1, List.drop_append_of_le_length (by rw [entCells_length]; simp; omega), List.drop_of_length_le (by rw [entCells_length]; simp; omega)]; rfl
theorem entCells_get0 : ∀ (es : List Ent) (k : Nat) (h : k < es.length), (entCells es)[k * 2]? = some (.slice es[k].A es[k].r.length es[k].c)
  | e :: es, 0, _ => rfl
  | e :: es, k + 1, h => by
    have := entCells_get0 es k (by simpa using h)
    rw [show (k + 1) * 2 = k * 2 + 2 by omega]
    simpa [entCells, Ent.cells] using this
theorem entCells_get1 : ∀ (es : List Ent) (k : Nat) (h : k < es.length), (entCells es)[k * 2 + 1]? = some (.int .i64 es[k].n)
  | e :: es, 0, _ => rfl
  | e :: es, k + 1, h => by
    have := entCells_get1 es k (by simpa using h)
    rw [show (k + 1) * 2 + 1 = k * 2 + 1 + 2 by omega]
    simpa [entCells, Ent.cells] using this
theorem entCells_one (es : List Ent) : ∀ u ∈ entCells es, u.oneCell' = true := by
  induction es with
  | nil => intro u hu; cases hu
  | cons e es ih =>
    intro u hu
    simp only [entCells, Ent.cells, List.mem_append, List.mem_cons, List.not_mem_nil, or_false] at hu
    rcases hu with (rfl | rfl) | hu
    · rfl
    · rfl
    · exact ih u hu

/-- The rows of es lie each in a block of its own, at lo or behind, none of them the block 'no'. -/
def EntsAt (w : World) (lo : Nat) (no : Option Nat) (es : List Ent) : Prop :=
  (∀ e ∈ es, Row w 2 e.A e.r e.g ∧ (0 < e.r.length → lo ≤ e.g ∧ some e.g ≠ no)) ∧ es.Pairwise fun a b => 0 < a.r.length → 0 < b.r.length → a.g ≠ b.g
/-- The value v is a bag of the call's own: its counts es. -/
def OBag (w : World) (lo : Nat) (v : Value) (es : List Ent) : Prop :=
  w.ownsRow lo 34 2 v es.length (entCells es) ∧ EntsAt w lo v.ownBlock es
/-- All blocks of it lie below hi. -/
def Inside (hi : Nat) (v : Value) (es : List Ent) : Prop := (∀ g, v.ownBlock = some g → g < hi) ∧ ∀ e ∈ es, 0 < e.r.length → e.g < hi

theorem OBag.inside {w : World} {lo : Nat} {v : Value} {es : List Ent} (h : OBag w lo v es) : Inside w.heap.size v es :=
  ⟨fun g hg => (h.1.lt g hg).2, fun e he hn => (h.2.1 e he).1.lt hn⟩
theorem Row.keepB {w w' : World} {t : TypeId} {A : Option Addr} {zs : List Int} {g : Nat} (h : Row w t A zs g) (hk : 0 < zs.length → w'.heap[g]? = w.heap[g]?) : Row w' t A zs g := fun hn => by
  obtain ⟨hA, cur, hc, hj⟩ := h hn
  exact ⟨hA, cur, (hk hn).trans hc, hj⟩
theorem own_keepB {w w' : World} {base : Nat} {e : TypeId} {size : Nat} {v : Value} {n : Nat} {xs : List Value} (h : w.ownsRow base e size v n xs) (hk : ∀ g, v.ownBlock = some g → w'.heap[g]? = w.heap[g]?) : w'.ownsRow base e size v n xs := by
  refine ⟨h.1, ?_⟩
  rcases h.2 with h2 | ⟨g, cap, cur, rfl, h4, h5, h6⟩
  · exact .inl h2
  · exact .inr ⟨g, cap, cur, rfl, h4, (hk g rfl).trans h5, h6⟩
theorem OBag.keep {w w' : World} {lo hi : Nat} {v : Value} {es : List Ent} (h : OBag w lo v es) (hi' : Inside hi v es) (hk : ∀ b, lo ≤ b → b < hi → w'.heap[b]? = w.heap[b]?) : OBag w' lo v es := by
  refine ⟨own_keepB h.1 fun g hg => hk g (h.1.lt g hg).1 (hi'.1 g hg), fun e he => ?_, h.2.2⟩
  obtain ⟨h1, h2⟩ := h.2.1 e he
  exact ⟨h1.keepB fun hn => hk _ (h2 hn).1 (hi'.2 e he hn), h2⟩
theorem OBag.on {w w' : World} {lo : Nat} {v : Value} {es : List Ent} (h : OBag w lo v es) (hb : Below w.heap.size w w') : OBag w' lo v es :=
  h.keep h.inside fun b _ hlt => hb.block b hlt
theorem OBag.drewN {w : World} {lo : Nat} {v : Value} {es : List Ent} (h : OBag w lo v es) (n : Nat) : OBag (w.drewN n) lo v es := h
theorem OBag.form {w : World} {lo : Nat} {v : Value} {es : List Ent} (h : OBag w lo v es) : ∃ A cap, v = .slice A es.length cap := own_form h.1
theorem OBag.lower {w : World} {lo lo' : Nat} {v : Value} {es : List Ent} (h : OBag w lo v es) (hl : lo' ≤ lo) : OBag w lo' v es := by
  refine ⟨⟨h.1.1, ?_⟩, fun e he => ⟨(h.2.1 e he).1, fun hn => ⟨Nat.le_trans hl ((h.2.1 e he).2 hn).1, ((h.2.1 e he).2 hn).2⟩⟩, h.2.2⟩
  rcases h.1.2 with h2 | ⟨g, cap, cur, rfl, h4, h5⟩
  · exact .inl h2
  · exact .inr ⟨g, cap, cur, rfl, by omega, h5⟩

/-- No count: nil, or a block of the call's own. -/
theorem OBag.nil {w : World} {lo : Nat} {v : Value} (h : w.ownsRow lo 34 2 v 0 []) : OBag w lo v [] := ⟨h, (fun e he => by cases he), List.Pairwise.nil⟩
theorem OBag.push {w w' : World} {lo : Nat} {v v' : Value} {es : List Ent} {r : List Int} {n : Int} {A : Option Addr} {c g : Nat} (h : OBag w lo v es) (hg : w.grownBy w' v.ownBlock)
    (hown : w'.ownsRow lo 34 2 v' (es.length + 1) (entCells es ++ [.slice A r.length c, .int .i64 n])) (hat : v'.ownBlock = v.ownBlock ∨ v'.ownBlock = some w.heap.size)
    (hR : Row w 2 A r g) (hgr : 0 < r.length → lo ≤ g ∧ some g ≠ v.ownBlock ∧ ∀ e ∈ es, 0 < e.r.length → e.g ≠ g) : OBag w' lo v' (es ++ [⟨r, n, A, c, g⟩]) := by
  have key : ∀ b, b < w.heap.size → some b ≠ v.ownBlock → some b ≠ v'.ownBlock := by
    intro b hb hne e
    rcases hat with ha | ha
    · exact hne (by rw [e, ha])
    · rw [ha] at e; injection e with e; omega
  refine ⟨?_, fun e he => ?_, ?_⟩
  · rw [entCells_append]
    simpa [entCells, Ent.cells] using hown
  · rcases List.mem_append.1 he with he | he
    · obtain ⟨h1, h2⟩ := h.2.1 e he
      exact ⟨h1.kept hg fun hn => (h2 hn).2, fun hn => ⟨(h2 hn).1, key _ (h1.lt hn) (h2 hn).2⟩⟩
    · obtain rfl : e = ⟨r, n, A, c, g⟩ := by simpa using he
      exact ⟨hR.kept hg fun hn => (hgr hn).2.1, fun hn => ⟨(hgr hn).1, key _ (hR.lt hn) (hgr hn).2.1⟩⟩
  · rw [List.pairwise_append]
    refine ⟨h.2.2, List.pairwise_singleton _ _, fun a ha b hb hn hn' => ?_⟩
    obtain rfl : b = ⟨r, n, A, c, g⟩ := by simpa using hb
    exact (hgr hn').2.2 a ha hn

theorem rx_map {es : List Ent} {j : Nat} (h : j < es.length) : rx (es.map Ent.pair) j = es[j].r := by simp [rx, h, Ent.pair]
theorem nx_map {es : List Ent} {j : Nat} (h : j < es.length) : nx (es.map Ent.pair) j = es[j].n := by simp [nx, h, Ent.pair]
/-- It reads as its bag. -/
theorem OBag.bag {w : World} {lo : Nat} {A : Option Addr} {cap : Nat} {es : List Ent} {n : Nat} (h : OBag w lo (.slice A n cap) es) (hl : ∀ e ∈ es, e.r.length ≤ 1099511627776) : Bag w w.heap.size A (es.map Ent.pair) := fun hn => by
  simp only [List.length_map] at hn
  rcases h.1.2 with ⟨_, h0⟩ | ⟨g, cap', cur, hv, hg, hh, _, _, hs, ht⟩
  · omega
  · injection hv with hv _ _
    subst hv
    have hlt := Blk.lt (t := 34) (cs := cur) hh
    refine ⟨g, 0, rfl, hlt, fun j hj => ?_⟩
    simp only [List.length_map] at hj
    have e0 : ∀ i, i < es.length * 2 → w.cell? ⟨g, 0 + i, none⟩ = (entCells es)[i]? := by
      intro i hi
      rw [Nat.zero_add, Blk.cell (t := 34) (cs := cur) hh i, ← ht, List.getElem?_take, if_pos hi, Array.getElem?_toList]
    obtain ⟨h1, _⟩ := h.2.1 es[j] (List.getElem_mem hj)
    rw [rx_map hj, nx_map hj]
    refine ⟨es[j].A, es[j].c, ?_, ?_, h1.ints, hl _ (List.getElem_mem hj)⟩
    · rw [e0 (j * 2) (by omega), entCells_get0 es j hj]
    · rw [show 0 + j * 2 + 1 = 0 + (j * 2 + 1) by omega, e0 (j * 2 + 1) (by omega), entCells_get1 es j hj]
theorem OBag.block {w : World} {lo : Nat} {v : Value} {es : List Ent} (h : OBag w lo v es) : ∀ g, v.ownBlock = some g → g < w.heap.size := fun g hg => (h.1.lt g hg).2
end Go.Proofs.Ytoncfodlffofdaa
