/- Words for memory and lists that all walks of this seat share: a slice of int64 that reads as a list; a block that is known whole. No condition; nothing of the program is named. -/
import Derived.WalkKit
import Derived.Below
import Derived.Laws.OwnMore
import Derived.Deep.Draws
import Derived.Laws.Rows
import Derived.Lib.Hide
import Derived.Deep.OwnRows
namespace Go.Proofs.YtkjpaafmolikoabDoor
open Go.RowKit

/-- The number at place k (a name of its own, so that the walk does not respell it). -/
def ix (zs : List Int) (k : Nat) : Int := zs[k]?.getD 0
theorem ix_eq (zs : List Int) (k : Nat) (h : k < zs.length) : ix zs k = zs[k] := by simp [ix, h]
theorem ret_bool {a b : Bool} (h : a = b) : Ending.returned (.bool a) = .returned (.bool b) := by rw [h]
theorem ret_str {a b : List UInt8} (h : a = b) : Ending.returned (.string ⟨a.toArray⟩) = .returned (.string ⟨b.toArray⟩) := by rw [h]
theorem ret_int {k : IntKind} {a b : Int} (h : a = b) : Ending.returned (.int k a) = .returned (.int k b) := by rw [h]

/-- The slice value '.slice A zs.length c' holds the int64s zs, in a block below B. -/
def Ints (w : World) (B : Nat) (A : Option Addr) (zs : List Int) : Prop :=
  0 < zs.length → ∃ b off, A = some ⟨b, off, none⟩ ∧ b < B ∧ ∀ j, j < zs.length → w.cell? ⟨b, off + j, none⟩ = some (.int .i64 (ix zs j))

theorem Ints.keep {w w' : World} {B : Nat} {A : Option Addr} {zs : List Int} (h : Ints w B A zs) (hk : ∀ p : Addr, p.block < B → w'.cell? p = w.cell? p) : Ints w' B A zs := fun hn => by
  obtain ⟨b, off, e, hb, hc⟩ := h hn
  exact ⟨b, off, e, hb, fun j hj => (hk _ hb).trans (hc j hj)⟩
theorem Ints.below {w w' : World} {B : Nat} {A : Option Addr} {zs : List Int} (h : Ints w B A zs) (hb : Below B w w') : Ints w' B A zs := h.keep fun _ hp => hb.cell hp
theorem Ints.more {w : World} {B B' : Nat} {A : Option Addr} {zs : List Int} (h : Ints w B A zs) (hB : B ≤ B') : Ints w B' A zs := fun hn => by
  obtain ⟨b, off, e, hb, hc⟩ := h hn
  exact ⟨b, off, e, by omega, hc⟩
theorem Ints.nil (w : World) (B : Nat) (A : Option Addr) : Ints w B A [] := fun h => absurd h (by simp)
theorem Ints.drewN {w : World} {B : Nat} {A : Option Addr} {zs : List Int} (h : Ints w B A zs) (k : Nat) : Ints (w.drewN k) B A zs := h

/-- Block g is just the cells cs of element type t, none frozen. -/
def Blk (w : World) (g : Nat) (t : TypeId) (cs : Array Value) : Prop := w.heap[g]? = some (.cells cs t (0, 0))
section
variable {w w' : World} {g : Nat} {t : TypeId} {cs : Array Value}
theorem Blk.lt (h : Blk w g t cs) : g < w.heap.size := by
  rcases Nat.lt_or_ge g w.heap.size with hlt | hge
  · exact hlt
  · unfold Blk at h; rw [Array.getElem?_eq_none hge] at h; cases h
theorem Blk.cell (h : Blk w g t cs) (i : Nat) : w.cell? ⟨g, i, none⟩ = cs[i]? := cell_of_row w g i cs t (0, 0) h
theorem Blk.frozen (h : Blk w g t cs) (i : Nat) : w.frozen? ⟨g, i, none⟩ = false := by
  unfold Blk at h
  simp [World.frozen?, h]
theorem Blk.new (w : World) (t : TypeId) (cs : Array Value) : Blk (w.alloc (.cells cs t)) w.heap.size t cs := heap_alloc_new w _
theorem Blk.drewN (h : Blk w g t cs) (n : Nat) : Blk (w.drewN n) g t cs := h
theorem Blk.alloc (h : Blk w g t cs) (o : Obj) : Blk (w.alloc o) g t cs := (Below.heap_alloc w o g h.lt).trans h
theorem Blk.set_ (h : Blk w g t cs) (i : Nat) (u : Value) : Blk (w.setCell ⟨g, i, none⟩ u) g t (cs.setIfInBounds i u) := by
  unfold Blk at h ⊢
  simp [World.setCell, Array.getElem?_modify, h]
theorem Blk.far (h : Blk w g t cs) {p : Addr} (hp : g ≠ p.block) (u : Value) : Blk (w.setCell p u) g t cs := (Below.heap_setCell w p u g hp).trans h
theorem Blk.below {B : Nat} (h : Blk w g t cs) (hb : Below B w w') (hg : g < B) : Blk w' g t cs := (hb.block g hg).trans h
theorem Blk.grown {row : Option Nat} (h : Blk w g t cs) (hb : w.grownBy w' row) (hg : some g ≠ row) : Blk w' g t cs := (hb.block g h.lt hg).trans h
end

/-- int64s as cells. -/
def i64s (zs : List Int) : Array Value := (zs.map (Value.int .i64)).toArray
theorem i64s_get (zs : List Int) (j : Nat) (h : j < zs.length) : (i64s zs)[j]? = some (.int .i64 (ix zs j)) := by
  simp [i64s, h, ix]
theorem i64s_size (zs : List Int) : (i64s zs).size = zs.length := by simp [i64s]
theorem Blk.ints {w : World} {g : Nat} {t : TypeId} {zs : List Int} (h : Blk w g t (i64s zs)) : Ints w w.heap.size (some ⟨g, 0, none⟩) zs := fun _ =>
  ⟨g, 0, rfl, h.lt, fun j hj => by rw [Nat.zero_add, h.cell j, i64s_get zs j hj]⟩

/-- What has been copied when k of zs are: the first k, then noughts. -/
def copied (zs : List Int) (k : Nat) : List Int := zs.take k ++ List.replicate (zs.length - k) 0
theorem copied_zero (zs : List Int) : copied zs 0 = List.replicate zs.length 0 := by simp [copied]
theorem copied_all (zs : List Int) : copied zs zs.length = zs := by simp [copied]
theorem copied_length (zs : List Int) (k : Nat) (h : k ≤ zs.length) : (copied zs k).length = zs.length := by simp [copied]; omega
theorem copied_step (zs : List Int) (k : Nat) (h : k < zs.length) : (i64s (copied zs k)).setIfInBounds k (.int .i64 (ix zs k)) = i64s (copied zs (k + 1)) := by
  apply Array.ext_getElem?
  intro j
  rw [Array.getElem?_setIfInBounds]
  have hs : (i64s (copied zs k)).size = zs.length := by rw [i64s_size, copied_length zs k (by omega)]
  by_cases e : k = j
  · subst e
    rw [if_pos rfl, if_pos (by omega), i64s_get _ _ (by rw [copied_length _ _ (by omega)]; exact h)]
    simp [copied, h, ix, List.getElem?_append]
    rw [if_pos (by omega)]; rfl
  · rw [if_neg e]
    simp only [i64s, copied, List.getElem?_toArray, List.getElem?_map, List.getElem?_append, List.length_take, List.getElem?_take, List.getElem?_replicate]
    congr 1
    split <;> split <;> (try split) <;> (try split) <;> first | rfl | omega | skip
    all_goals simp_all <;> omega
theorem made_copied (zs : List Int) : madeCells #[Value.int .i64 0] zs.length = i64s (copied zs 0) := by
  apply Array.toList_inj.1
  rw [toList_madeCells_one, copied_zero]
  simp [i64s]
theorem cell_lt {w : World} {a : Addr} {v : Value} (h : w.cell? a = some v) : a.block < w.heap.size := by
  rcases Nat.lt_or_ge a.block w.heap.size with hlt | hge
  · exact hlt
  · unfold World.cell? at h
    rw [Array.getElem?_eq_none hge] at h
    simp at h
theorem bel_drewN {B : Nat} {a w : World} (h : Below B a w) (n : Nat) : Below B a (w.drewN n) := ⟨h.os, h.tape, h.output, h.size, h.block⟩

/-- A slice of integers that came in: nil; or it leads to a row of 'cap' cells, the numbers zs. -/
def IsRow (k : IntKind) (w : World) (a : Option Addr) (len cap : Nat) (zs : List Int) : Prop :=
  (a = none ∧ len = 0 ∧ cap = 0 ∧ zs = []) ∨
  ∃ x, a = some x ∧ len ≤ cap ∧ cap ≤ maxLen ∧ zs.length = cap ∧ (∀ i, i < zs.length → w.cell? (x.add i) = some (.int k (zs.getD i 0))) ∧ ∀ n ∈ zs, (Lit.int k n).wf = true
theorem isRow_ints {w : World} {a : Option Addr} {len cap : Nat} {zs : List Int} (h : IsRow .i64 w a len cap zs) : ∃ ys : List Int, ys.length = len ∧ Ints w w.heap.size a ys ∧ len ≤ maxLen ∧ ∀ n ∈ ys, (Lit.int .i64 n).wf = true := by
  rcases h with ⟨rfl, rfl, rfl, rfl⟩ | ⟨x, rfl, hl, hm, hz, hcell, hwf⟩
  · exact ⟨[], rfl, Ints.nil _ _ _, by decide, by simp⟩
  · refine ⟨zs.take len, by simp; omega, fun hn => ?_, by omega, fun n hn => hwf n (List.mem_of_mem_take hn)⟩
    have hlen : 0 < len := by simp at hn; omega
    obtain ⟨b, off, spot⟩ := x
    have hc := hcell 0 (by omega)
    have hspot : spot = none := by simpa [Addr.add] using World.cell?_spot hc
    subst hspot
    refine ⟨b, off, rfl, by simpa [Addr.add] using cell_lt hc, fun j hj => ?_⟩
    have hj' : j < zs.length ∧ j < len := by simp at hj; omega
    have := hcell j hj'.1
    have e : Addr.add ⟨b, off, none⟩ j = ⟨b, off + j, none⟩ := by unfold Addr.add; split <;> simp_all
    rw [e] at this
    rw [this]
    simp [ix, hj'.2]

/-- The slice at A of the numbers zs begins block g, whose cells are int64s (type t), none frozen. -/
def Row (w : World) (t : TypeId) (A : Option Addr) (zs : List Int) (g : Nat) : Prop :=
  0 < zs.length → A = some ⟨g, 0, none⟩ ∧ ∃ cur : Array Value, w.heap[g]? = some (.cells cur t (0, 0)) ∧ ∀ j, j < zs.length → cur[j]? = some (.int .i64 (ix zs j))
theorem Row.lt {w : World} {t : TypeId} {A : Option Addr} {zs : List Int} {g : Nat} (h : Row w t A zs g) (hn : 0 < zs.length) : g < w.heap.size := by
  obtain ⟨_, cur, hc, _⟩ := h hn
  exact Blk.lt (t := t) (cs := cur) hc
theorem Row.ints {w : World} {t : TypeId} {A : Option Addr} {zs : List Int} {g : Nat} (h : Row w t A zs g) : Ints w w.heap.size A zs := fun hn => by
  obtain ⟨hA, cur, hc, hj⟩ := h hn
  exact ⟨g, 0, hA, h.lt hn, fun j hjl => by rw [Nat.zero_add, Blk.cell (t := t) (cs := cur) hc j, hj j hjl]⟩
theorem Row.kept {w w' : World} {t : TypeId} {A : Option Addr} {zs : List Int} {g : Nat} {row : Option Nat} (h : Row w t A zs g) (hg : w.grownBy w' row) (hne : 0 < zs.length → some g ≠ row) : Row w' t A zs g := fun hn => by
  obtain ⟨hA, cur, hc, hj⟩ := h hn
  exact ⟨hA, cur, (hg.block g (h.lt hn) (hne hn)).trans hc, hj⟩
theorem Row.below {w w' : World} {t : TypeId} {A : Option Addr} {zs : List Int} {g B : Nat} (h : Row w t A zs g) (hb : Below B w w') (hg : 0 < zs.length → g < B) : Row w' t A zs g := fun hn => by
  obtain ⟨hA, cur, hc, hj⟩ := h hn
  exact ⟨hA, cur, (hb.block g (hg hn)).trans hc, hj⟩
theorem Row.on {w w' : World} {t : TypeId} {A : Option Addr} {zs : List Int} {g : Nat} (h : Row w t A zs g) (hb : Below w.heap.size w w') : Row w' t A zs g := h.below hb h.lt
theorem Row.drewN {w : World} {t : TypeId} {A : Option Addr} {zs : List Int} {g : Nat} (h : Row w t A zs g) (n : Nat) : Row (w.drewN n) t A zs g := h
theorem Row.of_blk {w : World} {t : TypeId} {g : Nat} {zs : List Int} (h : Blk w g t (i64s zs)) : Row w t (some ⟨g, 0, none⟩) zs g := fun _ => ⟨rfl, _, h, fun j hj => i64s_get zs j hj⟩
theorem Row.of_own {w : World} {base : Nat} {t : TypeId} {v : Value} {zs : List Int} (h : w.ownsRow base t 1 v zs.length (zs.map (Value.int .i64))) :
    ∃ A cap g, v = .slice A zs.length cap ∧ base ≤ g ∧ Row w t A zs g := by
  rcases h.2 with ⟨rfl, h0⟩ | ⟨g, cap, cur, rfl, hg, hh, hnc, _, hs, ht⟩
  · rw [h0]; exact ⟨none, 0, base, rfl, Nat.le_refl _, fun hn => absurd hn (by omega)⟩
  · refine ⟨_, cap, g, rfl, hg, fun _ => ⟨rfl, cur, hh, fun j hj => ?_⟩⟩
    have e : (cur.toList.take (zs.length * 1))[j]? = (zs.map (Value.int .i64))[j]? := by rw [ht]
    rw [List.getElem?_take, if_pos (by omega), Array.getElem?_toList] at e
    rw [e]
    simp [ix, hj]

/-- k, k + 1, .. : n of them. -/
def marks (k : Int) (n : Nat) : List Int := (List.range n).map fun (j : Nat) => k + (j : Int)
theorem marks_length (k : Int) (n : Nat) : (marks k n).length = n := by simp [marks]
theorem marks_ix (k : Int) (n j : Nat) (h : j < n) : ix (marks k n) j = k + (j : Int) := by simp [ix, marks, h]
def marking (zs : List Int) (k : Int) (j : Nat) : List Int := marks k j ++ zs.drop j
theorem marking_zero (zs : List Int) (k : Int) : marking zs k 0 = zs := by simp [marking, marks]
theorem marking_all (zs : List Int) (k : Int) : marking zs k zs.length = marks k zs.length := by simp [marking]
theorem marking_length (zs : List Int) (k : Int) (j : Nat) (h : j ≤ zs.length) : (marking zs k j).length = zs.length := by simp [marking, marks]; omega
theorem marking_ix (zs : List Int) (k : Int) (j i : Nat) : i < zs.length → j < zs.length → ix (marking zs k (j + 1)) i = if i = j then k + (j : Int) else ix (marking zs k j) i := by
  intro hi hj
  unfold ix marking marks
  by_cases h : i < j
  · rw [List.getElem?_append_left (by simp; omega), List.getElem?_append_left (by simp; omega), if_neg (by omega)]
    simp [h, show i < j + 1 by omega]
  · by_cases e : i = j
    · subst e
      rw [List.getElem?_append_left (by simp), if_pos rfl]
      simp
    · rw [List.getElem?_append_right (by simp; omega), List.getElem?_append_right (by simp; omega), if_neg e]
      simp [show j + 1 + (i - (j + 1)) = i by omega, show j + (i - j) = i by omega]
theorem Row.mark {w : World} {t : TypeId} {A : Option Addr} {zs : List Int} {g j : Nat} {k : Int} (h : Row w t A (marking zs k j) g) (hj : j < zs.length) : Row (w.setCell ⟨g, j, none⟩ (.int .i64 (k + (j : Int)))) t A (marking zs k (j + 1)) g := fun _ => by
  have hl := marking_length zs k j (by omega)
  obtain ⟨hA, cur, hc, hcur⟩ := h (by omega)
  refine ⟨hA, cur.setIfInBounds j (.int .i64 (k + (j : Int))), Blk.set_ (t := t) hc j _, fun i hi => ?_⟩
  have hi' : i < zs.length := by rw [marking_length zs k (j + 1) (by omega)] at hi; exact hi
  have hc2 := hcur i (by omega)
  have hsz : i < cur.size := (Array.getElem?_eq_some_iff.1 hc2).1
  rw [Array.getElem?_setIfInBounds, marking_ix zs k j i hi' hj]
  by_cases e : j = i
  · subst e; rw [if_pos rfl, if_pos hsz, if_pos rfl]
  · rw [if_neg e, if_neg (Ne.symm e), hc2]
theorem grown_setCell (w : World) (g j : Nat) (v : Value) : w.grownBy (w.setCell ⟨g, j, none⟩ v) (some g) :=
  ⟨rfl, rfl, rfl, by simp [World.setCell], fun k _ hne => Below.heap_setCell w ⟨g, j, none⟩ v k (by intro e; subst e; exact hne rfl)⟩
theorem grown_trans {a b c : World} {row : Option Nat} (h : a.grownBy b row) (k : b.grownBy c row) : a.grownBy c row :=
  ⟨k.os.trans h.os, k.tape.trans h.tape, k.output.trans h.output, Nat.le_trans h.size k.size, fun i hi hne => (k.block i (Nat.lt_of_lt_of_le hi h.size) hne).trans (h.block i hi hne)⟩
theorem grown_of_below {w w' : World} (h : Below w.heap.size w w') : w.grownBy w' none := ⟨h.os, h.tape, h.output, h.size, fun k hk _ => h.block k hk⟩
theorem grown_drewN (w : World) (n : Nat) (row : Option Nat) : w.grownBy (w.drewN n) row := ⟨rfl, rfl, rfl, Nat.le_refl _, fun _ _ _ => rfl⟩
theorem Ints.on {w w' : World} {A : Option Addr} {zs : List Int} (h : Ints w w.heap.size A zs) (hb : Below w.heap.size w w') : Ints w' w'.heap.size A zs := (h.below hb).more hb.size
theorem bel_step {a b c : World} (h : Below a.heap.size a b) (k : Below b.heap.size b c) : Below a.heap.size a c := h.trans (k.mono h.size)
theorem Blk.c3 {w : World} {G : Nat} {t : TypeId} {a b c : Value} (h : Blk w G t #[a, b, c]) : w.cell? ⟨G, 0, none⟩ = some a ∧ w.cell? ⟨G, 1, none⟩ = some b ∧ w.cell? ⟨G, 2, none⟩ = some c := by
  have d0 := h.cell 0
  have d1 := h.cell 1
  have d2 := h.cell 2
  simp only [List.getElem?_toArray, List.getElem?_cons_zero, List.getElem?_cons_succ] at d0 d1 d2
  exact ⟨d0, d1, d2⟩
theorem Blk.on {w w' : World} {G : Nat} {t : TypeId} {cs : Array Value} (h : Blk w G t cs) (hb : Below w.heap.size w w') : Blk w' G t cs := h.below hb h.lt
theorem bel_two {w : World} (o o' : Obj) : Below w.heap.size w ((w.alloc o).alloc o') := ((Below.refl _ _).alloc (Nat.le_refl _) o).alloc (by simp) o'
end Go.Proofs.YtkjpaafmolikoabDoor
