/- Texts joined: Base, Rows1, Iter1, Tail, Less1, Own0, App, Pick1, Marks1: contracts and plain facts; each says its own below. -/
import Derived.WalkKit
import Derived.Below
import Derived.Laws.OwnMore
import Derived.Deep.Draws
import Derived.Laws.Rows
import Derived.Lib.Hide
import Derived.Deep.OwnRows
import Derived.Test.YtcfnbpofbcendabChecked
import Derived.BigQuiet
import Derived.Deep.QuietTactic
import Derived.RangeFuncNested
import Derived.RangeFuncBound
import Derived.RangeFuncCalls
import Derived.RangeFuncLeaves
import Derived.RangeFuncBox
import Derived.Shelf.Abstract
import Derived.Shelf.RegionOpen
import Derived.OwnWalkIn
import Derived.TacticsInMore
import Derived.LoopNIn
import Derived.LoopIn
import Derived.StillTail
import Derived.StillTailTactics
import Derived.OrdersIn
import Derived.TacticsIn
import Derived.CallsIn
import Derived.Maps.AppendAt
import Derived.Deep.AppendLies
import Derived.RegionTactic
import Derived.OwnWalk
/- Words for memory and lists that all walks of this seat share: a slice of int64 that reads as a list; a block that is known whole. No condition; nothing of the program is named. -/
namespace Go.Proofs.Ytcfnbpofbcendab
open Go.RowKit

/-- The number at place k (a name of its own, so that the walk does not respell it). -/
def ix (zs : List Int) (k : Nat) : Int := zs[k]?.getD 0
theorem ix_eq (zs : List Int) (k : Nat) (h : k < zs.length) : ix zs k = zs[k] := by simp [ix, h]
theorem ret_bool {a b : Bool} (h : a = b) : Ending.returned (.bool a) = .returned (.bool b) := by rw [h]
theorem ret_str {a b : List UInt8} (h : a = b) : Ending.returned (.string ⟨a.toArray⟩) = .returned (.string ⟨b.toArray⟩) := by rw [h]
theorem ret_int {k : IntKind} {a b : Int} (h : a = b) : Ending.returned (.int k a) = .returned (.int k b) := by rw [h]

/-- The slice value '.slice A zs.length c' holds the int64s zs, in a block below B. -/
def Ints (w : World) (B : Nat) (A : Option Addr) (zs : List Int) : Prop :=
  0 < zs.length → ∃ b off, A = some ⟨b, off, none⟩ ∧ b < B ∧ ∀ j, j < zs.length → w.cell? ⟨b, off + j, none⟩ = some (.int .i64 (ix zs j))

theorem Ints.keep {w w' : World} {B : Nat} {A : Option Addr} {zs : List Int} (h : Ints w B A zs) (hk : ∀ p : Addr, p.block < B → w'.cell? p = w.cell? p) : Ints w' B A zs := fun hn => by
  obtain ⟨b, off, e, hb, hc⟩ := h hn
  exact ⟨b, off, e, hb, fun j hj => (hk _ hb).trans (hc j hj)⟩
theorem Ints.below {w w' : World} {B : Nat} {A : Option Addr} {zs : List Int} (h : Ints w B A zs) (hb : Below B w w') : Ints w' B A zs := h.keep fun _ hp => hb.cell hp
theorem Ints.more {w : World} {B B' : Nat} {A : Option Addr} {zs : List Int} (h : Ints w B A zs) (hB : B ≤ B') : Ints w B' A zs := fun hn => by
  obtain ⟨b, off, e, hb, hc⟩ := h hn
  exact ⟨b, off, e, by omega, hc⟩
theorem Ints.nil (w : World) (B : Nat) (A : Option Addr) : Ints w B A [] := fun h => absurd h (by simp)
theorem Ints.drewN {w : World} {B : Nat} {A : Option Addr} {zs : List Int} (h : Ints w B A zs) (k : Nat) : Ints (w.drewN k) B A zs := h

/-- Block g is just the cells cs of element type t, none frozen. -/
def Blk (w : World) (g : Nat) (t : TypeId) (cs : Array Value) : Prop := w.heap[g]? = some (.cells cs t (0, 0))
section
variable {w w' : World} {g : Nat} {t : TypeId} {cs : Array Value}
theorem Blk.lt (h : Blk w g t cs) : g < w.heap.size := by
  rcases Nat.lt_or_ge g w.heap.size with hlt | hge
  · exact hlt
  · unfold Blk at h; rw [Array.getElem?_eq_none hge] at h; cases h
theorem Blk.cell (h : Blk w g t cs) (i : Nat) : w.cell? ⟨g, i, none⟩ = cs[i]? := cell_of_row w g i cs t (0, 0) h
theorem Blk.frozen (h : Blk w g t cs) (i : Nat) : w.frozen? ⟨g, i, none⟩ = false := by
  unfold Blk at h
  simp [World.frozen?, h]
theorem Blk.new (w : World) (t : TypeId) (cs : Array Value) : Blk (w.alloc (.cells cs t)) w.heap.size t cs := heap_alloc_new w _
theorem Blk.drewN (h : Blk w g t cs) (n : Nat) : Blk (w.drewN n) g t cs := h
theorem Blk.alloc (h : Blk w g t cs) (o : Obj) : Blk (w.alloc o) g t cs := (Below.heap_alloc w o g h.lt).trans h
theorem Blk.set_ (h : Blk w g t cs) (i : Nat) (u : Value) : Blk (w.setCell ⟨g, i, none⟩ u) g t (cs.setIfInBounds i u) := by
  unfold Blk at h ⊢
  simp [World.setCell, Array.getElem?_modify, h]
theorem Blk.far (h : Blk w g t cs) {p : Addr} (hp : g ≠ p.block) (u : Value) : Blk (w.setCell p u) g t cs := (Below.heap_setCell w p u g hp).trans h
theorem Blk.below {B : Nat} (h : Blk w g t cs) (hb : Below B w w') (hg : g < B) : Blk w' g t cs := (hb.block g hg).trans h
theorem Blk.grown {row : Option Nat} (h : Blk w g t cs) (hb : w.grownBy w' row) (hg : some g ≠ row) : Blk w' g t cs := (hb.block g h.lt hg).trans h
end

/-- int64s as cells. -/
def i64s (zs : List Int) : Array Value := (zs.map (Value.int .i64)).toArray
theorem i64s_get (zs : List Int) (j : Nat) (h : j < zs.length) : (i64s zs)[j]? = some (.int .i64 (ix zs j)) := by
  simp [i64s, h, ix]
theorem i64s_size (zs : List Int) : (i64s zs).size = zs.length := by simp [i64s]
theorem Blk.ints {w : World} {g : Nat} {t : TypeId} {zs : List Int} (h : Blk w g t (i64s zs)) : Ints w w.heap.size (some ⟨g, 0, none⟩) zs := fun _ =>
  ⟨g, 0, rfl, h.lt, fun j hj => by rw [Nat.zero_add, h.cell j, i64s_get zs j hj]⟩

/-- What has been copied when k of zs are: the first k, then noughts. -/
def copied (zs : List Int) (k : Nat) : List Int := zs.take k ++ List.replicate (zs.length - k) 0
theorem copied_zero (zs : List Int) : copied zs 0 = List.replicate zs.length 0 := by simp [copied]
theorem copied_all (zs : List Int) : copied zs zs.length = zs := by simp [copied]
theorem copied_length (zs : List Int) (k : Nat) (h : k ≤ zs.length) : (copied zs k).length = zs.length := by simp [copied]; omega
theorem copied_step (zs : List Int) (k : Nat) (h : k < zs.length) : (i64s (copied zs k)).setIfInBounds k (.int .i64 (ix zs k)) = i64s (copied zs (k + 1)) := by
  apply Array.ext_getElem?
  intro j
  rw [Array.getElem?_setIfInBounds]
  have hs : (i64s (copied zs k)).size = zs.length := by rw [i64s_size, copied_length zs k (by omega)]
  by_cases e : k = j
  · subst e
    rw [if_pos rfl, if_pos (by omega), i64s_get _ _ (by rw [copied_length _ _ (by omega)]; exact h)]
    simp [copied, h, ix, List.getElem?_append]
    rw [if_pos (by omega)]; rfl
  · rw [if_neg e]
    simp only [i64s, copied, List.getElem?_toArray, List.getElem?_map, List.getElem?_append, List.length_take, List.getElem?_take, List.getElem?_replicate]
    congr 1
    split <;> split <;> (try split) <;> (try split) <;> first | rfl | omega | skip
    all_goals simp_all <;> omega
theorem made_copied (zs : List Int) : madeCells #[Value.int .i64 0] zs.length = i64s (copied zs 0) := by
  apply Array.toList_inj.1
  rw [toList_madeCells_one, copied_zero]
  simp [i64s]
theorem cell_lt {w : World} {a : Addr} {v : Value} (h : w.cell? a = some v) : a.block < w.heap.size := by
  rcases Nat.lt_or_ge a.block w.heap.size with hlt | hge
  · exact hlt
  · unfold World.cell? at h
    rw [Array.getElem?_eq_none hge] at h
    simp at h
theorem bel_drewN {B : Nat} {a w : World} (h : Below B a w) (n : Nat) : Below B a (w.drewN n) := ⟨h.os, h.tape, h.output, h.size, h.block⟩

/-- A slice of integers that came in: nil; or it leads to a row of 'cap' cells, the numbers zs. -/
def IsRow (k : IntKind) (w : World) (a : Option Addr) (len cap : Nat) (zs : List Int) : Prop :=
  (a = none ∧ len = 0 ∧ cap = 0 ∧ zs = []) ∨
  ∃ x, a = some x ∧ len ≤ cap ∧ cap ≤ maxLen ∧ zs.length = cap ∧ (∀ i, i < zs.length → w.cell? (x.add i) = some (.int k (zs.getD i 0))) ∧ ∀ n ∈ zs, (Lit.int k n).wf = true
theorem isRow_ints {w : World} {a : Option Addr} {len cap : Nat} {zs : List Int} (h : IsRow .i64 w a len cap zs) : ∃ ys : List Int, ys.length = len ∧ Ints w w.heap.size a ys ∧ len ≤ maxLen ∧ ∀ n ∈ ys, (Lit.int .i64 n).wf = true := by
  rcases h with ⟨rfl, rfl, rfl, rfl⟩ | ⟨x, rfl, hl, hm, hz, hcell, hwf⟩
  · exact ⟨[], rfl, Ints.nil _ _ _, by decide, by simp⟩
  · refine ⟨zs.take len, by simp; omega, fun hn => ?_, by omega, fun n hn => hwf n (List.mem_of_mem_take hn)⟩
    have hlen : 0 < len := by simp at hn; omega
    obtain ⟨b, off, spot⟩ := x
    have hc := hcell 0 (by omega)
    have hspot : spot = none := by simpa [Addr.add] using World.cell?_spot hc
    subst hspot
    refine ⟨b, off, rfl, by simpa [Addr.add] using cell_lt hc, fun j hj => ?_⟩
    have hj' : j < zs.length ∧ j < len := by simp at hj; omega
    have := hcell j hj'.1
    have e : Addr.add ⟨b, off, none⟩ j = ⟨b, off + j, none⟩ := by unfold Addr.add; split <;> simp_all
    rw [e] at this
    rw [this]
    simp [ix, hj'.2]

/-- The slice at A of the numbers zs begins block g, whose cells are int64s (type t), none frozen. -/
def Row (w : World) (t : TypeId) (A : Option Addr) (zs : List Int) (g : Nat) : Prop :=
  0 < zs.length → A = some ⟨g, 0, none⟩ ∧ ∃ cur : Array Value, w.heap[g]? = some (.cells cur t (0, 0)) ∧ ∀ j, j < zs.length → cur[j]? = some (.int .i64 (ix zs j))
theorem Row.lt {w : World} {t : TypeId} {A : Option Addr} {zs : List Int} {g : Nat} (h : Row w t A zs g) (hn : 0 < zs.length) : g < w.heap.size := by
  obtain ⟨_, cur, hc, _⟩ := h hn
  exact Blk.lt (t := t) (cs := cur) hc
theorem Row.ints {w : World} {t : TypeId} {A : Option Addr} {zs : List Int} {g : Nat} (h : Row w t A zs g) : Ints w w.heap.size A zs := fun hn => by
  obtain ⟨hA, cur, hc, hj⟩ := h hn
  exact ⟨g, 0, hA, h.lt hn, fun j hjl => by rw [Nat.zero_add, Blk.cell (t := t) (cs := cur) hc j, hj j hjl]⟩
theorem Row.kept {w w' : World} {t : TypeId} {A : Option Addr} {zs : List Int} {g : Nat} {row : Option Nat} (h : Row w t A zs g) (hg : w.grownBy w' row) (hne : 0 < zs.length → some g ≠ row) : Row w' t A zs g := fun hn => by
  obtain ⟨hA, cur, hc, hj⟩ := h hn
  exact ⟨hA, cur, (hg.block g (h.lt hn) (hne hn)).trans hc, hj⟩
theorem Row.below {w w' : World} {t : TypeId} {A : Option Addr} {zs : List Int} {g B : Nat} (h : Row w t A zs g) (hb : Below B w w') (hg : 0 < zs.length → g < B) : Row w' t A zs g := fun hn => by
  obtain ⟨hA, cur, hc, hj⟩ := h hn
  exact ⟨hA, cur, (hb.block g (hg hn)).trans hc, hj⟩
theorem Row.on {w w' : World} {t : TypeId} {A : Option Addr} {zs : List Int} {g : Nat} (h : Row w t A zs g) (hb : Below w.heap.size w w') : Row w' t A zs g := h.below hb h.lt
theorem Row.drewN {w : World} {t : TypeId} {A : Option Addr} {zs : List Int} {g : Nat} (h : Row w t A zs g) (n : Nat) : Row (w.drewN n) t A zs g := h
theorem Row.of_blk {w : World} {t : TypeId} {g : Nat} {zs : List Int} (h : Blk w g t (i64s zs)) : Row w t (some ⟨g, 0, none⟩) zs g := fun _ => ⟨rfl, _, h, fun j hj => i64s_get zs j hj⟩
theorem Row.of_own {w : World} {base : Nat} {t : TypeId} {v : Value} {zs : List Int} (h : w.ownsRow base t 1 v zs.length (zs.map (Value.int .i64))) :
    ∃ A cap g, v = .slice A zs.length cap ∧ base ≤ g ∧ Row w t A zs g := by
  rcases h.2 with ⟨rfl, h0⟩ | ⟨g, cap, cur, rfl, hg, hh, hnc, _, hs, ht⟩
  · rw [h0]; exact ⟨none, 0, base, rfl, Nat.le_refl _, fun hn => absurd hn (by omega)⟩
  · refine ⟨_, cap, g, rfl, hg, fun _ => ⟨rfl, cur, hh, fun j hj => ?_⟩⟩
    have e : (cur.toList.take (zs.length * 1))[j]? = (zs.map (Value.int .i64))[j]? := by rw [ht]
    rw [List.getElem?_take, if_pos (by omega), Array.getElem?_toList] at e
    rw [e]
    simp [ix, hj]

/-- k, k + 1, .. : n of them. -/
def marks (k : Int) (n : Nat) : List Int := (List.range n).map fun (j : Nat) => k + (j : Int)
theorem marks_length (k : Int) (n : Nat) : (marks k n).length = n := by simp [marks]
theorem marks_ix (k : Int) (n j : Nat) (h : j < n) : ix (marks k n) j = k + (j : Int) := by simp [ix, marks, h]
def marking (zs : List Int) (k : Int) (j : Nat) : List Int := marks k j ++ zs.drop j
theorem marking_zero (zs : List Int) (k : Int) : marking zs k 0 = zs := by simp [marking, marks]
theorem marking_all (zs : List Int) (k : Int) : marking zs k zs.length = marks k zs.length := by simp [marking]
theorem marking_length (zs : List Int) (k : Int) (j : Nat) (h : j ≤ zs.length) : (marking zs k j).length = zs.length := by simp [marking, marks]; omega
theorem marking_ix (zs : List Int) (k : Int) (j i : Nat) : i < zs.length → j < zs.length → ix (marking zs k (j + 1)) i = if i = j then k + (j : Int) else ix (marking zs k j) i := by
  intro hi hj
  unfold ix marking marks
  by_cases h : i < j
  · rw [List.getElem?_append_left (by simp; omega), List.getElem?_append_left (by simp; omega), if_neg (by omega)]
    simp [h, show i < j + 1 by omega]
  · by_cases e : i = j
    · subst e
      rw [List.getElem?_append_left (by simp), if_pos rfl]
      simp
    · rw [List.getElem?_append_right (by simp; omega), List.getElem?_append_right (by simp; omega), if_neg e]
      simp [show j + 1 + (i - (j + 1)) = i by omega, show j + (i - j) = i by omega]
theorem Row.mark {w : World} {t : TypeId} {A : Option Addr} {zs : List Int} {g j : Nat} {k : Int} (h : Row w t A (marking zs k j) g) (hj : j < zs.length) : Row (w.setCell ⟨g, j, none⟩ (.int .i64 (k + (j : Int)))) t A (marking zs k (j + 1)) g := fun _ => by
  have hl := marking_length zs k j (by omega)
  obtain ⟨hA, cur, hc, hcur⟩ := h (by omega)
  refine ⟨hA, cur.setIfInBounds j (.int .i64 (k + (j : Int))), Blk.set_ (t := t) hc j _, fun i hi => ?_⟩
  have hi' : i < zs.length := by rw [marking_length zs k (j + 1) (by omega)] at hi; exact hi
  have hc2 := hcur i (by omega)
  have hsz : i < cur.size := (Array.getElem?_eq_some_iff.1 hc2).1
  rw [Array.getElem?_setIfInBounds, marking_ix zs k j i hi' hj]
  by_cases e : j = i
  · subst e; rw [if_pos rfl, if_pos hsz, if_pos rfl]
  · rw [if_neg e, if_neg (Ne.symm e), hc2]
theorem grown_setCell (w : World) (g j : Nat) (v : Value) : w.grownBy (w.setCell ⟨g, j, none⟩ v) (some g) :=
  ⟨rfl, rfl, rfl, by simp [World.setCell], fun k _ hne => Below.heap_setCell w ⟨g, j, none⟩ v k (by intro e; subst e; exact hne rfl)⟩
theorem grown_trans {a b c : World} {row : Option Nat} (h : a.grownBy b row) (k : b.grownBy c row) : a.grownBy c row :=
  ⟨k.os.trans h.os, k.tape.trans h.tape, k.output.trans h.output, Nat.le_trans h.size k.size, fun i hi hne => (k.block i (Nat.lt_of_lt_of_le hi h.size) hne).trans (h.block i hi hne)⟩
theorem grown_of_below {w w' : World} (h : Below w.heap.size w w') : w.grownBy w' none := ⟨h.os, h.tape, h.output, h.size, fun k hk _ => h.block k hk⟩
theorem grown_drewN (w : World) (n : Nat) (row : Option Nat) : w.grownBy (w.drewN n) row := ⟨rfl, rfl, rfl, Nat.le_refl _, fun _ _ _ => rfl⟩
theorem Ints.on {w w' : World} {A : Option Addr} {zs : List Int} (h : Ints w w.heap.size A zs) (hb : Below w.heap.size w w') : Ints w' w'.heap.size A zs := (h.below hb).more hb.size
theorem bel_step {a b c : World} (h : Below a.heap.size a b) (k : Below b.heap.size b c) : Below a.heap.size a c := h.trans (k.mono h.size)
theorem Blk.c3 {w : World} {G : Nat} {t : TypeId} {a b c : Value} (h : Blk w G t #[a, b, c]) : w.cell? ⟨G, 0, none⟩ = some a ∧ w.cell? ⟨G, 1, none⟩ = some b ∧ w.cell? ⟨G, 2, none⟩ = some c := by
  have d0 := h.cell 0
  have d1 := h.cell 1
  have d2 := h.cell 2
  simp only [List.getElem?_toArray, List.getElem?_cons_zero, List.getElem?_cons_succ] at d0 d1 d2
  exact ⟨d0, d1, d2⟩
theorem Blk.on {w w' : World} {G : Nat} {t : TypeId} {cs : Array Value} (h : Blk w G t cs) (hb : Below w.heap.size w w') : Blk w' G t cs := h.below hb h.lt
theorem bel_two {w : World} (o o' : Obj) : Below w.heap.size w ((w.alloc o).alloc o') := ((Below.refl _ _).alloc (Nat.le_refl _) o).alloc (by simp) o'
end Go.Proofs.Ytcfnbpofbcendab

/- Contracts of the functions over slices of int64 that the laws of chapter 1 reach: each says what the call returns and what became of memory. Each holds for every slice of at most 2^40 numbers. -/
namespace Go.Proofs.Ytcfnbpofbcendab
open Go.RowKit

theorem info_i64 : (Try.prog.info? 2).map (fun i => (i.zero, i.size, i.bytes)) = some (some (.int .i64 0), 1, 8) := by kernel_rfl

/-- lo <= x && x <= hi, as the program reckons it. -/
def inB (x lo hi : Int) : Bool := decide (lo ≤ x) && decide (x ≤ hi)
theorem l1In_any (x lo hi : Int) (w : World) :
    Calls Try.prog 26 #[.int .i64 x, .int .i64 lo, .int .i64 hi] w fun e w' => e = .returned (.bool (inB x lo hi)) ∧ w = w' := by
  unfold inB
  by_cases h1 : lo ≤ x
  all_goals
    go_enter Try.func26, Try.ntmps26
    go_wp2
    go_ret
    exact ⟨ret_bool (by first | (rw [decide_eq_true (by omega : lo ≤ x)]; simp) | (rw [decide_eq_false (by omega : ¬ lo ≤ x)]; simp)), rfl⟩

def cellB (n : Int) : Bool := inB n (-1000000000) 1000000000
theorem l1Cell_any (x : Int) (w : World) :
    Calls Try.prog 43 #[.int .i64 x] w fun e w' => e = .returned (.bool (cellB x)) ∧ w = w' := by
  go_enter Try.func43, Try.ntmps43
  go_wp2_with (go_at_call 26; refine (l1In_any _ _ _ _).mono ?_; rintro e w' ⟨rfl, rfl⟩)
  go_ret
  exact ⟨rfl, rfl⟩

theorem l1Cell_yes (x : Int) (w : World) (h : cellB x = true) : Calls Try.prog 43 #[.int .i64 x] w fun e w' => e = .returned (.bool true) ∧ w = w' := by rw [← h]; exact l1Cell_any x w
theorem l1Cell_no (x : Int) (w : World) (h : cellB x = false) : Calls Try.prog 43 #[.int .i64 x] w fun e w' => e = .returned (.bool false) ∧ w = w' := by rw [← h]; exact l1Cell_any x w

def rowOkB (zs : List Int) : Bool := zs.all cellB && decide (zs.length ≤ 6)
theorem all_take_succ (f : Int → Bool) (zs : List Int) (k : Nat) (h : k < zs.length) : (zs.take (k + 1)).all f = ((zs.take k).all f && f (ix zs k)) := by
  rw [List.take_succ_eq_append_getElem h, List.all_append, ix_eq zs k h]; simp
theorem rowOk_stop (zs : List Int) (k : Nat) (h : k < zs.length) (hf : cellB (ix zs k) = false) : rowOkB zs = false := by
  unfold rowOkB
  rw [Bool.and_eq_false_iff]; left
  rw [List.all_eq_false]
  refine ⟨zs[k], List.getElem_mem h, ?_⟩
  rw [← ix_eq zs k h, hf]; simp

set_option maxHeartbeats 400000 in
theorem specRowOk_any (A : Option Addr) (c : Nat) (zs : List Int) (w : World) (B : Nat) (hI : Ints w B A zs) (hl : zs.length ≤ 1099511627776) :
    Calls Try.prog 25 #[.slice A zs.length c] w fun e w' => e = .returned (.bool (rowOkB zs)) ∧ w = w' := by
  go_enter Try.func25, Try.ntmps25
  go_wp2
  go_loop [3] (fun i => ∃ k : Nat, k ≤ zs.length ∧ i = .int .i64 k ∧ (zs.take k).all cellB = true) (fun i => zs.length - (intOf i).toNat)
  case atStart => exact ⟨0, Nat.zero_le _, rfl, by simp⟩
  case round =>
    obtain ⟨k, hk, rfl, ha⟩ := hrel
    have HA := Lib.hid ha
    clear ha
    by_cases hlt : k < zs.length
    · obtain ⟨b, off, rfl, hb, hc⟩ := hI (by omega)
      have hck := hc k hlt
      clear hc
      by_cases hf : cellB (ix zs k) = true
      · have HF := Lib.hid hf
        clear hf
        go_wp2_with (go_at_call 43; refine (l1Cell_yes _ _ HF.out).mono ?_; rintro e w' ⟨rfl, rfl⟩)
        go_round
        case rel => exact ⟨k + 1, by omega, by go_num, by rw [all_take_succ _ _ _ hlt, HA.out, HF.out]; rfl⟩
        case measure => simp [intOf]; omega
      · have hf' : cellB (ix zs k) = false := by simpa using hf
        have HF := Lib.hid hf'
        clear hf hf'
        go_wp2_with (go_at_call 43; refine (l1Cell_no _ _ HF.out).mono ?_; rintro e w' ⟨rfl, rfl⟩)
        go_ret
        exact ⟨ret_bool (rowOk_stop zs k hlt HF.out).symm, rfl⟩
    · have hk' : k = zs.length := by omega
      have HR : Hid (rowOkB zs = decide (zs.length ≤ 6)) := by
        have := HA.out
        rw [hk', List.take_length] at this
        show rowOkB zs = _
        unfold rowOkB; rw [this]; simp
      subst hk'
      go_wp2
      go_ret
      exact ⟨ret_bool (by rw [HR.out]; simp; omega), rfl⟩

theorem take_ext (zs ys : List Int) (k : Nat) (h : k < zs.length) (h' : k < ys.length) (ht : zs.take k = ys.take k) (e : ix zs k = ix ys k) : zs.take (k + 1) = ys.take (k + 1) := by
  rw [List.take_succ_eq_append_getElem h, List.take_succ_eq_append_getElem h', ht, ← ix_eq zs k h, ← ix_eq ys k h', e]

theorem l1In_yes (x lo hi : Int) (w : World) (h : inB x lo hi = true) : Calls Try.prog 26 #[.int .i64 x, .int .i64 lo, .int .i64 hi] w fun e w' => e = .returned (.bool true) ∧ w = w' := by rw [← h]; exact l1In_any x lo hi w
theorem l1In_no (x lo hi : Int) (w : World) (h : inB x lo hi = false) : Calls Try.prog 26 #[.int .i64 x, .int .i64 lo, .int .i64 hi] w fun e w' => e = .returned (.bool false) ∧ w = w' := by rw [← h]; exact l1In_any x lo hi w
theorem all_stop (f : Int → Bool) (zs : List Int) (k : Nat) (h : k < zs.length) (hf : f (ix zs k) = false) : zs.all f = false := by
  rw [List.all_eq_false]
  exact ⟨zs[k], List.getElem_mem h, by rw [← ix_eq zs k h, hf]; simp⟩
theorem all_ix {f : Int → Bool} {zs : List Int} (h : zs.all f = true) (k : Nat) (hk : k < zs.length) : f (ix zs k) = true := by
  rw [ix_eq zs k hk]
  exact List.all_eq_true.1 h _ (List.getElem_mem hk)

end Go.Proofs.Ytcfnbpofbcendab

/- Contracts of the row iterators (cells, sideBySide) and of the functions that range over them: what each returns; nothing that lay in memory has turned. For slices of at most 2^40 numbers. -/
namespace Go.Proofs.Ytcfnbpofbcendab
open Go.RowKit Go.Shelf
attribute [local go_sem] Oper.semAt_some

set_option maxRecDepth 100000 in
set_option maxHeartbeats 2000000 in
theorem cells1_core (F : Fence) (n : Nat) (h7 : F.fn 53) (hro : F.round = none) (hn : 1 ≤ n) (l Bs n₀ : Nat) (A : Option Addr) (cap : Nat) (zs : List Int) (hl : zs.length ≤ 1099511627776) (J Jx : Nat → World → Prop)
    (hY : ∀ k W, k < zs.length → J k W → YieldAt F (n - 1) Try.prog l #[.int .i64 (ix zs k)] W fun e W' =>
      (e = .returned (.bool true) ∧ J (k + 1) W' ∧ Below n₀ W W') ∨ (e = .returned (.bool false) ∧ Jx (k + 1) W'))
    (W : World) (hBs : W.cell? ⟨Bs, 0, none⟩ = some (.slice A zs.length cap)) (hI : Ints W n₀ A zs) (h0 : J 0 W) :
    CallsIn F n Try.prog 53 #[.func (.yield l) #[] #[], .pointer (some ⟨Bs, 0, none⟩)] W fun e W' => (∃ v, e = .returned v) ∧
      (J zs.length W' ∨ (∃ k, k < zs.length ∧ Jx (k + 1) W')) := by
  refine callsIn_of_wp Try.func53 rfl h7 ?_ hro
  simp only [Try.ntmps53, List.size_toArray, List.length_cons, List.length_nil, Nat.reduceAdd, Nat.reduceSub, Array.replicate_succ, Array.replicate_zero, List.push_toArray, List.append_toArray, List.nil_append, List.cons_append]
  gi_wp2
  gi_loopw [7] (fun i wr => ∃ k : Nat, k ≤ zs.length ∧ i = .int .i64 k ∧ J k wr ∧ Below n₀ W wr)
    (fun i _ => zs.length - (intOf i).toNat)
  case atStart => exact ⟨0, Nat.zero_le _, rfl, h0, Below.refl _ _⟩
  case round =>
    obtain ⟨k, hk, rfl, hJs, hnx⟩ := hrel
    by_cases hlt : k < zs.length
    · obtain ⟨b, off, rfl, hb, hc⟩ := hI (by omega)
      obtain ⟨fn, tmps, assign, body, hy, hR⟩ := hY k wr hlt hJs
      have hcx' : wr.cell? ⟨b, off + k, none⟩ = some (.int .i64 (ix zs k)) := (hnx.cell (p := ⟨b, off + k, none⟩) hb).trans (hc k hlt)
      clear hc
      gi_wp2
      refine hR.mono ?_
      rintro e W3 (⟨rfl, hJ3, hk3⟩ | ⟨rfl, hJx3⟩)
      · gi_wp2
        go_roundw
        case rel => exact ⟨k + 1, by omega, by simp, hJ3, hnx.trans hk3⟩
        case measure => simp [intOf]; omega
      · gi_wp2
        refine bodyPost_ret (results_none rfl _ _ _) rfl ?_
        exact ⟨⟨_, rfl⟩, .inr ⟨k, hlt, hJx3⟩⟩
    · gi_wp2
      go_end0
      obtain rfl : k = zs.length := by omega
      exact ⟨⟨_, rfl⟩, .inl hJs⟩

set_option maxHeartbeats 1000000 in
theorem cells_in (F : Fence) (n : Nat) (h5 : F.fn 45) (hro : F.round = none) (a : Option Addr) (len cap : Nat) (w : World) :
    CallsIn F n Try.prog 45 #[.slice a len cap] w fun e w' => e = .returned (.func (.func 53) #[] #[.pointer (some ⟨w.heap.size, 0, none⟩)]) ∧ w' = w.alloc (.cells #[.slice a len cap] 25) := by
  refine callsIn_of_wp Try.func45 rfl h5 ?_ hro
  simp only [Try.ntmps45, List.size_toArray, List.length_cons, List.length_nil, Nat.reduceAdd, Nat.reduceSub, Array.replicate_succ, Array.replicate_zero, List.push_toArray, List.append_toArray, List.nil_append, List.cons_append]
  gi_wp2
  go_ret
  exact ⟨rfl, rfl⟩

theorem take_succ_val {α : Type} (val : α → Int) (xs : List α) (k : Nat) (h : k < xs.length) : xs.take (k + 1) = xs.take k ++ [xs[k]] ∧ ix (xs.map val) k = val xs[k] := by
  refine ⟨List.take_succ_eq_append_getElem h, ?_⟩
  rw [ix_eq _ k (by simpa using h)]; simp

theorem cells_stopsV {α : Type} (val : α → Int) (F : Fence) (n : Nat) (h7 : F.fn 53) (hro : F.round = none) (hn : 1 ≤ n) (Bs n₀ : Nat) (A : Option Addr) (cap : Nat) (xs : List α) (hl : (xs.map val).length ≤ 1099511627776) (w : World) (hBs : Bs < w.heap.size) (hn₀ : n₀ ≤ w.heap.size)
    (hc : w.cell? ⟨Bs, 0, none⟩ = some (.slice A (xs.map val).length cap)) (hI : Ints w n₀ A (xs.map val)) :
    SeqStopsK F n Try.prog 53 #[.pointer (some ⟨Bs, 0, none⟩)] (fun x : α => #[Value.int .i64 (val x)]) (Below n₀) (fun ys => ys = xs) (fun pre => pre <+: xs) xs.length w := fun l J Jx W hW _ _ hY h0 => by
  refine (cells1_core F n h7 hro hn l Bs n₀ A cap (xs.map val) hl (fun k W => J (xs.take k) W) (fun k W => Jx (xs.take k) W) ?_ W ((hW.cell (p := ⟨Bs, 0, none⟩) hBs).trans hc) (hI.below (hW.mono hn₀)) (by simpa using h0)).mono ?_
  · intro k W hk hJ
    have hk' : k < xs.length := by simpa using hk
    obtain ⟨e1, e2⟩ := take_succ_val val xs k hk'
    simp only [e1, e2]
    exact hY (xs.take k) xs[k] W hJ (by rw [List.length_take]; omega)
  · rintro e W' ⟨he, hj | ⟨k, hk, hj⟩⟩
    · exact ⟨he, .inl ⟨xs, rfl, by simpa using hj⟩⟩
    · exact ⟨he, .inr ⟨_, List.take_prefix _ _, hj⟩⟩

theorem cells_stopsZ {α : Type} (val : α → Int) (F : Fence) (n : Nat) (h7 : F.fn 53) (hro : F.round = none) (hn : 1 ≤ n) (Bs n₀ : Nat) (A : Option Addr) (cap : Nat) (xs : List α) (zs : List Int) (hz : xs.map val = zs) (hl : zs.length ≤ 1099511627776) (w : World) (hBs : Bs < w.heap.size) (hn₀ : n₀ ≤ w.heap.size)
    (hc : w.cell? ⟨Bs, 0, none⟩ = some (.slice A zs.length cap)) (hI : Ints w n₀ A zs) :
    SeqStopsK F n Try.prog 53 #[.pointer (some ⟨Bs, 0, none⟩)] (fun x : α => #[Value.int .i64 (val x)]) (Below n₀) (fun ys => ys = xs) (fun pre => pre <+: xs) xs.length w := by
  subst hz
  exact cells_stopsV val F n h7 hro hn Bs n₀ A cap xs hl w hBs hn₀ hc hI

theorem cells_stops (F : Fence) (n : Nat) (h7 : F.fn 53) (hro : F.round = none) (hn : 1 ≤ n) (Bs n₀ : Nat) (A : Option Addr) (cap : Nat) (zs : List Int) (hl : zs.length ≤ 1099511627776) (w : World) (hBs : Bs < w.heap.size) (hn₀ : n₀ ≤ w.heap.size)
    (hc : w.cell? ⟨Bs, 0, none⟩ = some (.slice A zs.length cap)) (hI : Ints w n₀ A zs) :
    SeqStopsK F n Try.prog 53 #[.pointer (some ⟨Bs, 0, none⟩)] (fun x : Int => #[Value.int .i64 x]) (Below n₀) (fun ys => ys = zs) (fun pre => pre <+: zs) zs.length w := by
  have := cells_stopsV (α := Int) id F n h7 hro hn Bs n₀ A cap zs (by simpa using hl) w hBs hn₀ (by simpa using hc) (by simpa using hI)
  simpa using this

theorem cellB_no {x : Int} (h : x < -1000000000 ∨ 1000000000 < x) : cellB x = false := by
  unfold cellB inB
  rcases h with h | h
  · rw [decide_eq_false (by omega : ¬ (-1000000000 : Int) ≤ x)]; rfl
  · rw [decide_eq_false (by omega : ¬ x ≤ (1000000000 : Int))]; simp
theorem cellB_yes {x : Int} (h1 : ¬ x < -1000000000) (h2 : ¬ 1000000000 < x) : cellB x = true := by
  unfold cellB inB
  rw [decide_eq_true (by omega : (-1000000000 : Int) ≤ x), decide_eq_true (by omega : x ≤ (1000000000 : Int))]; rfl
theorem rowOkB_true {zs : List Int} (h : ∀ y ∈ zs, cellB y = true) (hl : zs.length ≤ 6) : rowOkB zs = true := by
  unfold rowOkB
  rw [List.all_eq_true.2 h, decide_eq_true hl]; rfl
theorem rowOkB_false {zs : List Int} {y : Int} (hy : y ∈ zs) (h : cellB y = false) : rowOkB zs = false := by
  unfold rowOkB
  rw [List.all_eq_false.2 ⟨y, hy, by simp [h]⟩]; rfl
theorem rowOkB_long {zs : List Int} (hl : ¬ zs.length ≤ 6) : rowOkB zs = false := by
  unfold rowOkB
  rw [decide_eq_false hl]; simp

set_option maxRecDepth 100000 in
set_option maxHeartbeats 2000000 in
theorem implRowOk_in (F : Fence) (n : Nat) (h4 : F.fn 33) (h5 : F.fn 45) (h6 : F.fn 53) (hro : F.round = none) (hn : 3 ≤ n) (A : Option Addr) (cap : Nat) (zs : List Int) (hl : zs.length ≤ 6) (w : World) (hI : Ints w w.heap.size A zs) :
    CallsIn F n Try.prog 33 #[.slice A zs.length cap] w fun e W' => e = .returned (.bool (rowOkB zs)) ∧ Below w.heap.size w W' := by
  have h1 : 1 ≤ n := by omega
  have hd6 : decide ((6 : Int) < (zs.length : Int)) = false := by simp; omega
  refine callsIn_of_wp_marks Try.func33 rfl h4 ?_ hro
  simp only [Try.ntmps33, List.size_toArray, List.length_cons, List.length_nil, Nat.reduceAdd, Nat.reduceSub, Array.replicate_succ, Array.replicate_zero, List.push_toArray, List.append_toArray, List.nil_append, List.cons_append]
  gi_wp2_with (gi_at_call 45; refine (cells_in F (n - 1) h5 hro _ _ _ _).mono ?_; rintro e w' ⟨rfl, rfl⟩)
  have bR := Boxed.new w 4 (.bool false)
  have bN := Boxed.new (w.alloc (.cells #[.bool false] 4)) 25 (.slice A zs.length cap)
  rw [World.size_alloc] at bN
  have hB0 : Below w.heap.size w ((w.alloc (.cells #[.bool false] 4)).alloc (.cells #[.slice A zs.length cap] 25)) := ((Below.refl _ w).alloc (Nat.le_refl _) _).alloc (by simp) _
  refine wpIn_rangeFunc_ownG hro h1 (gf := 53) (lb := #[.pointer (some ⟨w.heap.size + 1, 0, none⟩)]) rfl h6 (enters_of Try.func53 (by kernel_rfl) rfl)
    (cells_stops F (n - 1) h6 hro (by omega) (w.heap.size + 1) w.heap.size A cap zs (by omega) _ (by simp) (by simp; omega) bN.cell (hI.below hB0)) belowK_t (belowK_b (by simp; omega)) (Below.refl _ _) (fun _ => rfl)
    (fun pre W => ((∀ y ∈ pre, cellB y = true) ∧ W.cell? ⟨w.heap.size, 0, none⟩ = some (.bool false) ∧ W.frozen? ⟨w.heap.size, 0, none⟩ = false) ∧ Below w.heap.size w W)
    (fun c pre W => (c = .ret ∧ (∃ y ∈ pre, cellB y = false) ∧ W.cell? ⟨w.heap.size, 0, none⟩ = some (.bool false)) ∧ Below w.heap.size w W)
    (OwnFrom.and (Own.from (fun s A B row hs hg hr => ⟨hs.1, cell_kept hs.2.1 hg hr, (frozen_kept hs.2.1 hg hr).trans hs.2.2⟩) _) (ownFrom_below (Nat.le_refl _) (by simp; omega)))
    (fun c => OwnFrom.and (Own.from (fun s A B row hs hg hr => ⟨hs.1, hs.2.1, cell_kept hs.2.2 hg hr⟩) _) (ownFrom_below (Nat.le_refl _) (by simp; omega)))
    ⟨⟨by simp, (bR.alloc _).cell, (bR.alloc _).frozen⟩, hB0⟩
    (fun x => { tmps := #[.slice A zs.length cap, undef, .pointer (some ⟨w.heap.size, 0, none⟩), .int .i64 x, .slice A zs.length cap, .int .i64 zs.length, .bool false, .slice A zs.length cap, .func (.func 53) #[] #[.pointer (some ⟨w.heap.size + 1, 0, none⟩)], .int .i64 x, undef, undef, undef, undef, undef, undef], defers := [] }) ?assign ?body ?done ?stop
  case assign =>
    intro l x W K hK
    gi_wp2
    exact hK
  case body =>
    rintro l pre x W ⟨⟨hp, hcr, hfr⟩, hB⟩ _
    have HP := Lib.hid hp
    clear hp
    by_cases hx1 : x < -1000000000
    · gi_wp2
      exact ⟨(KeepsOthers.setCell _ _ _).from _, ⟨rfl, ⟨x, List.mem_append.2 (.inr (by simp)), cellB_no (.inl hx1)⟩, World.cell?_setCell_same' _ _ _ (by rw [hcr]; rfl)⟩, hB.setCell (p := ⟨w.heap.size, 0, none⟩) (Nat.le_refl _) _⟩
    · by_cases hx2 : 1000000000 < x
      · gi_wp2
        exact ⟨(KeepsOthers.setCell _ _ _).from _, ⟨rfl, ⟨x, List.mem_append.2 (.inr (by simp)), cellB_no (.inr hx2)⟩, World.cell?_setCell_same' _ _ _ (by rw [hcr]; rfl)⟩, hB.setCell (p := ⟨w.heap.size, 0, none⟩) (Nat.le_refl _) _⟩
      · gi_wp2
        exact ⟨KeepsFrom.refl _ _, Below.refl _ _, ⟨fun y hy => (List.mem_append.1 hy).elim (HP.out y) (fun e => by simp at e; subst e; exact cellB_yes (by omega) (by omega)), hcr, hfr⟩, hB⟩
  case done =>
    rintro D ys W hD rfl ⟨⟨hne, hcr, hfr⟩, hB⟩ hK
    have HNE := Lib.hid hne
    clear hne
    gi_wp2
    have hK' := (KeepsOthers.setCell W ⟨w.heap.size, 0, none⟩ (.bool true)).same D _ hK rfl
    refine ⟨by simp, .inl ⟨_, _, rfl, run_takeDeferred hK', ?_⟩⟩
    have hc5 := cell_kept (World.cell?_setCell_same' W ⟨w.heap.size, 0, none⟩ (.bool true) (by rw [hcr]; rfl)) (grownBy_putObj' _ D (.deferred none)) (fun r e => by cases e; exact ⟨_, hK', rfl⟩)
    refine ⟨.bool true, ?_, by rw [rowOkB_true HNE.out hl], (hB.setCell (p := ⟨w.heap.size, 0, none⟩) (Nat.le_refl _) _).trans (belowK_b (w := w) (Nat.le_refl _) _ D _ _ (by simp at hD; omega) hK' rfl rfl)⟩
    simp [results, Try.f33, go_sem, hc5]
  case stop =>
    rintro D c pre W hD hpre ⟨⟨rfl, ⟨y, hy, hyf⟩, hcr⟩, hB⟩ hK
    have HY := Lib.hid hyf
    clear hyf
    gi_wp2
    refine ⟨by simp, .inl ⟨_, _, rfl, run_takeDeferred hK, ?_⟩⟩
    have hc5 := cell_kept hcr (grownBy_putObj' _ D (.deferred none)) (fun r e => by cases e; exact ⟨_, hK, rfl⟩)
    refine ⟨.bool false, ?_, by rw [rowOkB_false (hpre.subset hy) HY.out], hB.trans (belowK_b (w := w) (Nat.le_refl _) W D _ _ (by simp at hD; omega) hK rfl rfl)⟩
    simp [results, Try.f33, go_sem, hc5]

set_option maxHeartbeats 1000000 in
theorem implRowOk_long (A : Option Addr) (cap : Nat) (zs : List Int) (hl : ¬ zs.length ≤ 6) (hl2 : zs.length ≤ 1099511627776) (w : World) :
    Calls Try.prog 33 #[.slice A zs.length cap] w fun e W' => e = .returned (.bool (rowOkB zs)) ∧ Below w.heap.size w W' := by
  have h6 : (6 : Int) < zs.length := by omega
  go_enter Try.func33, Try.ntmps33
  go_wp2
  exact bodyPost_ret (v := .bool false) (by simp [results, Try.f33, go_sem]) rfl ⟨by rw [rowOkB_long hl], ((Below.refl _ _).alloc (Nat.le_refl _) _)⟩

theorem implRowOk_any (A : Option Addr) (cap : Nat) (zs : List Int) (hl : zs.length ≤ 1099511627776) (w : World) (hI : Ints w w.heap.size A zs) :
    Calls Try.prog 33 #[.slice A zs.length cap] w fun e W' => e = .returned (.bool (rowOkB zs)) ∧ Below w.heap.size w W' := by
  by_cases h : zs.length ≤ 6
  · exact (callsIn_wide (n := 3)).1 (implRowOk_in Fence.wide 3 trivial trivial trivial rfl (Nat.le_refl _) A cap zs h w hI)
  · exact implRowOk_long A cap zs h hl w

theorem implRowOk_yes (A : Option Addr) (cap : Nat) (zs : List Int) (hl : zs.length ≤ 1099511627776) (w : World) (hI : Ints w w.heap.size A zs) (h : rowOkB zs = true) :
    Calls Try.prog 33 #[.slice A zs.length cap] w fun e W' => e = .returned (.bool true) ∧ Below w.heap.size w W' := by rw [← h]; exact implRowOk_any A cap zs hl w hI
theorem implRowOk_no (A : Option Addr) (cap : Nat) (zs : List Int) (hl : zs.length ≤ 1099511627776) (w : World) (hI : Ints w w.heap.size A zs) (h : rowOkB zs = false) :
    Calls Try.prog 33 #[.slice A zs.length cap] w fun e W' => e = .returned (.bool false) ∧ Below w.heap.size w W' := by rw [← h]; exact implRowOk_any A cap zs hl w hI
theorem specRowOk_yes (A : Option Addr) (c : Nat) (zs : List Int) (w : World) (B : Nat) (hI : Ints w B A zs) (hl : zs.length ≤ 1099511627776) (h : rowOkB zs = true) :
    Calls Try.prog 25 #[.slice A zs.length c] w fun e w' => e = .returned (.bool true) ∧ w = w' := by rw [← h]; exact specRowOk_any A c zs w B hI hl
theorem specRowOk_no (A : Option Addr) (c : Nat) (zs : List Int) (w : World) (B : Nat) (hI : Ints w B A zs) (hl : zs.length ≤ 1099511627776) (h : rowOkB zs = false) :
    Calls Try.prog 25 #[.slice A zs.length c] w fun e w' => e = .returned (.bool false) ∧ w = w' := by rw [← h]; exact specRowOk_any A c zs w B hI hl
end Go.Proofs.Ytcfnbpofbcendab

/- A region that draws its order, of which all but a last chain of operations only read: one walk, in the text's order, serves every order; inside the wide fence. No condition on the program; nothing of it is named. -/
namespace Go.Proofs.Ytcfnbpofbcendab
section
variable {P : Program} {ops : Array Oper} {md : Region.Mode} {w : World} {m : Nat}

theorem wide_of_still {o : Oper} {a : Act} {K : Act → Prop} {K' : Act → World → Prop} {Q' : Exit → Act → World → Prop} (h : ∀ a, K a → K' a w) (hh : o.still P a w K) : o.wpIn Fence.wide m P a w K' Q' := by
  unfold Oper.still at hh
  unfold Oper.wpIn
  refine ⟨fun _ _ => trivial, ?_⟩
  show o.uponIn Fence.wide m P a K' Q' ((o.semAt none a.eval).run P w)
  rw [Oper.semAt_none]
  generalize (execOp a.eval o).run P w = r at *
  cases r with
  | ok n w' =>
    cases n <;> simp only [Oper.stillUpon] at hh <;> simp only [Oper.uponIn]
    case enter f args =>
      obtain ⟨rfl, v, hc, hn⟩ := hh
      refine ⟨(fun h => by cases h), callsIn_wide.2 (hc.mono ?_)⟩
      rintro e w'' ⟨rfl, rfl⟩
      exact h _ hn
    all_goals (obtain ⟨rfl, h2⟩ := hh; exact h _ h2)
  | halt x w' => simp only [Oper.stillUpon] at hh

theorem wideOp_of_stOp {i : Nat} {a : Act} {K : Act → Prop} {K' : Act → World → Prop} {Q' : Exit → Act → World → Prop} (h : ∀ a, K a → K' a w) (hh : stOp P ops w i K a) : wpOpIn Fence.wide m P ops Q' i K' a w := by
  unfold stOp at hh
  unfold wpOpIn
  split
  · rename_i ho; simp only [ho] at hh; exact h _ hh
  · rename_i o ho
    simp only [ho] at hh
    split
    · rename_i hw; simp only [hw, if_true] at hh; exact wide_of_still h hh
    · rename_i hw; simp only [hw] at hh; exact ⟨fun _ _ => trivial, h _ hh⟩

theorem wideAny_of_head {n g : Nat} {L : Array Bool → Act → Prop} {Q' : Exit → Act → World → Prop} (hL : ∀ listed a, L listed a → wpAnyIn Fence.wide m P md ops Q' g listed a w) :
    ∀ (f : Nat) (listed : Array Bool) (a : Act), wpAnyL P md ops w n L f listed a → wpAnyIn Fence.wide m P md ops Q' (f + g) listed a w
  | 0, listed, a, h => by rw [Nat.zero_add]; exact hL _ _ h
  | f + 1, listed, a, h => by
    rw [show f + 1 + g = (f + g) + 1 by omega]
    exact ⟨fun h0 => absurd h0 h.1, fun i hi => wideOp_of_stOp (fun a' h' => wideAny_of_head hL f _ a' h') (h.2 i hi).2⟩

theorem wideOp_mono {i : Nat} {a : Act} {w : World} {K K' : Act → World → Prop} {Q' : Exit → Act → World → Prop} (h : ∀ a w, K a w → K' a w) (hh : wpOpIn Fence.wide m P ops Q' i K a w) : wpOpIn Fence.wide m P ops Q' i K' a w := by
  unfold wpOpIn at *
  split
  · rename_i ho; simp only [ho] at hh; exact h _ _ hh
  · rename_i o ho
    simp only [ho] at hh
    split
    · rename_i hw; simp only [hw, if_true] at hh; exact Oper.wpIn_mono h hh
    · rename_i hw; simp only [hw] at hh; exact ⟨hh.1, h _ _ hh.2⟩

theorem wideAny_of_seq {Q' : Exit → Act → World → Prop} : ∀ (l : List Oper) (k : Nat) (listed : Array Bool) (a : Act) (w : World), (∀ j, l[j]? = ops[k + j]?) →
    Region.seqB md ops l.length k listed = true → wpListIn Fence.wide m P ops Q' l a w → wpAnyIn Fence.wide m P md ops Q' l.length listed a w
  | [], _, _, _, _, _, hB, h => ⟨by simpa [Region.seqB] using hB, h⟩
  | o :: l, k, listed, a, w, hl, hB, h => by
    have h0 : ops[k]? = some o := by simpa using (hl 0).symm
    simp only [List.length_cons, Region.seqB, Bool.and_eq_true, decide_eq_true_eq] at hB
    refine ⟨fun h1 => (by rw [hB.1] at h1; cases h1), fun i hi => ?_⟩
    rw [hB.1] at hi
    have hik : i = k := by simpa using hi
    subst hik
    have hw : wpOpIn Fence.wide m P ops Q' i (wpListIn Fence.wide m P ops Q' l) a w := by unfold wpOpIn; simp only [h0]; exact h
    exact wideOp_mono (fun a' w' h' => wideAny_of_seq l (i + 1) _ a' w' (fun j => by have := hl (j + 1); simpa [Nat.add_assoc, Nat.add_comm 1 j] using this) hB.2 h') hw

theorem wide_region_tail {id : Nat} {Q : Exit → Act → World → Prop} {a : Act} {w : World} {l : List Oper} (n : Nat) (hm : P.follows .mixedOrders = true) (hB : Region.lexTailB .any l.toArray n = true)
    (h : wpStill P l.toArray { w with drawn := w.drawn + 1 } (fun a' => wpListIn Fence.wide m P l.toArray Q (l.drop n) a' { w with drawn := w.drawn + 1 }) (l.take n) a) : (Code.region id l.toArray true).wpIn Fence.wide m P Q a w := by
  simp only [Region.lexTailB, Bool.and_eq_true, decide_eq_true_eq] at hB
  obtain ⟨⟨⟨⟨hsel, hn⟩, hs⟩, hc⟩, hlex⟩ := hB
  have hn' : n < l.length := by simpa using hn
  have htl : (l.take n).length = n := by simp; omega
  have hdl : (l.drop n).length = l.toArray.size - n := by simp
  have inv0 : HeadInv .any l.toArray n (Array.replicate l.toArray.size false) :=
    ⟨by simp, fun j oj _ hl => (by rw [getD_replicate_false] at hl; cases hl), fun t _ ht => getD_in (by simpa using ht) (getD_replicate_false _ _)⟩
  have H := wpAnyL_lex (md := .any) (g := l.toArray.size - n) hsel hs hc hn (l.take n) 0 _ a (fun j hj => by
    have hj' : j < n := by rw [htl] at hj; exact hj
    simp [hj']) (by simpa using htl) inv0 (by rw [htl]; exact hlex) h
  refine wpIn_region_any hm ?_
  have := wideAny_of_head (m := m) (Q' := Q) (g := l.toArray.size - n) (fun listed a' hL => by
    have := wideAny_of_seq (m := m) (md := .any) (Q' := Q) (l.drop n) n listed a' { w with drawn := w.drawn + 1 } (fun j => by simp [List.getElem?_drop]) (by rw [hdl]; exact hL.1) hL.2
    rwa [hdl] at this) _ _ _ H
  rw [htl, show n + (l.toArray.size - n) = l.toArray.size by omega] at this
  exact this
end
end Go.Proofs.Ytcfnbpofbcendab

/- Contracts of RowLess, the model's and the program's, and of the iterator sideBySide: what each returns; nothing that lay in memory has turned. For slices of at most 2^40 numbers. -/
namespace Go.Proofs.Ytcfnbpofbcendab
open Go.RowKit Go.Shelf
attribute [local go_sem] Oper.semAt_some

def lessB : List Int → List Int → Bool
  | _, [] => false
  | [], _ :: _ => true
  | x :: xs, y :: ys => if x = y then lessB xs ys else decide (x < y)

theorem drop_ix (zs : List Int) (k : Nat) (h : k < zs.length) : zs.drop k = ix zs k :: zs.drop (k + 1) := by
  rw [ix_eq zs k h]; exact List.drop_eq_getElem_cons h
theorem less_same {zs ys : List Int} {k : Nat} (h : k < zs.length) (h' : k < ys.length) (e : ix zs k = ix ys k) : lessB (zs.drop k) (ys.drop k) = lessB (zs.drop (k + 1)) (ys.drop (k + 1)) := by
  rw [drop_ix zs k h, drop_ix ys k h', lessB, if_pos e]
theorem less_diff {zs ys : List Int} {k : Nat} (h : k < zs.length) (h' : k < ys.length) (e : ¬ ix zs k = ix ys k) : lessB (zs.drop k) (ys.drop k) = decide (ix zs k < ix ys k) := by
  rw [drop_ix zs k h, drop_ix ys k h', lessB, if_neg e]
theorem less_end {zs ys : List Int} {k : Nat} (hk : k ≤ zs.length) (hk' : k ≤ ys.length) (h : ¬ (k < zs.length ∧ k < ys.length)) : lessB (zs.drop k) (ys.drop k) = decide (zs.length < ys.length) := by
  by_cases h1 : k < ys.length
  · have hz : zs.drop k = [] := List.drop_of_length_le (by omega)
    rw [hz, drop_ix ys k h1, lessB, decide_eq_true (by omega)]
  · have hz : ys.drop k = [] := List.drop_of_length_le (by omega)
    rw [hz, decide_eq_false (by omega)]
    cases zs.drop k <;> rfl

set_option maxHeartbeats 1000000 in
theorem specRowLess_any (A A' : Option Addr) (c c' : Nat) (zs ys : List Int) (w : World) (B B' : Nat) (hI : Ints w B A zs) (hI' : Ints w B' A' ys) (hl : zs.length ≤ 1099511627776) (hl' : ys.length ≤ 1099511627776) :
    Calls Try.prog 27 #[.slice A zs.length c, .slice A' ys.length c'] w fun e w' => e = .returned (.bool (lessB zs ys)) ∧ ∃ n, w' = w.drewN n := by
  go_enter Try.func27, Try.ntmps27
  go_wp2
  go_loopw [5] (fun i wr => ∃ k : Nat, k ≤ zs.length ∧ k ≤ ys.length ∧ i = .int .i64 k ∧ lessB zs ys = lessB (zs.drop k) (ys.drop k) ∧ ∃ n, wr = w.drewN n) (fun i _ => zs.length - (intOf i).toNat)
  case atStart => exact ⟨0, Nat.zero_le _, Nat.zero_le _, rfl, by simp, 0, rfl⟩
  case round =>
    obtain ⟨k, hk, hk', rfl, ht, n, rfl⟩ := hrel
    have HT := Lib.hid ht
    clear ht
    by_cases hlt : k < zs.length
    · by_cases hlt' : k < ys.length
      · obtain ⟨b, off, rfl, _, hc⟩ := hI (by omega)
        obtain ⟨b', off', rfl, _, hc'⟩ := hI' (by omega)
        have hck := hc k hlt
        have hck' := hc' k hlt'
        clear hc hc'
        by_cases he : ix zs k = ix ys k
        · have hbe : (ix zs k != ix ys k) = false := by simp [he]
          have HE := Lib.hid he
          clear he
          go_wp2
          go_quiet (fail)
          go_wp2
          go_roundw
          case rel => exact ⟨k + 1, by omega, by omega, by go_num, by rw [HT.out, less_same hlt hlt' HE.out], n + nq, by first | rfl | rw [World.drewN_drewN]⟩
          case measure => simp [intOf]; omega
        · have hbe : (ix zs k != ix ys k) = true := by simp [he]
          have HE := Lib.hid he
          clear he
          go_wp2
          go_quiet (fail)
          go_wp2
          go_quiet (fail)
          go_wp2
          go_ret
          exact ⟨ret_bool (by rw [HT.out, less_diff hlt hlt' HE.out]), by simp only [World.drewN_drewN]; exact ⟨_, rfl⟩⟩
      · have hd : decide (k < ys.length) = false := by simpa using hlt'
        go_wp2
        go_ret
        exact ⟨ret_bool (by rw [HT.out, less_end hk hk' (by omega)]), _, rfl⟩
    · have hd : decide (k < zs.length) = false := by simpa using hlt
      go_wp2
      go_ret
      exact ⟨ret_bool (by rw [HT.out, less_end hk hk' (by omega)]), _, rfl⟩

/-- What has come when k rounds are over: pairs. -/
def pairs (zs ys : List Int) (k : Nat) : List (Int × Int) := (List.range k).map fun j => (ix zs j, ix ys j)
theorem pairs_succ (zs ys : List Int) (k : Nat) : pairs zs ys (k + 1) = pairs zs ys k ++ [(ix zs k, ix ys k)] := by simp [pairs, List.range_succ]
theorem pairs_length (zs ys : List Int) (k : Nat) : (pairs zs ys k).length = k := by simp [pairs]

theorem grown_drew (w : World) (row : Option Nat) : w.grownBy w.drew row := ⟨rfl, rfl, rfl, Nat.le_refl _, fun _ _ _ => rfl⟩

theorem mixed : Try.prog.follows .mixedOrders = true := by kernel_rfl

set_option maxRecDepth 100000 in
set_option maxHeartbeats 4000000 in
theorem side1_in (n : Nat) (hn : 1 ≤ n) (l Bs Bt n₀ : Nat) (A A' : Option Addr) (cap cap' : Nat) (zs ys : List Int) (hl : zs.length ≤ 1099511627776) (hl' : ys.length ≤ 1099511627776) (J Jx : List (Int × Int) → World → Prop)
    (hBsl : Bs < n₀) (hBtl : Bt < n₀)
    (W : World) (hJ : AbidesFrom W.heap.size J)
    (hY : ∀ pre x W, J pre W → pre.length < min zs.length ys.length → YieldAt Fence.wide (n - 1) Try.prog l #[.int .i64 x.1, .int .i64 x.2] W fun e W' =>
      (e = .returned (.bool true) ∧ J (pre ++ [x]) W' ∧ Below n₀ W W') ∨ (e = .returned (.bool false) ∧ Jx (pre ++ [x]) W'))
    (hBs : W.cell? ⟨Bs, 0, none⟩ = some (.slice A zs.length cap)) (hBt : W.cell? ⟨Bt, 0, none⟩ = some (.slice A' ys.length cap')) (hI : Ints W n₀ A zs) (hI' : Ints W n₀ A' ys) (h0 : J [] W) :
    CallsIn Fence.wide n Try.prog 54 #[.func (.yield l) #[] #[], .pointer (some ⟨Bs, 0, none⟩), .pointer (some ⟨Bt, 0, none⟩)] W fun e W' => (∃ v, e = .returned v) ∧
      ((∃ xs, xs = pairs zs ys (min zs.length ys.length) ∧ J xs W') ∨ (∃ pre, (∃ k, k ≤ min zs.length ys.length ∧ pre = pairs zs ys k) ∧ Jx pre W')) := by
  refine callsIn_of_wp Try.func54 rfl trivial ?_ rfl
  simp only [Try.ntmps54, List.size_toArray, List.length_cons, List.length_nil, Nat.reduceAdd, Nat.reduceSub, Array.replicate_succ, Array.replicate_zero, List.push_toArray, List.append_toArray, List.nil_append, List.cons_append]
  by_cases hmin : ys.length < zs.length
  · gi_wp2
    gi_loopw [10] (fun i wr => ∃ k : Nat, k ≤ ys.length ∧ i = .int .i64 k ∧ J (pairs zs ys k) wr ∧ Below n₀ W wr)
      (fun i _ => ys.length - (intOf i).toNat)
    case atStart => exact ⟨0, Nat.zero_le _, rfl, h0, Below.refl _ _⟩
    case round =>
      obtain ⟨k, hk, rfl, hJs, hnx⟩ := hrel
      by_cases hlt : k < ys.length
      · have hlz : k < zs.length := by omega
        have hly : k < ys.length := by omega
        obtain ⟨b, off, rfl, hb, hc⟩ := hI (by omega)
        obtain ⟨b', off', rfl, hb', hc'⟩ := hI' (by omega)
        have hJd := hJ _ _ _ none hJs (grown_drew wr none) (fun r e => by cases e)
        obtain ⟨fn, tmps, assign, body, hy, hR⟩ := hY _ (ix zs k, ix ys k) wr.drew hJd (by rw [pairs_length]; omega)
        dsimp only at hy
        have hcx : wr.cell? ⟨b, off + k, none⟩ = some (.int .i64 (ix zs k)) := (hnx.cell (p := ⟨b, off + k, none⟩) hb).trans (hc k hlz)
        have hcy : wr.cell? ⟨b', off' + k, none⟩ = some (.int .i64 (ix ys k)) := (hnx.cell (p := ⟨b', off' + k, none⟩) hb').trans (hc' k hly)
        have hbs : wr.cell? ⟨Bs, 0, none⟩ = _ := (hnx.cell (p := ⟨Bs, 0, none⟩) hBsl).trans hBs
        have hbt : wr.cell? ⟨Bt, 0, none⟩ = _ := (hnx.cell (p := ⟨Bt, 0, none⟩) hBtl).trans hBt
        clear hc hc' hBs hBt
        gi_wp2
        refine wide_region_tail 9 mixed (by kernel_rfl) ?_
        simp only [List.take_succ_cons, List.take_zero, List.drop_succ_cons, List.drop_zero]
        repeat still_step
        refine wpStill_nil ?_
        change wpListIn _ _ _ _ _ _ _ wr.drew
        gi_wp2
        refine hR.mono ?_
        rintro e W3 (⟨rfl, hJ3, hk3⟩ | ⟨rfl, hJx3⟩)
        · gi_wp2
          go_roundw
          case rel => exact ⟨k + 1, by omega, by simp, by rw [pairs_succ]; exact hJ3, hnx.drew.trans hk3⟩
          case measure => simp [intOf]; omega
        · gi_wp2
          refine bodyPost_ret (results_none rfl _ _ _) rfl ?_
          exact ⟨⟨_, rfl⟩, .inr ⟨_, ⟨k + 1, by omega, (pairs_succ zs ys k).symm⟩, hJx3⟩⟩
      · gi_wp2
        go_end0
        obtain rfl : k = min zs.length ys.length := by omega
        exact ⟨⟨_, rfl⟩, .inl ⟨_, rfl, hJs⟩⟩
  · gi_wp2
    gi_loopw [10] (fun i wr => ∃ k : Nat, k ≤ zs.length ∧ i = .int .i64 k ∧ J (pairs zs ys k) wr ∧ Below n₀ W wr)
      (fun i _ => zs.length - (intOf i).toNat)
    case atStart => exact ⟨0, Nat.zero_le _, rfl, h0, Below.refl _ _⟩
    case round =>
      obtain ⟨k, hk, rfl, hJs, hnx⟩ := hrel
      by_cases hlt : k < zs.length
      · have hlz : k < zs.length := by omega
        have hly : k < ys.length := by omega
        obtain ⟨b, off, rfl, hb, hc⟩ := hI (by omega)
        obtain ⟨b', off', rfl, hb', hc'⟩ := hI' (by omega)
        have hJd := hJ _ _ _ none hJs (grown_drew wr none) (fun r e => by cases e)
        obtain ⟨fn, tmps, assign, body, hy, hR⟩ := hY _ (ix zs k, ix ys k) wr.drew hJd (by rw [pairs_length]; omega)
        dsimp only at hy
        have hcx : wr.cell? ⟨b, off + k, none⟩ = some (.int .i64 (ix zs k)) := (hnx.cell (p := ⟨b, off + k, none⟩) hb).trans (hc k hlz)
        have hcy : wr.cell? ⟨b', off' + k, none⟩ = some (.int .i64 (ix ys k)) := (hnx.cell (p := ⟨b', off' + k, none⟩) hb').trans (hc' k hly)
        have hbs : wr.cell? ⟨Bs, 0, none⟩ = _ := (hnx.cell (p := ⟨Bs, 0, none⟩) hBsl).trans hBs
        have hbt : wr.cell? ⟨Bt, 0, none⟩ = _ := (hnx.cell (p := ⟨Bt, 0, none⟩) hBtl).trans hBt
        clear hc hc' hBs hBt
        gi_wp2
        refine wide_region_tail 9 mixed (by kernel_rfl) ?_
        simp only [List.take_succ_cons, List.take_zero, List.drop_succ_cons, List.drop_zero]
        repeat still_step
        refine wpStill_nil ?_
        change wpListIn _ _ _ _ _ _ _ wr.drew
        gi_wp2
        refine hR.mono ?_
        rintro e W3 (⟨rfl, hJ3, hk3⟩ | ⟨rfl, hJx3⟩)
        · gi_wp2
          go_roundw
          case rel => exact ⟨k + 1, by omega, by simp, by rw [pairs_succ]; exact hJ3, hnx.drew.trans hk3⟩
          case measure => simp [intOf]; omega
        · gi_wp2
          refine bodyPost_ret (results_none rfl _ _ _) rfl ?_
          exact ⟨⟨_, rfl⟩, .inr ⟨_, ⟨k + 1, by omega, (pairs_succ zs ys k).symm⟩, hJx3⟩⟩
      · gi_wp2
        go_end0
        obtain rfl : k = min zs.length ys.length := by omega
        exact ⟨⟨_, rfl⟩, .inl ⟨_, rfl, hJs⟩⟩

set_option maxHeartbeats 1000000 in
theorem side_in (F : Fence) (n : Nat) (h5 : F.fn 46) (hro : F.round = none) (a a' : Option Addr) (len cap len' cap' : Nat) (w : World) :
    CallsIn F n Try.prog 46 #[.slice a len cap, .slice a' len' cap'] w fun e w' => e = .returned (.func (.func 54) #[] #[.pointer (some ⟨w.heap.size, 0, none⟩), .pointer (some ⟨w.heap.size + 1, 0, none⟩)]) ∧
      w' = (w.alloc (.cells #[.slice a len cap] 25)).alloc (.cells #[.slice a' len' cap'] 25) := by
  refine callsIn_of_wp Try.func46 rfl h5 ?_ hro
  simp only [Try.ntmps46, List.size_toArray, List.length_cons, List.length_nil, Nat.reduceAdd, Nat.reduceSub, Array.replicate_succ, Array.replicate_zero, List.push_toArray, List.append_toArray, List.nil_append, List.cons_append]
  gi_wp2
  go_ret
  exact ⟨rfl, rfl⟩

theorem side_stops (n : Nat) (hn : 1 ≤ n) (Bs Bt n₀ : Nat) (A A' : Option Addr) (cap cap' : Nat) (zs ys : List Int) (hl : zs.length ≤ 1099511627776) (hl' : ys.length ≤ 1099511627776) (w : World) (hn₀ : n₀ ≤ w.heap.size) (hBs : Bs < n₀) (hBt : Bt < n₀)
    (hc : w.cell? ⟨Bs, 0, none⟩ = some (.slice A zs.length cap)) (hc' : w.cell? ⟨Bt, 0, none⟩ = some (.slice A' ys.length cap')) (hI : Ints w n₀ A zs) (hI' : Ints w n₀ A' ys) :
    SeqStopsK Fence.wide n Try.prog 54 #[.pointer (some ⟨Bs, 0, none⟩), .pointer (some ⟨Bt, 0, none⟩)] (fun x : Int × Int => #[Value.int .i64 x.1, Value.int .i64 x.2]) (Below n₀) (fun xs => xs = pairs zs ys (min zs.length ys.length)) (fun pre => ∃ k, k ≤ min zs.length ys.length ∧ pre = pairs zs ys k) (min zs.length ys.length) w := fun l J Jx W hW hJ _ hY h0 =>
  side1_in n hn l Bs Bt n₀ A A' cap cap' zs ys hl hl' J Jx hBs hBt W hJ hY ((hW.cell (p := ⟨Bs, 0, none⟩) (Nat.lt_of_lt_of_le hBs hn₀)).trans hc) ((hW.cell (p := ⟨Bt, 0, none⟩) (Nat.lt_of_lt_of_le hBt hn₀)).trans hc') (hI.below (hW.mono hn₀)) (hI'.below (hW.mono hn₀)) h0

theorem pairs_all_eq {zs ys : List Int} : ∀ {k : Nat}, k ≤ zs.length → k ≤ ys.length → (∀ p ∈ pairs zs ys k, p.1 = p.2) → lessB zs ys = lessB (zs.drop k) (ys.drop k)
  | 0, _, _, _ => by simp
  | k + 1, h1, h2, h => by
    rw [pairs_succ] at h
    rw [pairs_all_eq (by omega) (by omega) (fun p hp => h p (List.mem_append.2 (.inl hp))), less_same (by omega) (by omega) (h (ix zs k, ix ys k) (List.mem_append.2 (.inr (by simp))))]

set_option maxRecDepth 100000 in
set_option maxHeartbeats 2000000 in
theorem implRowLess_any (A A' : Option Addr) (cap cap' : Nat) (zs ys : List Int) (hl : zs.length ≤ 1099511627776) (hl' : ys.length ≤ 1099511627776) (w : World) (hI : Ints w w.heap.size A zs) (hI' : Ints w w.heap.size A' ys) :
    Calls Try.prog 35 #[.slice A zs.length cap, .slice A' ys.length cap'] w fun e W' => e = .returned (.bool (lessB zs ys)) ∧ Below w.heap.size w W' := by
  refine (callsIn_wide (n := 3)).1 ?_
  refine callsIn_of_wp_marks Try.func35 rfl trivial ?_ rfl
  simp only [Try.ntmps35, List.size_toArray, List.length_cons, List.length_nil, Nat.reduceAdd, Nat.reduceSub, Array.replicate_succ, Array.replicate_zero, List.push_toArray, List.append_toArray, List.nil_append, List.cons_append]
  gi_wp2_with (refine ⟨trivial, ?_⟩; gi_at_call 46; refine (side_in Fence.wide 2 trivial rfl _ _ _ _ _ _ _).mono ?_; rintro e w' ⟨rfl, rfl⟩)
  have bR := Boxed.new w 4 (.bool false)
  have bN := Boxed.new (w.alloc (.cells #[.bool false] 4)) 25 (.slice A zs.length cap)
  have bM := Boxed.new ((w.alloc (.cells #[.bool false] 4)).alloc (.cells #[.slice A zs.length cap] 25)) 25 (.slice A' ys.length cap')
  simp only [World.size_alloc] at bN bM
  have hB0 : Below w.heap.size w (((w.alloc (.cells #[.bool false] 4)).alloc (.cells #[.slice A zs.length cap] 25)).alloc (.cells #[.slice A' ys.length cap'] 25)) := (((Below.refl _ w).alloc (Nat.le_refl _) _).alloc (by simp) _).alloc (by simp; omega) _
  refine wpIn_rangeFunc_ownG (F := Fence.wide) (n := 3) rfl (by omega) (gf := 54) (lb := #[.pointer (some ⟨w.heap.size + 1, 0, none⟩), .pointer (some ⟨w.heap.size + 1 + 1, 0, none⟩)]) rfl trivial (enters_of Try.func54 (by kernel_rfl) rfl)
    (side_stops (3 - 1) (by omega) (w.heap.size + 1) (w.heap.size + 1 + 1) (w.heap.size + 3) A A' cap cap' zs ys hl hl' _ (by simp) (by omega) (by omega) (bN.alloc _).cell bM.cell ((hI.below hB0).more (by omega)) ((hI'.below hB0).more (by omega))) belowK_t (belowK_b (by simp)) (Below.refl _ _) (fun _ => rfl)
    (fun pre W => ((∀ p ∈ pre, p.1 = p.2) ∧ W.cell? ⟨w.heap.size, 0, none⟩ = some (.bool false) ∧ W.frozen? ⟨w.heap.size, 0, none⟩ = false) ∧ Below w.heap.size w W)
    (fun c pre W => (c = .ret ∧ (∃ ini last, pre = ini ++ [last] ∧ (∀ p ∈ ini, p.1 = p.2) ∧ ¬ last.1 = last.2 ∧ W.cell? ⟨w.heap.size, 0, none⟩ = some (.bool (decide (last.1 < last.2))))) ∧ Below w.heap.size w W)
    (OwnFrom.and (Own.from (fun s A B row hs hg hr => ⟨hs.1, cell_kept hs.2.1 hg hr, (frozen_kept hs.2.1 hg hr).trans hs.2.2⟩) _) (ownFrom_below (Nat.le_refl _) (by simp; omega)))
    (fun c => OwnFrom.and (Own.from (fun s A B row hs hg hr => by obtain ⟨hc, ini, last, e1, e2, e3, e4⟩ := hs; exact ⟨hc, ini, last, e1, e2, e3, cell_kept e4 hg hr⟩) _) (ownFrom_below (Nat.le_refl _) (by simp; omega)))
    ⟨⟨by simp, ((bR.alloc _).alloc _).cell, ((bR.alloc _).alloc _).frozen⟩, hB0⟩
    (fun x => { tmps := #[.slice A zs.length cap, .slice A' ys.length cap', undef, undef, .pointer (some ⟨w.heap.size, 0, none⟩), .int .i64 x.1, .int .i64 x.2, .slice A zs.length cap, .slice A' ys.length cap', .func (.func 54) #[] #[.pointer (some ⟨w.heap.size + 1, 0, none⟩), .pointer (some ⟨w.heap.size + 1 + 1, 0, none⟩)], .int .i64 x.1, .int .i64 x.2, undef, undef, undef, undef, undef, undef, undef, undef, undef, undef, undef], defers := [] }) ?assign ?body ?done ?stop
  case assign =>
    intro l x W K hK
    gi_wp2
    exact hK
  case body =>
    rintro l pre x W ⟨⟨hp, hcr, hfr⟩, hB⟩ _
    have HP := Lib.hid hp
    clear hp
    by_cases he : x.1 = x.2
    · have hbe : (x.1 != x.2) = false := by simp [he]
      have HE := Lib.hid he
      clear he
      gi_wp2
      exact ⟨KeepsFrom.refl _ _, Below.refl _ _, ⟨fun y hy => (List.mem_append.1 hy).elim (HP.out y) (fun e => by simp at e; subst e; exact HE.out), hcr, hfr⟩, hB⟩
    · have hbe : (x.1 != x.2) = true := by simp [he]
      have HE := Lib.hid he
      clear he
      gi_wp2
      exact ⟨(KeepsOthers.setCell _ _ _).from _, ⟨rfl, pre, x, rfl, HP.out, HE.out, World.cell?_setCell_same' _ _ _ (by rw [hcr]; rfl)⟩, hB.setCell (p := ⟨w.heap.size, 0, none⟩) (Nat.le_refl _) _⟩
  case done =>
    rintro D ys' W hD rfl ⟨⟨hne, hcr, hfr⟩, hB⟩ hK
    have hR : lessB zs ys = decide (zs.length < ys.length) := by rw [pairs_all_eq (Nat.min_le_left _ _) (Nat.min_le_right _ _) hne, less_end (Nat.min_le_left _ _) (Nat.min_le_right _ _) (by omega)]
    have HR := Lib.hid hR
    clear hne hR
    gi_wp2
    have hK' := (KeepsOthers.setCell W ⟨w.heap.size, 0, none⟩ (.bool (decide (zs.length < ys.length)))).same D _ hK rfl
    refine ⟨by simp, .inl ⟨_, _, rfl, run_takeDeferred hK', ?_⟩⟩
    have hc5 := cell_kept (World.cell?_setCell_same' W ⟨w.heap.size, 0, none⟩ (.bool (decide (zs.length < ys.length))) (by rw [hcr]; rfl)) (grownBy_putObj' _ D (.deferred none)) (fun r e => by cases e; exact ⟨_, hK', rfl⟩)
    refine ⟨.bool (decide (zs.length < ys.length)), ?_, by rw [HR.out], (hB.setCell (p := ⟨w.heap.size, 0, none⟩) (Nat.le_refl _) _).trans (belowK_b (w := w) (Nat.le_refl _) _ D _ _ (by simp at hD; omega) hK' rfl rfl)⟩
    simp [results, Try.f35, go_sem, hc5]
  case stop =>
    rintro D c pre W hD ⟨k, hk, rfl⟩ ⟨⟨rfl, ini, last, e1, e2, e3, hcr⟩, hB⟩ hK
    have hR : lessB zs ys = decide (last.1 < last.2) := by
      obtain ⟨k', rfl⟩ : ∃ k', k = k' + 1 := by
        cases k with
        | zero => simp [pairs] at e1
        | succ k' => exact ⟨k', rfl⟩
      rw [pairs_succ] at e1
      obtain ⟨rfl, e5⟩ := List.append_inj' e1 rfl
      obtain rfl : (ix zs k', ix ys k') = last := by simpa using e5
      rw [pairs_all_eq (k := k') (by omega) (by omega) e2, less_diff (by omega) (by omega) e3]
    have HR := Lib.hid hR
    clear hR e1 e2 e3
    gi_wp2
    refine ⟨by simp, .inl ⟨_, _, rfl, run_takeDeferred hK, ?_⟩⟩
    have hc5 := cell_kept hcr (grownBy_putObj' _ D (.deferred none)) (fun r e => by cases e; exact ⟨_, hK, rfl⟩)
    refine ⟨.bool (decide (last.1 < last.2)), ?_, by rw [HR.out], hB.trans (belowK_b (w := w) (Nat.le_refl _) W D _ _ (by simp at hD; omega) hK rfl rfl)⟩
    simp [results, Try.f35, go_sem, hc5]
end Go.Proofs.Ytcfnbpofbcendab

/- A row of the call's own: its value's form, an empty one, numbers as values. No condition; nothing of the program is named. -/
namespace Go.Proofs.Ytcfnbpofbcendab
open Go.RowKit

def i64l (zs : List Int) : List Value := zs.map (Value.int .i64)
theorem i64l_length (zs : List Int) : (i64l zs).length = zs.length := by simp [i64l]
theorem i64l_append (zs ys : List Int) : i64l (zs ++ ys) = i64l zs ++ i64l ys := by simp [i64l]

theorem own_form {w : World} {base : Nat} {e : TypeId} {size : Nat} {v : Value} {n : Nat} {xs : List Value} (h : w.ownsRow base e size v n xs) : ∃ A cap, v = .slice A n cap := by
  rcases h.2 with ⟨rfl, rfl⟩ | ⟨g, cap, _, rfl, _⟩
  · exact ⟨none, 0, rfl⟩
  · exact ⟨_, cap, rfl⟩

theorem ownsRow_empty (w : World) (e : TypeId) (base : Nat) (hb : base ≤ w.heap.size) : (w.alloc (.cells #[] e)).ownsRow base e 1 (.slice (some ⟨w.heap.size, 0, none⟩) 0 0) 0 [] :=
  World.ownsRow_made w #[] 0 hb (Nat.zero_le _) rfl

end Go.Proofs.Ytcfnbpofbcendab

/- A slice that reads as a list, nil let in; an append from whatever source onto a row of the call's own (the guide's words for memory, its sections 1 and 3, as it hands them out). No condition of its own; nothing of the program is named. -/
namespace Go.Proofs.Ytcfnbpofbcendab
open Go.RowKit

theorem block_of_add (a : Addr) (n : Nat) : (a.add n).block = a.block := by unfold Addr.add; split <;> rfl
theorem add_of_add (a : Addr) (i j : Nat) : (a.add i).add j = a.add (i + j) := by
  unfold Addr.add
  by_cases hi : i = 0 <;> by_cases hj : j = 0 <;> simp [hi, hj, Nat.add_assoc]

def Reads (w : World) (B size : Nat) (A : Option Addr) (n : Nat) (xs : List Value) : Prop :=
  xs.length = n * size ∧ (0 < n → ∃ ad, A = some ad ∧ ad.block < B ∧ ∀ j u, xs[j]? = some u → w.cell? (ad.add j) = some u)

section
variable {w w' : World} {B B' size n : Nat} {A : Option Addr} {xs : List Value}
theorem Reads.none_ : Reads w B size A 0 [] := ⟨by simp, fun h => absurd h (by omega)⟩
theorem Reads.at_ {k : Nat} (h : Reads w B 1 A n xs) (hk : k < n) : ∃ ad u, A = some ad ∧ ad.block < B ∧ xs[k]? = some u ∧ w.cell? (ad.add k) = some u := by
  obtain ⟨ad, e, hb, hc⟩ := h.2 (by omega)
  have hl : k < xs.length := by have := h.1; omega
  exact ⟨ad, xs[k], e, hb, List.getElem?_eq_getElem hl, hc k _ (List.getElem?_eq_getElem hl)⟩
theorem Reads.keep (h : Reads w B size A n xs) (hk : ∀ p : Addr, p.block < B → w'.cell? p = w.cell? p) : Reads w' B size A n xs :=
  ⟨h.1, fun hn => by
    obtain ⟨ad, e, hb, hc⟩ := h.2 hn
    exact ⟨ad, e, hb, fun j u hu => (hk _ (by rw [block_of_add]; exact hb)).trans (hc j u hu)⟩⟩
theorem Reads.more (h : Reads w B size A n xs) (hB : B ≤ B') : Reads w B' size A n xs :=
  ⟨h.1, fun hn => by
    obtain ⟨ad, e, hb, hc⟩ := h.2 hn
    exact ⟨ad, e, by omega, hc⟩⟩
theorem Reads.below (h : Reads w B size A n xs) (hb : Below B w w') : Reads w' B size A n xs := h.keep fun _ hp => hb.cell hp
theorem Reads.drew (h : Reads w B size A n xs) : Reads w.drew B size A n xs := h
theorem Reads.drewN (h : Reads w B size A n xs) (k : Nat) : Reads (w.drewN k) B size A n xs := h
theorem Reads.alloc (h : Reads w B size A n xs) (hB : B ≤ w.heap.size) (o : Obj) : Reads (w.alloc o) B size A n xs := h.keep fun p hp => World.cell?_alloc_lt w o p (by omega)
theorem Reads.setCell (h : Reads w B size A n xs) {p : Addr} (hB : B ≤ p.block) (u : Value) : Reads (w.setCell p u) B size A n xs :=
  h.keep fun q hq => World.cell?_setCell_other w p q u (fun e => by subst e; omega)
theorem Reads.grown (h : Reads w B size A n xs) {row : Option Nat} (hg : w.grownBy w' row) (hB : B ≤ w.heap.size) (hr : ∀ g, row = some g → B ≤ g) : Reads w' B size A n xs :=
  h.keep fun p hp => World.cell?_of_block (hg.block p.block (by omega) (fun e => by have := hr _ e.symm; omega))
theorem Reads.cut (h : Reads w B size A n xs) {k cap : Nat} (hk : k ≤ n) (hc : n ≤ cap) :
    Reads w B size (if cap = k then A else A.map (·.add (k * size))) (n - k) (xs.drop (k * size)) := by
  refine ⟨by rw [List.length_drop, h.1, Nat.sub_mul], fun hn => ?_⟩
  obtain ⟨ad, rfl, hb, hcell⟩ := h.2 (by omega)
  rw [if_neg (by omega)]
  refine ⟨ad.add (k * size), rfl, by rw [block_of_add]; exact hb, fun j u hu => ?_⟩
  rw [add_of_add]
  exact hcell _ u (by rw [← hu, List.getElem?_drop])
theorem Reads.of_own {base : Nat} {e : TypeId} {c : Nat} (h : w.ownsRow base e size (.slice A n c) n xs) : Reads w w.heap.size size A n xs := by
  refine ⟨h.1, fun hn => ?_⟩
  obtain ⟨g, cap, hv, _, hlt⟩ := h.form hn
  have hA : A = some ⟨g, 0, none⟩ := by injection hv
  subst hA
  exact ⟨_, rfl, hlt, h.cells (g := g) rfl⟩
end

section
variable {P : Program} (w : World)

theorem run_append_of_nil (base : Nat) (t ty e : TypeId) (i : TypeInfo) (size : Nat) (ht : P.underlying t = some (.slice e)) (hi : P.info? e = some i)
    (v : Value) (n : Nat) (xs : List Value) (hown : w.ownsRow base e size v n xs) (c : Nat) : (Builtin.append_ #[t, t] ty #[v, .slice none 0 c]).run P w = .ok v w := by
  rcases hown.2 with ⟨rfl, rfl⟩ | ⟨g, cap, cur, rfl, _, _, hnc, _⟩
  · simp [Builtin.append_, run_underlying ht, sizeOf, typeInfo, hi, Builtin.lenOf, Builtin.firstCells]
  · simp [Builtin.append_, run_underlying ht, sizeOf, typeInfo, hi, Builtin.lenOf, Builtin.firstCells, hnc, storeCells]

theorem run_append_any (base : Nat) (t ty e : TypeId) (i : TypeInfo) (z : Value) (size bytes : Nat) (ht : P.underlying t = some (.slice e)) (hi : P.info? e = some i) (hz : i.zero = some z)
    (hsize : i.size = size) (hby : i.bytes = bytes) (hzs : z.cells.size = size) (hsz : 0 < size)
    (v : Value) (n : Nat) (xs : List Value) (hown : w.ownsRow base e size v n xs)
    (B : Nat) (A : Option Addr) (m c : Nat) (news : List Value) (hr : Reads w B size A m news) (h1 : ∀ u ∈ news, u.oneCell' = true)
    (h63 : n + m ≤ maxLen) (hbytes : (n + m) * bytes ≤ 140737488355328) (hbase : base ≤ w.heap.size) :
    ∃ v' w', (Builtin.append_ #[t, t] ty #[v, .slice A m c]).run P w = .ok v' w' ∧ w'.ownsRow base e size v' (n + m) (xs ++ news) ∧ w.grownBy w' v.ownBlock ∧
      (v'.ownBlock = v.ownBlock ∨ v'.ownBlock = some w.heap.size) := by
  rcases A with _ | ad
  · have hm : m = 0 := by
      rcases Nat.eq_zero_or_pos m with h0 | h0
      · exact h0
      · obtain ⟨ad, h, _⟩ := hr.2 h0
        cases h
    subst hm
    have hn : news = [] := List.eq_nil_of_length_eq_zero (by simpa using hr.1)
    subst hn
    exact ⟨v, w, run_append_of_nil w base t ty e i size ht hi v n xs hown c, by simpa using hown, World.grownBy.refl w _, .inl rfl⟩
  · have hcells : ∀ j u, news[j]? = some u → w.cell? (ad.add j) = some u := by
      intro j u hu
      rcases Nat.eq_zero_or_pos m with h0 | h0
      · subst h0
        have hn : news = [] := List.eq_nil_of_length_eq_zero (by simpa using hr.1)
        subst hn
        simp at hu
      · obtain ⟨ad', h, _, hc⟩ := hr.2 h0
        injection h with h
        subst h
        exact hc j u hu
    obtain ⟨v', w', hrun, h2, h3, _, h5⟩ := run_append_own_at (P := P) w base t ty e i z size bytes ht hi hz hsize hby hzs hsz v n xs hown ad m c news hr.1 hcells h1 h63 hbytes hbase
    exact ⟨v', w', hrun, h2, h3, h5⟩

theorem wp_append_any {o : Oper} {a : Act} {K : Act → World → Prop} {Q : Exit → Act → World → Prop} (s x : Operand) (t : TypeId)
    (ho : o.op = .call { callee := .builtin .append, args := #[s, x], argTypes := #[t, t] })
    (base : Nat) (e : TypeId) (i : TypeInfo) (z : Value) (size bytes : Nat) (ht : P.underlying t = some (.slice e)) (hi : P.info? e = some i) (hz : i.zero = some z)
    (hsize : i.size = size) (hby : i.bytes = bytes) (hzs : z.cells.size = size) (hsz : 0 < size)
    (v : Value) (n : Nat) (xs : List Value) (hs : a.eval s = v) (hown : w.ownsRow base e size v n xs)
    (B : Nat) (A : Option Addr) (m c : Nat) (news : List Value) (hx : a.eval x = .slice A m c) (hr : Reads w B size A m news) (h1 : ∀ u ∈ news, u.oneCell' = true)
    (h63 : n + m ≤ maxLen) (hbytes : (n + m) * bytes ≤ 140737488355328) (hbase : base ≤ w.heap.size)
    (h : ∀ v' w', w'.ownsRow base e size v' (n + m) (xs ++ news) → w.grownBy w' v.ownBlock → (v'.ownBlock = v.ownBlock ∨ v'.ownBlock = some w.heap.size) → K (a.put o.dst v') w') : o.wp P a w K Q := by
  obtain ⟨v', w', hrun, h2, h3, h4⟩ := run_append_any (P := P) w base t o.type e i z size bytes ht hi hz hsize hby hzs hsz v n xs hown B A m c news hr h1 h63 hbytes hbase
  unfold Oper.wp execOp
  simp only [ho, resolve, invoke, builtin, Sem.run_bind, Sem.run_pure, Result.andThen_ok, List.map_toArray, List.map_cons, List.map_nil, hs, hx, hrun]
  exact h v' w' h2 h3 h4

theorem wpList_append_any {ops : Array Oper} {rest : List Oper} {o : Oper} {a : Act} {Q : Exit → Act → World → Prop} (hgd : o.guard = none) (s x : Operand) (t : TypeId)
    (ho : o.op = .call { callee := .builtin .append, args := #[s, x], argTypes := #[t, t] })
    (base : Nat) (e : TypeId) (i : TypeInfo) (z : Value) (size bytes : Nat) (ht : P.underlying t = some (.slice e)) (hi : P.info? e = some i) (hz : i.zero = some z)
    (hsize : i.size = size) (hby : i.bytes = bytes) (hzs : z.cells.size = size) (hsz : 0 < size)
    (v : Value) (n : Nat) (xs : List Value) (hs : a.eval s = v) (hown : w.ownsRow base e size v n xs)
    (B : Nat) (A : Option Addr) (m c : Nat) (news : List Value) (hx : a.eval x = .slice A m c) (hr : Reads w B size A m news) (h1 : ∀ u ∈ news, u.oneCell' = true)
    (h63 : n + m ≤ maxLen) (hbytes : (n + m) * bytes ≤ 140737488355328) (hbase : base ≤ w.heap.size)
    (h : ∀ v' w', w'.ownsRow base e size v' (n + m) (xs ++ news) → w.grownBy w' v.ownBlock → (v'.ownBlock = v.ownBlock ∨ v'.ownBlock = some w.heap.size) → wpList P ops Q rest (a.put o.dst v') w') : wpList P ops Q (o :: rest) a w :=
  wpList_plain hgd fun _ hK => wp_append_any w s x t ho base e i z size bytes ht hi hz hsize hby hzs hsz v n xs hs hown B A m c news hx hr h1 h63 hbytes hbase fun v' w' h2 h3 h4 => hK _ _ (h v' w' h2 h3 h4)

theorem step_append_any {ops : Array Oper} {o : Oper} {a : Act} {K : Act → World → Prop} {Q : Exit → Act → World → Prop} {E : Prop} (hgd : o.guard = none) (s x : Operand) (t : TypeId)
    (ho : o.op = .call { callee := .builtin .append, args := #[s, x], argTypes := #[t, t] })
    (base : Nat) (e : TypeId) (i : TypeInfo) (z : Value) (size bytes : Nat) (ht : P.underlying t = some (.slice e)) (hi : P.info? e = some i) (hz : i.zero = some z)
    (hsize : i.size = size) (hby : i.bytes = bytes) (hzs : z.cells.size = size) (hsz : 0 < size)
    (v : Value) (n : Nat) (xs : List Value) (hs : a.eval s = v) (hown : w.ownsRow base e size v n xs)
    (B : Nat) (A : Option Addr) (m c : Nat) (news : List Value) (hx : a.eval x = .slice A m c) (hr : Reads w B size A m news) (h1 : ∀ u ∈ news, u.oneCell' = true)
    (h63 : n + m ≤ maxLen) (hbytes : (n + m) * bytes ≤ 140737488355328) (hbase : base ≤ w.heap.size)
    (h : ∀ v' w', w'.ownsRow base e size v' (n + m) (xs ++ news) → w.grownBy w' v.ownBlock → (v'.ownBlock = v.ownBlock ∨ v'.ownBlock = some w.heap.size) → K (a.put o.dst v') w') :
    if Region.wanted o (yielded ops a.tmps) = true then Oper.wp P o a w K Q else E := by
  have hw : Region.wanted o (yielded ops a.tmps) = true := by simp [Region.wanted, hgd]
  rw [if_pos hw]
  exact wp_append_any w s x t ho base e i z size bytes ht hi hz hsize hby hzs hsz v n xs hs hown B A m c news hx hr h1 h63 hbytes hbase h
end

end Go.Proofs.Ytcfnbpofbcendab

/- Contracts of Picked, the model's and the program's, and of the marks by which a law tells whose memory is whose. For slices of at most 2^30 numbers. -/
namespace Go.Proofs.Ytcfnbpofbcendab
open Go.RowKit

def placesB (ps : List Int) (n : Nat) : Bool := ps.all fun p => inB p 0 ((n : Int) - 1)
def pick (zs ps : List Int) : List Int := ps.map fun p => ix zs p.toNat
def pickedL (zs ps : List Int) : List Int := if placesB ps zs.length = true then pick zs ps else []

theorem pickedL_length (zs ps : List Int) : (pickedL zs ps).length ≤ ps.length := by
  unfold pickedL; split
  · simp [pick]
  · simp

set_option maxHeartbeats 400000 in
theorem l1Places_any (A : Option Addr) (c n : Nat) (ps : List Int) (w : World) (B : Nat) (hI : Ints w B A ps) (hl : ps.length ≤ 1073741824) (hn : n ≤ 1073741824) :
    Calls Try.prog 39 #[.slice A ps.length c, .int .i64 n] w fun e w' => e = .returned (.bool (placesB ps n)) ∧ w = w' := by
  go_enter Try.func39, Try.ntmps39
  go_wp2
  go_loop [5] (fun i => ∃ k : Nat, k ≤ ps.length ∧ i = .int .i64 k ∧ (ps.take k).all (fun p => inB p 0 ((n : Int) - 1)) = true) (fun i => ps.length - (intOf i).toNat)
  case atStart => exact ⟨0, Nat.zero_le _, rfl, by simp⟩
  case round =>
    obtain ⟨k, hk, rfl, ha⟩ := hrel
    have HA := Lib.hid ha
    clear ha
    by_cases hlt : k < ps.length
    · obtain ⟨b, off, rfl, hb, hc⟩ := hI (by omega)
      have hck := hc k hlt
      clear hc
      by_cases hf : inB (ix ps k) 0 ((n : Int) - 1) = true
      · have HF := Lib.hid hf
        clear hf
        go_wp2_with (go_at_call 26; refine (l1In_yes _ _ _ _ HF.out).mono ?_; rintro e w' ⟨rfl, rfl⟩)
        go_round
        case rel => exact ⟨k + 1, by omega, by go_num, by rw [all_take_succ _ _ _ hlt, HA.out, HF.out]; rfl⟩
        case measure => simp [intOf]; omega
      · have hf' : inB (ix ps k) 0 ((n : Int) - 1) = false := by simpa using hf
        have HF := Lib.hid hf'
        clear hf hf'
        go_wp2_with (go_at_call 26; refine (l1In_no _ _ _ _ HF.out).mono ?_; rintro e w' ⟨rfl, rfl⟩)
        go_ret
        exact ⟨ret_bool (all_stop _ ps k hlt HF.out).symm, rfl⟩
    · have HR : Hid (placesB ps n = true) := by
        have := HA.out
        rw [List.take_of_length_le (by omega)] at this
        exact this
      go_wp2
      go_ret
      exact ⟨ret_bool HR.out.symm, rfl⟩

theorem l1Places_yes (A : Option Addr) (c n : Nat) (ps : List Int) (w : World) (B : Nat) (hI : Ints w B A ps) (hl : ps.length ≤ 1073741824) (hn : n ≤ 1073741824) (h : placesB ps n = true) :
    Calls Try.prog 39 #[.slice A ps.length c, .int .i64 n] w fun e w' => e = .returned (.bool true) ∧ w = w' := by rw [← h]; exact l1Places_any A c n ps w B hI hl hn
theorem l1Places_no (A : Option Addr) (c n : Nat) (ps : List Int) (w : World) (B : Nat) (hI : Ints w B A ps) (hl : ps.length ≤ 1073741824) (hn : n ≤ 1073741824) (h : placesB ps n = false) :
    Calls Try.prog 39 #[.slice A ps.length c, .int .i64 n] w fun e w' => e = .returned (.bool false) ∧ w = w' := by rw [← h]; exact l1Places_any A c n ps w B hI hl hn

theorem pick_take_succ (zs ps : List Int) (k : Nat) (h : k < ps.length) : pick zs (ps.take (k + 1)) = pick zs (ps.take k) ++ [ix zs (ix ps k).toNat] := by
  unfold pick
  rw [List.take_succ_eq_append_getElem h, List.map_append, ix_eq ps k h]; rfl
theorem pick_take_length (zs ps : List Int) (k : Nat) (h : k ≤ ps.length) : (pick zs (ps.take k)).length = k := by
  simp [pick]; omega
set_option maxRecDepth 100000 in
set_option maxHeartbeats 1000000 in
theorem specPicked_any (A A' : Option Addr) (c c' : Nat) (zs ps : List Int) (w : World) (hI : Ints w w.heap.size A zs) (hI' : Ints w w.heap.size A' ps) (hl : zs.length ≤ 1073741824) (hl' : ps.length ≤ 1073741824) :
    Calls Try.prog 40 #[.slice A zs.length c, .slice A' ps.length c'] w fun e w' => ∃ v, e = .returned v ∧ w'.ownsRow w.heap.size 2 1 v (pickedL zs ps).length (i64l (pickedL zs ps)) ∧ Below w.heap.size w w' := by
  obtain ⟨i0, hi0, hz0, hz1, hz2⟩ := info_parts info_i64
  have hB0 : Below w.heap.size w (w.alloc (.cells #[] 2)) := (Below.refl _ _).alloc (Nat.le_refl _) _
  by_cases hp : placesB ps zs.length = true
  · have HP := Lib.hid hp
    clear hp
    go_enter Try.func40, Try.ntmps40
    go_wp2_with (go_at_call 39; refine (l1Places_yes _ _ _ ps _ w.heap.size (hI'.below hB0) hl' hl HP.out).mono ?_; rintro e w' ⟨rfl, rfl⟩)
    go_loopw [5, 6] (fun v i wr => ∃ k : Nat, k ≤ ps.length ∧ i = .int .i64 k ∧ wr.ownsRow w.heap.size 2 1 v k (i64l (pick zs (ps.take k))) ∧ Below w.heap.size w wr) (fun _ i _ => ps.length - (intOf i).toNat)
    case atStart => exact ⟨0, Nat.zero_le _, rfl, by simpa [pick, i64l] using ownsRow_empty w 2 w.heap.size (Nat.le_refl _), hB0⟩
    case round =>
      obtain ⟨k, hk, rfl, hown, hbel⟩ := hrel
      by_cases hlt : k < ps.length
      · have hin := all_ix HP.out k hlt
        have hin2 : 0 ≤ ix ps k ∧ ix ps k ≤ (zs.length : Int) - 1 := by simpa [inB] using hin
        obtain ⟨q, hq⟩ : ∃ q : Nat, ix ps k = (q : Int) := ⟨(ix ps k).toNat, by omega⟩
        have hqz : q < zs.length := by omega
        have HQ := Lib.hid hq
        obtain ⟨b, off, rfl, hb, hc⟩ := hI (by omega)
        obtain ⟨b', off', rfl, hb', hc'⟩ := hI' (by omega)
        have hcz : wr.cell? ⟨b, off + q, none⟩ = some (.int .i64 (ix zs q)) := (hbel.cell (p := ⟨b, off + q, none⟩) hb).trans (hc q hqz)
        have hcp : wr.cell? ⟨b', off' + k, none⟩ = some (.int .i64 (q : Int)) := by rw [← hq]; exact (hbel.cell (p := ⟨b', off' + k, none⟩) hb').trans (hc' k hlt)
        clear hc hc' hin hin2 hq
        go_wp2_with (at_builtin; refine wpList_append_own _ rfl _ _ 25 rfl w.heap.size 2 i0 (.int .i64 0) 1 8 Try.underlying25 hi0 hz0 hz1 hz2 rfl (by decide) _ _ _ rfl (hown.alloc _) ⟨wr.heap.size, 0, none⟩ 1 1 [.int .i64 (ix zs q)] rfl rfl (cell_one_new _ _ _) (by simp [Value.oneCell']) (by simp only [maxLen]; omega) (by omega) (by have := hbel.size; simp; omega) ?_; intro v' w1 hown1 hgrow1 _)
        have hb1 : Below w.heap.size w w1 := (hbel.alloc hbel.size _).grown hgrow1 (by have := hbel.size; simp; omega) (fun g hg => (hown.lt g hg).1)
        clear hgrow1 hown
        go_roundw
        case rel => exact ⟨k + 1, by omega, by go_num, by rw [pick_take_succ zs ps k hlt, HQ.out, i64l_append]; simpa [i64l] using hown1, hb1⟩
        case measure => simp [intOf]; omega
      · have hk' : k = ps.length := by omega
        have HR : Hid (pickedL zs ps = pick zs (ps.take k)) := by
          show pickedL zs ps = _
          unfold pickedL
          rw [if_pos HP.out, hk', List.take_length]
        go_wp2
        go_ret
        refine ⟨_, rfl, ?_, hbel⟩
        rw [HR.out, pick_take_length zs ps k hk]
        exact hown
  · have hp' : placesB ps zs.length = false := by simpa using hp
    have HP := Lib.hid hp'
    clear hp hp'
    go_enter Try.func40, Try.ntmps40
    go_wp2_with (go_at_call 39; refine (l1Places_no _ _ _ ps _ w.heap.size (hI'.below hB0) hl' hl HP.out).mono ?_; rintro e w' ⟨rfl, rfl⟩)
    go_ret
    refine ⟨_, rfl, ?_, hB0⟩
    unfold pickedL
    rw [HP.out]
    simpa [i64l] using ownsRow_empty w 2 w.heap.size (Nat.le_refl _)

theorem places_no {zs ps : List Int} {k : Nat} (hk : k < ps.length) (h : ix ps k < 0 ∨ (zs.length : Int) ≤ ix ps k) : pickedL zs ps = [] := by
  unfold pickedL
  rw [if_neg]
  intro hp
  have := all_ix hp k hk
  have : 0 ≤ ix ps k ∧ ix ps k ≤ (zs.length : Int) - 1 := by simpa [inB] using this
  omega
theorem places_yes {zs ps : List Int} (h : ∀ j, j < ps.length → 0 ≤ ix ps j ∧ ix ps j < (zs.length : Int)) : pickedL zs ps = pick zs ps := by
  unfold pickedL
  rw [if_pos]
  unfold placesB
  rw [List.all_eq_true]
  intro x hx
  obtain ⟨j, hj, rfl⟩ := List.mem_iff_getElem.1 hx
  have := h j hj
  rw [ix_eq ps j hj] at this
  simp [inB]; omega

set_option maxRecDepth 100000 in
set_option maxHeartbeats 2000000 in
theorem implPicked_any (A A' : Option Addr) (c c' : Nat) (zs ps : List Int) (w : World) (hI : Ints w w.heap.size A zs) (hI' : Ints w w.heap.size A' ps) (hl : zs.length ≤ 1073741824) (hl' : ps.length ≤ 1073741824) :
    Calls Try.prog 36 #[.slice A zs.length c, .slice A' ps.length c'] w fun e w' => ∃ v, e = .returned v ∧ w'.ownsRow w.heap.size 2 1 v (pickedL zs ps).length (i64l (pickedL zs ps)) ∧ Below w.heap.size w w' := by
  obtain ⟨i0, hi0, hz0, hz1, hz2⟩ := info_parts info_i64
  go_enter Try.func36, Try.ntmps36
  go_wp2_with (at_make; refine wpList_make_own _ rfl _ _ 25 rfl w.heap.size 2 i0 (.int .i64 0) 1 Try.underlying25 hi0 hz0 hz1 _ _ _ ps.length rfl rfl rfl (by rw [hz2]; omega) (by simp only [maxLen]; omega) (Nat.le_refl _) ?_; intro w1 hown0 hgrow0)
  have hb0 : Below w.heap.size w w1 := (Below.refl _ _).grown hgrow0 (Nat.le_refl _) (fun _ h => by cases h)
  clear hgrow0
  go_loopw [5, 13] (fun v i wr => ∃ k : Nat, k ≤ ps.length ∧ i = .int .i64 k ∧ (∀ j, j < k → 0 ≤ ix ps j ∧ ix ps j < (zs.length : Int)) ∧ wr.ownsRow w.heap.size 2 1 v k (i64l (pick zs (ps.take k))) ∧ Below w.heap.size w wr) (fun _ i _ => ps.length - (intOf i).toNat)
  case atStart => exact ⟨0, Nat.zero_le _, rfl, fun j h => absurd h (by omega), by simpa [pick, i64l] using hown0, hb0⟩
  case round =>
    obtain ⟨k, hk, rfl, hall, hown, hbel⟩ := hrel
    have HALL := Lib.hid hall
    clear hall hown0 hb0
    by_cases hlt : k < ps.length
    · obtain ⟨b', off', rfl, hb', hc'⟩ := hI' (by omega)
      have hcp : wr.cell? ⟨b', off' + k, none⟩ = some (.int .i64 (ix ps k)) := (hbel.cell (p := ⟨b', off' + k, none⟩) hb').trans (hc' k hlt)
      clear hc'
      by_cases hneg : ix ps k < 0
      · have HR := Lib.hid (places_no hlt (.inl hneg) : pickedL zs ps = [])
        go_wp2
        go_ret
        refine ⟨_, rfl, ?_, hbel.alloc hbel.size _⟩
        rw [HR.out]
        exact ownsRow_empty wr 2 w.heap.size hbel.size
      · by_cases hbig : (zs.length : Int) ≤ ix ps k
        · have HR := Lib.hid (places_no hlt (.inr hbig) : pickedL zs ps = [])
          go_wp2
          go_ret
          refine ⟨_, rfl, ?_, hbel.alloc hbel.size _⟩
          rw [HR.out]
          exact ownsRow_empty wr 2 w.heap.size hbel.size
        · obtain ⟨q, hq⟩ : ∃ q : Nat, ix ps k = (q : Int) := ⟨(ix ps k).toNat, by omega⟩
          have hqz : q < zs.length := by omega
          have HQ := Lib.hid hq
          obtain ⟨b, off, rfl, hb, hc⟩ := hI (by omega)
          have hcz : wr.cell? ⟨b, off + q, none⟩ = some (.int .i64 (ix zs q)) := (hbel.cell (p := ⟨b, off + q, none⟩) hb).trans (hc q hqz)
          rw [hq] at hcp
          have hd1 : decide (zs.length ≤ q) = false := by simp; omega
          clear hc hq hneg hbig
          go_wp2_with (at_builtin; refine wpList_append_own _ rfl _ _ 25 rfl w.heap.size 2 i0 (.int .i64 0) 1 8 Try.underlying25 hi0 hz0 hz1 hz2 rfl (by decide) _ _ _ rfl (hown.alloc _) ⟨wr.heap.size, 0, none⟩ 1 1 [.int .i64 (ix zs q)] rfl rfl (cell_one_new _ _ _) (by simp [Value.oneCell']) (by simp only [maxLen]; omega) (by omega) (by have := hbel.size; simp; omega) ?_; intro v' w1 hown1 hgrow1 _)
          have hb1 : Below w.heap.size w w1 := (hbel.alloc hbel.size _).grown hgrow1 (by have := hbel.size; simp; omega) (fun g hg => (hown.lt g hg).1)
          clear hgrow1 hown
          go_roundw
          case rel => exact ⟨k + 1, by omega, by go_num, fun j hj => (by rcases Nat.lt_or_ge j k with h | h; exact HALL.out j h; obtain rfl : j = k := (by omega); rw [HQ.out]; omega), by rw [pick_take_succ zs ps k hlt, HQ.out, i64l_append]; simpa [i64l] using hown1, hb1⟩
          case measure => simp [intOf]; omega
    · have hk' : k = ps.length := by omega
      have HR : Hid (pickedL zs ps = pick zs (ps.take k)) := by
        show pickedL zs ps = _
        rw [places_yes (by rw [← hk']; exact HALL.out), hk', List.take_length]
      go_wp2
      go_ret
      refine ⟨_, rfl, ?_, hbel⟩
      rw [HR.out, pick_take_length zs ps k hk]
      exact hown
end Go.Proofs.Ytcfnbpofbcendab

/- Contracts of the marks by which a law tells whose memory is whose: markInt64S writes k, k + 1, .. into a slice of its own; heldInt64S reads them back. For slices of at most 2^30 numbers. -/
namespace Go.Proofs.Ytcfnbpofbcendab
open Go.RowKit

end Go.Proofs.Ytcfnbpofbcendab
