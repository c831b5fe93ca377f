/- Texts joined: Bag1, Bag5, Bag2, Bag3, BagI1, BagOwn, CopyRow0, Bag6, BagMark, BagMark2, Sz0, Bag4, BagOpen, RowsRws, RowsRows: contracts and plain facts; each says its own below. -/
import Derived.Test.YtejgofhpjkebbaaDoorJA
import Derived.StillTailTactics
import Derived.Deep.RegionHeld3
import Derived.Deep.AppendLies
import Derived.Deep.DrawnRows
import Derived.Deep.SlicePairs
import Derived.ChangeSlices
import Derived.ProofKit
/- A slice of counts that reads as a bag; contracts of the model's reading functions over bags: TimesIn, BagOk, and of l1Same. Each says what the call returns; no memory has turned. For bags and rows of at most 2^40. -/
namespace Go.Proofs.YtejgofhpjkebbaaDoor
open Go.RowKit

/-- The row and the number at place k (names of their own, so that the walk does not respell them). -/
def rx (bag : List (List Int × Int)) (k : Nat) : List Int := (bag[k]?.getD ([], 0)).1
def nx (bag : List (List Int × Int)) (k : Nat) : Int := (bag[k]?.getD ([], 0)).2
theorem bag_drop (bag : List (List Int × Int)) (k : Nat) (h : k < bag.length) : bag.drop k = (rx bag k, nx bag k) :: bag.drop (k + 1) := by
  have e : (rx bag k, nx bag k) = bag[k] := by simp [rx, nx, h]
  rw [e]; exact List.drop_eq_getElem_cons h
/-- A slice of counts reads as the bag: its cells and its rows lie below B. -/
def Bag (w : World) (B : Nat) (A : Option Addr) (bag : List (List Int × Int)) : Prop :=
  0 < bag.length → ∃ b off, A = some ⟨b, off, none⟩ ∧ b < B ∧ ∀ j, j < bag.length → ∃ Ar cap, w.cell? ⟨b, off + j * 2, none⟩ = some (.slice Ar (rx bag j).length cap) ∧ w.cell? ⟨b, off + j * 2 + 1, none⟩ = some (.int .i64 (nx bag j)) ∧ Ints w B Ar (rx bag j) ∧ (rx bag j).length ≤ 1099511627776
theorem Bag.keep {w w' : World} {B : Nat} {A : Option Addr} {bag : List (List Int × Int)} (h : Bag w B A bag) (hk : ∀ p : Addr, p.block < B → w'.cell? p = w.cell? p) : Bag w' B A bag := fun hn => by
  obtain ⟨b, off, e, hb, hc⟩ := h hn
  refine ⟨b, off, e, hb, fun j hj => ?_⟩
  obtain ⟨Ar, cap, h1, h2, h3, h4⟩ := hc j hj
  exact ⟨Ar, cap, (hk _ hb).trans h1, (hk _ hb).trans h2, h3.keep hk, h4⟩
theorem Bag.below {w w' : World} {B : Nat} {A : Option Addr} {bag : List (List Int × Int)} (h : Bag w B A bag) (hb : Below B w w') : Bag w' B A bag := h.keep fun _ hp => hb.cell hp
theorem Bag.more {w : World} {B B' : Nat} {A : Option Addr} {bag : List (List Int × Int)} (h : Bag w B A bag) (hB : B ≤ B') : Bag w B' A bag := fun hn => by
  obtain ⟨b, off, e, hb, hc⟩ := h hn
  refine ⟨b, off, e, by omega, fun j hj => ?_⟩
  obtain ⟨Ar, cap, h1, h2, h3, h4⟩ := hc j hj
  exact ⟨Ar, cap, h1, h2, h3.more hB, h4⟩
theorem Bag.on {w w' : World} {A : Option Addr} {bag : List (List Int × Int)} (h : Bag w w.heap.size A bag) (hb : Below w.heap.size w w') : Bag w' w'.heap.size A bag := (h.below hb).more hb.size
theorem Bag.drewN {w : World} {B : Nat} {A : Option Addr} {bag : List (List Int × Int)} (h : Bag w B A bag) (k : Nat) : Bag (w.drewN k) B A bag := h

theorem drew_more {w wr : World} (h : ∃ n, wr = w.drewN n) (m : Nat) : ∃ n, wr.drewN m = w.drewN n := by
  obtain ⟨n, rfl⟩ := h
  exact ⟨n + m, World.drewN_drewN ..⟩
theorem quiet_same {P : Program} {f : FuncId} {args : Array Value} {w : World} {n : Nat} {v : Value}
    (h : Calls P f args (w.drewN n) fun e w' => e = .returned v ∧ w.drewN n = w') : Calls P f args (w.drewN n) fun e w'' => e = .returned v ∧ ∃ m, w'' = w.drewN m :=
  h.mono fun _ _ ⟨he, hm⟩ => ⟨he, n, hm.symm⟩
theorem less_same_iff (a b : List Int) : (!lessB a b && !lessB b a) = decide (a = b) := by
  have key : ∀ a b : List Int, (a = b ∧ lessB a b = false ∧ lessB b a = false) ∨ (a ≠ b ∧ (lessB a b = true ∨ lessB b a = true)) := by
    intro a
    induction a with
    | nil => intro b; cases b with
      | nil => exact .inl ⟨rfl, rfl, rfl⟩
      | cons y ys => exact .inr ⟨by simp, .inl rfl⟩
    | cons x xs ih => intro b; cases b with
      | nil => exact .inr ⟨by simp, .inr rfl⟩
      | cons y ys =>
        by_cases e : x = y
        · subst e
          have := ih ys
          simpa [lessB] using this
        · have e' : ¬ y = x := fun h => e h.symm
          simp only [lessB, if_neg e, if_neg e']
          right
          refine ⟨by simp [e], ?_⟩
          simp; omega
  rcases key a b with ⟨h, h1, h2⟩ | ⟨h, h1 | h1⟩
  · rw [h1, h2, decide_eq_true h]; rfl
  · rw [h1, decide_eq_false h]; rfl
  · rw [h1, decide_eq_false h]; simp

def timesL : List (List Int × Int) → List Int → Int
  | [], _ => 0
  | (r, n) :: bs, row => if r = row then n else timesL bs row
theorem times_yes {bag : List (List Int × Int)} {row : List Int} {k : Nat} (h : k < bag.length) (e : rx bag k = row) : timesL (bag.drop k) row = nx bag k := by
  rw [bag_drop bag k h, timesL, if_pos e]
theorem times_no {bag : List (List Int × Int)} {row : List Int} {k : Nat} (h : k < bag.length) (e : ¬ rx bag k = row) : timesL (bag.drop k) row = timesL (bag.drop (k + 1)) row := by
  rw [bag_drop bag k h, timesL, if_neg e]

/-- Whether the counts are as a bag's, behind a row. -/
def okFrom : Option (List Int) → List (List Int × Int) → Bool
  | _, [] => true
  | p, (r, n) :: bs => rowOkB r && (n != 0) && inB n (-1000000) 1000000 && (match p with | none => true | some q => lessB q r) && okFrom (some r) bs
def bagOkB (bag : List (List Int × Int)) : Bool := okFrom none bag && decide (bag.length ≤ 300)

/-- The row before place k. -/
def prevRow (bag : List (List Int × Int)) : Nat → Option (List Int)
  | 0 => none
  | k + 1 => some (rx bag k)
theorem ok_step {bag : List (List Int × Int)} {k : Nat} (h : k < bag.length) : okFrom (prevRow bag k) (bag.drop k) = (rowOkB (rx bag k) && (nx bag k != 0) && inB (nx bag k) (-1000000) 1000000 && (match prevRow bag k with | none => true | some q => lessB q (rx bag k)) && okFrom (prevRow bag (k + 1)) (bag.drop (k + 1))) := by
  rw [bag_drop bag k h]; rfl
theorem bag_not {bag : List (List Int × Int)} (h : okFrom none bag = false) : bagOkB bag = false := by unfold bagOkB; rw [h]; rfl

end Go.Proofs.YtejgofhpjkebbaaDoor

/- The contract of the model's copy of a row: new memory, the same numbers; nothing that lay has turned. For rows of at most 2^40. -/
namespace Go.Proofs.YtejgofhpjkebbaaDoor
open Go.RowKit

theorem reads_ints {w : World} {B : Nat} {A : Option Addr} {zs : List Int} (h : Ints w B A zs) : Reads w B 1 A zs.length (i64l zs) := by
  refine ⟨by rw [i64l_length, Nat.mul_one], fun hn => ?_⟩
  obtain ⟨b, off, e, hb, hc⟩ := h hn
  refine ⟨_, e, hb, fun j u hu => ?_⟩
  have hj : j < zs.length := by
    rcases Nat.lt_or_ge j zs.length with hj | hj
    · exact hj
    · rw [List.getElem?_eq_none (by rw [i64l_length]; exact hj)] at hu; cases hu
  have ea : Addr.add ⟨b, off, none⟩ j = ⟨b, off + j, none⟩ := by unfold Addr.add; split <;> simp_all
  rw [ea, hc j hj, ← hu]
  simp [i64l, ix, hj]
theorem i64l_one (zs : List Int) : ∀ u ∈ i64l zs, u.oneCell' = true := by
  intro u hu
  obtain ⟨y, _, rfl⟩ := List.mem_map.1 hu
  rfl
end Go.Proofs.YtejgofhpjkebbaaDoor

/- Contracts of the laws' comparison of bags: whether they are the same; nothing that lay has turned. For bags and rows of at most 2^40. -/
namespace Go.Proofs.YtejgofhpjkebbaaDoor
open Go.RowKit

theorem bag_ix {bag : List (List Int × Int)} {k : Nat} (h : k < bag.length) : bag[k] = (rx bag k, nx bag k) := by simp [rx, nx, h]
theorem bag_take_ext {b1 b2 : List (List Int × Int)} {k : Nat} (h : k < b1.length) (h' : k < b2.length) (ht : b1.take k = b2.take k) (e : (rx b1 k, nx b1 k) = (rx b2 k, nx b2 k)) : b1.take (k + 1) = b2.take (k + 1) := by
  rw [List.take_succ_eq_append_getElem h, List.take_succ_eq_append_getElem h', ht, bag_ix h, bag_ix h', e]

end Go.Proofs.YtejgofhpjkebbaaDoor

/- A bag in memory of the call's own: its counts begin one block, its rows each begin another; the contract of the laws' copying of a bag. -/
namespace Go.Proofs.YtejgofhpjkebbaaDoor
open Go.RowKit

/-- No two rows share a block; all lie at base or behind. -/
def Apart (base : Nat) (bag : List (List Int × Int)) (gs : Nat → Nat) : Prop :=
  (∀ j, j < bag.length → 0 < (rx bag j).length → base ≤ gs j) ∧ ∀ i j, i < j → j < bag.length → 0 < (rx bag i).length → 0 < (rx bag j).length → gs i ≠ gs j
end Go.Proofs.YtejgofhpjkebbaaDoor

/- Contracts of the program's reading functions over bags: slices.Equal at rows, timesOk, TimesIn, BagOk. Each says what the call returns; nothing that lay has turned. For bags and rows of at most 2^40. -/
namespace Go.Proofs.YtejgofhpjkebbaaDoor
open Go.RowKit

theorem bag_long {bag : List (List Int × Int)} (h : ¬ bag.length ≤ 300) : bagOkB bag = false := by unfold bagOkB; rw [decide_eq_false h]; simp
end Go.Proofs.YtejgofhpjkebbaaDoor

/- A bag in memory of the call's own, count by count: words and laws; how it grows by a count; how it reads. No condition; of the program only the types of counts and numbers are named. -/
namespace Go.Proofs.YtejgofhpjkebbaaDoor
open Go.RowKit

/-- A count in own memory: the row r (at A, of capacity c, in block g) and its number n. -/
structure Ent where
  r : List Int
  n : Int
  A : Option Addr
  c : Nat
  g : Nat
def Ent.pair (e : Ent) : List Int × Int := (e.r, e.n)
def Ent.cells (e : Ent) : List Value := [.slice e.A e.r.length e.c, .int .i64 e.n]
def entCells : List Ent → List Value
  | [] => []
  | e :: es => e.cells ++ entCells es
theorem entCells_length (es : List Ent) : (entCells es).length = es.length * 2 := by
  induction es with
  | nil => rfl
  | cons e es ih => simp [entCells, Ent.cells, ih]; omega
theorem entCells_append (es fs : List Ent) : entCells (es ++ fs) = entCells es ++ entCells fs := by
  induction es with
  | nil => rfl
  | cons e es ih => simp [entCells, ih]
theorem entCells_take (es : List Ent) (k : Nat) (h : k ≤ es.length) : (entCells es).take (k * 2) = entCells (es.take k) := by
  have e1 : entCells es = entCells (es.take k) ++ entCells (es.drop k) := by rw [← entCells_append, List.take_append_drop]
  rw [e1, List.take_append_of_le_length (by rw [entCells_length]; simp; omega), List.take_of_length_le (by rw [entCells_length]; simp; omega)]
theorem entCells_drop (es : List Ent) (k : Nat) (h : k ≤ es.length) : (entCells es).drop (k * 2) = entCells (es.drop k) := by
  have e1 : entCells es = entCells (es.take k) ++ entCells (es.drop k) := by rw [← entCells_append, List.take_append_drop]
  rw [e1, List.drop_append_of_le_length (by rw [entCells_length]; simp; omega), List.drop_of_length_le (by rw [entCells_length]; simp; omega)]; rfl
theorem entCells_get0 : ∀ (es : List Ent) (k : Nat) (h : k < es.length), (entCells es)[k * 2]? = some (.slice es[k].A es[k].r.length es[k].c)
  | e :: es, 0, _ => rfl
  | e :: es, k + 1, h => by
    have := entCells_get0 es k (by simpa using h)
    rw [show (k + 1) * 2 = k * 2 + 2 by omega]
    simpa [entCells, Ent.cells] using this
theorem entCells_get1 : ∀ (es : List Ent) (k : Nat) (h : k < es.length), (entCells es)[k * 2 + 1]? = some (.int .i64 es[k].n)
  | e :: es, 0, _ => rfl
  | e :: es, k + 1, h => by
    have := entCells_get1 es k (by simpa using h)
    rw [show (k + 1) * 2 + 1 = k * 2 + 1 + 2 by omega]
    simpa [entCells, Ent.cells] using this
theorem entCells_one (es : List Ent) : ∀ u ∈ entCells es, u.oneCell' = true := by
  induction es with
  | nil => intro u hu; cases hu
  | cons e es ih =>
    intro u hu
    simp only [entCells, Ent.cells, List.mem_append, List.mem_cons, List.not_mem_nil, or_false] at hu
    rcases hu with (rfl | rfl) | hu
    · rfl
    · rfl
    · exact ih u hu

/-- The rows of es lie each in a block of its own, at lo or behind, none of them the block 'no'. -/
def EntsAt (w : World) (lo : Nat) (no : Option Nat) (es : List Ent) : Prop :=
  (∀ e ∈ es, Row w 2 e.A e.r e.g ∧ (0 < e.r.length → lo ≤ e.g ∧ some e.g ≠ no)) ∧ es.Pairwise fun a b => 0 < a.r.length → 0 < b.r.length → a.g ≠ b.g
/-- All blocks of it lie below hi. -/
def Inside (hi : Nat) (v : Value) (es : List Ent) : Prop := (∀ g, v.ownBlock = some g → g < hi) ∧ ∀ e ∈ es, 0 < e.r.length → e.g < hi

theorem Row.keepB {w w' : World} {t : TypeId} {A : Option Addr} {zs : List Int} {g : Nat} (h : Row w t A zs g) (hk : 0 < zs.length → w'.heap[g]? = w.heap[g]?) : Row w' t A zs g := fun hn => by
  obtain ⟨hA, cur, hc, hj⟩ := h hn
  exact ⟨hA, cur, (hk hn).trans hc, hj⟩
theorem own_keepB {w w' : World} {base : Nat} {e : TypeId} {size : Nat} {v : Value} {n : Nat} {xs : List Value} (h : w.ownsRow base e size v n xs) (hk : ∀ g, v.ownBlock = some g → w'.heap[g]? = w.heap[g]?) : w'.ownsRow base e size v n xs := by
  refine ⟨h.1, ?_⟩
  rcases h.2 with h2 | ⟨g, cap, cur, rfl, h4, h5, h6⟩
  · exact .inl h2
  · exact .inr ⟨g, cap, cur, rfl, h4, (hk g rfl).trans h5, h6⟩
theorem rx_map {es : List Ent} {j : Nat} (h : j < es.length) : rx (es.map Ent.pair) j = es[j].r := by simp [rx, h, Ent.pair]
theorem nx_map {es : List Ent} {j : Nat} (h : j < es.length) : nx (es.map Ent.pair) j = es[j].n := by simp [nx, h, Ent.pair]
end Go.Proofs.YtejgofhpjkebbaaDoor

/- Contracts of the copying of rows: the model's l1Row, the program's copyOfRow; an own bag that grows by a count behind a copied row. For rows of at most 2^40. -/
namespace Go.Proofs.YtejgofhpjkebbaaDoor
open Go.RowKit

set_option maxRecDepth 100000 in
set_option maxHeartbeats 1000000 in
theorem copyOfRow_any (A : Option Addr) (c : Nat) (zs : List Int) (w : World) (hI : Ints w w.heap.size A zs) (hl : zs.length ≤ 1099511627776) :
    Calls Tryd.prog 68 #[.slice A zs.length c] w fun e w' => ∃ v, e = .returned v ∧ w'.ownsRow w.heap.size 2 1 v zs.length (i64l zs) ∧ Below w.heap.size w w' := by
  obtain ⟨i0, hi0, hz0, hz1, hz2⟩ := info_parts info_i64
  have hE := ownsRow_empty w 2 w.heap.size (Nat.le_refl _)
  have hR := (reads_ints hI).alloc (Nat.le_refl _) (.cells #[] 2)
  have b1 := (Below.refl w.heap.size w).alloc (Nat.le_refl _) (.cells #[] 2)
  go_enter Tryd.func68, Tryd.ntmps68
  go_wp2_with (at_builtin; refine wpList_append_any _ rfl (.tmp 3) (.tmp 4) 40 rfl w.heap.size 2 i0 (.int .i64 0) 1 8 Tryd.underlying40 hi0 hz0 hz1 hz2 rfl (by decide) _ _ _ rfl hE _ A zs.length c (i64l zs) rfl hR (i64l_one _) (by simp only [maxLen]; omega) (by omega) (by simp) ?_; intro v5 w5 hown5 hg5 hat5)
  simp only [Nat.zero_add, List.nil_append] at hown5
  have hr5 : ∀ k, (Value.slice (some ⟨w.heap.size, 0, none⟩) 0 0).ownBlock = some k → w.heap.size ≤ k := fun k e => by
    have : w.heap.size = k := Option.some.inj e
    omega
  have hb5 := b1.grown hg5 (by simp) hr5
  go_ret
  exact ⟨_, rfl, hown5, hb5⟩

/-- A row copied so lies in a block of its own. -/
theorem rowAt_of_own {w : World} {base : Nat} {v : Value} {zs : List Int} (h : w.ownsRow base 2 1 v zs.length (i64l zs)) : ∃ A cap g, v = .slice A zs.length cap ∧ base ≤ g ∧ Row w 2 A zs g := Row.of_own h

/-- What a copy of a row leaves: a slice of as many numbers in a block of its own. -/
def CopyRow (zs : List Int) (w : World) (e : Ending) (w' : World) : Prop :=
  ∃ A cap g, e = .returned (.slice A zs.length cap) ∧ w.heap.size ≤ g ∧ Row w' 2 A zs g ∧ Below w.heap.size w w'
theorem copyOfRow_row (A : Option Addr) (c : Nat) (zs : List Int) (w : World) (hI : Ints w w.heap.size A zs) (hl : zs.length ≤ 1099511627776) :
    Calls Tryd.prog 68 #[.slice A zs.length c] w (CopyRow zs w) :=
  (copyOfRow_any A c zs w hI hl).mono fun _ _ ⟨_, he, hown, hb⟩ => by
    obtain ⟨A, cap, g, rfl, h1, h2⟩ := rowAt_of_own hown
    exact ⟨A, cap, g, he, h1, h2, hb⟩

theorem reads_new2 (w : World) (t : TypeId) (u0 u1 : Value) : Reads (w.alloc (.cells #[u0, u1] t)) (w.heap.size + 1) 2 (some ⟨w.heap.size, 0, none⟩) 1 [u0, u1] := by
  refine ⟨rfl, fun _ => ⟨_, rfl, Nat.lt_succ_self _, fun j u hu => ?_⟩⟩
  have hB := Blk.new w t #[u0, u1]
  have ea : Addr.add ⟨w.heap.size, 0, none⟩ j = ⟨w.heap.size, 0 + j, none⟩ := by unfold Addr.add; split <;> simp_all
  rw [ea, Nat.zero_add, hB.cell j, ← hu]
  simp

theorem pair_snoc {bag : List (List Int × Int)} {es : List Ent} {k : Nat} {A1 : Option Addr} {cap1 g1 : Nat} (he : es.map Ent.pair = bag.take k) (h : k < bag.length) : (es ++ [(⟨rx bag k, nx bag k, A1, cap1, g1⟩ : Ent)]).map Ent.pair = bag.take (k + 1) := by
  rw [List.map_append, he, List.take_succ_eq_append_getElem h, bag_ix h]; rfl

theorem far_cell {wd w1 w2 : World} {o : Obj} {row : Option Nat} {p : Addr} (hb1 : Below wd.heap.size wd w1) (hg : (w1.alloc o).grownBy w2 row) (hp : p.block < wd.heap.size) (hne : some p.block ≠ row) : w2.cell? p = wd.cell? p := by
  have h1 : p.block < w1.heap.size := Nat.lt_of_lt_of_le hp hb1.size
  have e1 : w2.heap[p.block]? = (w1.alloc o).heap[p.block]? := hg.block _ (by rw [World.size_alloc]; omega) hne
  rw [World.cell?_of_block e1, World.cell?_alloc_lt w1 o p h1]
  exact hb1.cell hp

end Go.Proofs.YtejgofhpjkebbaaDoor

/- One more of a row in a bag: the plain words (placeL, withL), and laws on own bags: a number set, counts left out, a cut of the counts. No condition; nothing of the program is named but its types. -/
namespace Go.Proofs.YtejgofhpjkebbaaDoor
open Go.RowKit

def addW (a b : Int) : Int := IntKind.i64.wrap (a + b)
theorem addW_comm (a b : Int) : addW a b = addW b a := by unfold addW; rw [Int.add_comm]
/-- How many at the front are less than the row. -/
def placeL : List (List Int × Int) → List Int → Nat
  | [], _ => 0
  | (r, _) :: bs, row => if lessB r row = true then placeL bs row + 1 else 0
theorem place_le (bag : List (List Int × Int)) (row : List Int) : placeL bag row ≤ bag.length := by
  induction bag with
  | nil => exact Nat.le_refl _
  | cons p bs ih => simp only [placeL, List.length_cons]; split <;> omega
theorem place_yes {bag : List (List Int × Int)} {row : List Int} {k : Nat} (h : k < bag.length) (e : lessB (rx bag k) row = true) : placeL (bag.drop k) row = placeL (bag.drop (k + 1)) row + 1 := by
  rw [bag_drop bag k h, placeL, if_pos e]
theorem place_no {bag : List (List Int × Int)} {row : List Int} {k : Nat} (h : k < bag.length) (e : lessB (rx bag k) row = false) : placeL (bag.drop k) row = 0 := by
  rw [bag_drop bag k h, placeL, if_neg (by simp [e])]
theorem place_end {bag : List (List Int × Int)} {row : List Int} {k : Nat} (h : ¬ k < bag.length) : placeL (bag.drop k) row = 0 := by
  rw [List.drop_of_length_le (by omega)]; rfl

/-- n more of the row. -/
def withL (bag : List (List Int × Int)) (row : List Int) (n : Int) : List (List Int × Int) :=
  if placeL bag row < bag.length ∧ rx bag (placeL bag row) = row then
    (if addW (nx bag (placeL bag row)) n = 0 then bag.take (placeL bag row) ++ bag.drop (placeL bag row + 1)
     else bag.take (placeL bag row) ++ (row, addW (nx bag (placeL bag row)) n) :: bag.drop (placeL bag row + 1))
  else if n = 0 then bag else bag.take (placeL bag row) ++ (row, n) :: bag.drop (placeL bag row)
section
variable {bag : List (List Int × Int)} {row : List Int} {n : Int} {k : Nat}
theorem withL_gone (hk : placeL bag row = k) (h : k < bag.length) (e : rx bag k = row) (h0 : addW (nx bag k) n = 0) : withL bag row n = bag.take k ++ bag.drop (k + 1) := by
  subst hk; unfold withL; rw [if_pos ⟨h, e⟩, if_pos h0]
theorem withL_same (hk : placeL bag row = k) (h : k < bag.length) (e : rx bag k = row) (h0 : ¬ addW (nx bag k) n = 0) : withL bag row n = bag.take k ++ (row, addW (nx bag k) n) :: bag.drop (k + 1) := by
  subst hk; unfold withL; rw [if_pos ⟨h, e⟩, if_neg h0]
theorem withL_none (hk : placeL bag row = k) (h : ¬ (k < bag.length ∧ rx bag k = row)) (h0 : n = 0) : withL bag row n = bag := by
  subst hk; unfold withL; rw [if_neg h, if_pos h0]
theorem withL_new (hk : placeL bag row = k) (h : ¬ (k < bag.length ∧ rx bag k = row)) (h0 : ¬ n = 0) : withL bag row n = bag.take k ++ (row, n) :: bag.drop k := by
  subst hk; unfold withL; rw [if_neg h, if_neg h0]
theorem withL_length : (withL bag row n).length ≤ bag.length + 1 := by
  have hp := place_le bag row
  unfold withL
  split
  · split <;> simp <;> omega
  · split <;> simp <;> omega
end

theorem entCells_setN : ∀ (es : List Ent) (k : Nat) (h : k < es.length) (m : Int), entCells (es.set k { es[k] with n := m }) = (entCells es).set (k * 2 + 1) (.int .i64 m)
  | e :: es, 0, _, _ => by simp [entCells, Ent.cells]
  | e :: es, k + 1, h, m => by
    have := entCells_setN es k (by simpa using h) m
    rw [show (k + 1) * 2 + 1 = k * 2 + 1 + 2 by omega]
    simpa [entCells, Ent.cells] using this
theorem mem_setN {es : List Ent} {k : Nat} {h : k < es.length} {m : Int} {e : Ent} (he : e ∈ es.set k { es[k] with n := m }) : ∃ f ∈ es, f.r = e.r ∧ f.A = e.A ∧ f.g = e.g := by
  rcases List.mem_or_eq_of_mem_set he with h1 | h1
  · exact ⟨e, h1, rfl, rfl, rfl⟩
  · subst h1; exact ⟨es[k], List.getElem_mem h, rfl, rfl, rfl⟩
theorem pair_setN {es : List Ent} {k : Nat} (hk : k < es.length) (m : Int) : (es.set k { es[k] with n := m }).map Ent.pair = (es.map Ent.pair).take k ++ (rx (es.map Ent.pair) k, m) :: (es.map Ent.pair).drop (k + 1) := by
  rw [rx_map hk, List.set_eq_take_append_cons_drop, if_pos hk]
  simp [Ent.pair]

end Go.Proofs.YtejgofhpjkebbaaDoor

/- The marks by which a law tells whose memory a bag is: contracts of markCountS and heldCountS over own bags; what the marking leaves alone. For bags and rows of at most 2^21. -/
namespace Go.Proofs.YtejgofhpjkebbaaDoor
open Go.RowKit

/-- Only blocks from lo to hi have turned. -/
structure Within (lo hi : Nat) (w w' : World) : Prop where
  os : w'.os = w.os
  tape : w'.tape = w.tape
  output : w'.output = w.output
  size : w.heap.size ≤ w'.heap.size
  block : ∀ b, b < w.heap.size → ¬ (lo ≤ b ∧ b < hi) → w'.heap[b]? = w.heap[b]?
theorem Within.refl (lo hi : Nat) (w : World) : Within lo hi w w := ⟨rfl, rfl, rfl, Nat.le_refl _, fun _ _ _ => rfl⟩
theorem Within.trans {lo hi : Nat} {a b c : World} (h : Within lo hi a b) (k : Within lo hi b c) : Within lo hi a c :=
  ⟨k.os.trans h.os, k.tape.trans h.tape, k.output.trans h.output, Nat.le_trans h.size k.size, fun i hi hn => (k.block i (Nat.lt_of_lt_of_le hi h.size) hn).trans (h.block i hi hn)⟩
theorem Within.of_grown {lo hi g : Nat} {w w' : World} (h : w.grownBy w' (some g)) (hg : (lo ≤ g ∧ g < hi) ∨ w.heap.size ≤ g) : Within lo hi w w' :=
  ⟨h.os, h.tape, h.output, h.size, fun b hb hn => h.block b hb (fun e => by injection e with e; subst e; rcases hg with hg | hg; exact hn hg; omega)⟩
theorem Within.setCell {lo hi : Nat} {w w' : World} (h : Within lo hi w w') {p : Addr} (hp : lo ≤ p.block ∧ p.block < hi) (v : Value) : Within lo hi w (w'.setCell p v) :=
  ⟨h.os, h.tape, h.output, by simpa [World.setCell] using h.size, fun b hb hn => (Below.heap_setCell w' p v b (fun e => hn (by rw [e]; exact hp))).trans (h.block b hb hn)⟩
theorem Within.bel {lo hi : Nat} {w w' : World} (h : Within lo hi w w') (hlo : lo ≤ w.heap.size) : Below lo w w' := ⟨h.os, h.tape, h.output, h.size, fun b hb => h.block b (by omega) (by omega)⟩
theorem Within.wide {lo hi lo' hi' : Nat} {w w' : World} (h : Within lo hi w w') (h1 : lo' ≤ lo) (h2 : hi ≤ hi') : Within lo' hi' w w' := ⟨h.os, h.tape, h.output, h.size, fun b hb hn => h.block b hb (by omega)⟩

theorem Blk.within {w w' : World} {g lo hi : Nat} {t : TypeId} {cs : Array Value} (h : Blk w g t cs) (hw : Within lo hi w w') (ha : g < lo ∨ hi ≤ g) : Blk w' g t cs := (hw.block g h.lt (by omega)).trans h
/-- The mark that the count at place i begins with. -/
def rl (es : List Ent) (i : Nat) : Nat := (es[i]?.map fun e => e.r.length).getD 0
def kAt (k : Int) (es : List Ent) : Nat → Int
  | 0 => k
  | i + 1 => kAt k es i + (rl es i : Int) + 1
theorem rl_eq {es : List Ent} {i : Nat} (h : i < es.length) : rl es i = es[i].r.length := by simp [rl, h]
theorem rl_le {es : List Ent} {m : Nat} (hm : ∀ e ∈ es, e.r.length ≤ m) (i : Nat) : rl es i ≤ m := by
  by_cases h : i < es.length
  · rw [rl_eq h]; exact hm _ (List.getElem_mem h)
  · simp [rl, List.getElem?_eq_none (Nat.le_of_not_lt h)]
theorem kAt_bd {k : Int} {es : List Ent} {m : Nat} (hm : ∀ e ∈ es, e.r.length ≤ m) (i : Nat) : k ≤ kAt k es i ∧ kAt k es i ≤ k + (i : Int) * ((m : Int) + 1) := by
  induction i with
  | zero => simp [kAt]
  | succ i ih =>
    have := rl_le hm i
    simp only [kAt]
    constructor
    · omega
    · have e : ((i + 1 : Nat) : Int) * ((m : Int) + 1) = (i : Int) * ((m : Int) + 1) + ((m : Int) + 1) := by rw [Int.natCast_add, Int.add_mul]; simp
      omega
/-- The first i counts marked. -/
def markTo (k : Int) (es : List Ent) (i : Nat) : List Ent := es.mapIdx fun j e => if j < i then { e with r := marks (kAt k es j) e.r.length, n := kAt k es j + (e.r.length : Int) } else e
theorem markTo_length (k : Int) (es : List Ent) (i : Nat) : (markTo k es i).length = es.length := by simp [markTo]
theorem markTo_get {k : Int} {es : List Ent} {i j : Nat} (h : j < es.length) (h' : j < (markTo k es i).length) : (markTo k es i)[j] = if j < i then { es[j] with r := marks (kAt k es j) es[j].r.length, n := kAt k es j + (es[j].r.length : Int) } else es[j] := by simp [markTo]
theorem markTo_zero (k : Int) (es : List Ent) : markTo k es 0 = es := by
  apply List.ext_getElem
  · simp [markTo]
  · intro j h1 h2
    rw [markTo_get h2]; simp
theorem markTo_step {k : Int} {es : List Ent} {i : Nat} (h : i < es.length) (h' : i < (markTo k es i).length) :
    markTo k es (i + 1) = ((markTo k es i).set i { (markTo k es i)[i] with r := marks (kAt k es i) es[i].r.length }).set i { es[i] with r := marks (kAt k es i) es[i].r.length, n := kAt k es i + (es[i].r.length : Int) } := by
  apply List.ext_getElem
  · simp [markTo]
  · intro j h1 h2
    have hj : j < es.length := by simpa [markTo] using h1
    rw [markTo_get hj, List.getElem_set]
    by_cases e : i = j
    · subst e; simp
    · rw [if_neg e, List.getElem_set, if_neg e, markTo_get hj (by simpa [markTo] using hj)]
      by_cases hlt : j < i
      · rw [if_pos (by omega), if_pos hlt]
      · rw [if_neg (by omega), if_neg hlt]

theorem entCells_setR : ∀ (es : List Ent) (i : Nat) (h : i < es.length) (r : List Int), r.length = es[i].r.length → entCells (es.set i { es[i] with r := r }) = entCells es
  | e :: es, 0, _, r, hr => by
    have hr' : r.length = e.r.length := hr
    simp [entCells, Ent.cells, hr']
  | e :: es, i + 1, h, r, hr => by
    have := entCells_setR es i (by simpa using h) r (by simpa using hr)
    simpa [entCells] using this
end Go.Proofs.YtejgofhpjkebbaaDoor

/- Contracts of markCountS and heldCountS: an own bag marked whole, only its own blocks turned; the marks read back. For bags and rows of at most 2^21. -/
namespace Go.Proofs.YtejgofhpjkebbaaDoor
open Go.RowKit

theorem markTo_gr {k : Int} {es : List Ent} {i j : Nat} (h : j < es.length) (h' : j < (markTo k es i).length) : (markTo k es i)[j].g = es[j].g ∧ (markTo k es i)[j].r.length = es[j].r.length := by
  rw [markTo_get h h']; split <;> simp [marks_length]
theorem kAt_fit {k : Int} {es : List Ent} (hk0 : 0 ≤ k) (hk1 : k ≤ 1000) (hm : ∀ e ∈ es, e.r.length ≤ 2097152) (i : Nat) (hi : i ≤ 2097152) : 0 ≤ kAt k es i ∧ kAt k es i ≤ 4398048609256 := by
  have := kAt_bd (k := k) hm i
  have e : (((2097152 : Nat) : Int) + 1) = 2097153 := rfl
  rw [e] at this
  omega

theorem held_rx {k : Int} {es : List Ent} {j : Nat} (h : j < es.length) : rx ((markTo k es es.length).map Ent.pair) j = marks (kAt k es j) es[j].r.length ∧ nx ((markTo k es es.length).map Ent.pair) j = kAt k es j + (es[j].r.length : Int) := by
  have hj : j < (markTo k es es.length).length := by rw [markTo_length]; exact h
  rw [rx_map hj, nx_map hj, markTo_get h hj, if_pos h]
  exact ⟨rfl, rfl⟩
end Go.Proofs.YtejgofhpjkebbaaDoor

/- The laws' sizing of a slice of numbers: what is left, or -1; nothing that lay has turned. -/
namespace Go.Proofs.YtejgofhpjkebbaaDoor
open Go.RowKit

def szI (n : Nat) (left : Int) : Int := if left - (n : Int) < 0 then -1 else left - (n : Int)
set_option maxHeartbeats 1000000 in
theorem szInt64S_any (A : Option Addr) (n c : Nat) (left : Int) (w : World) (hn : n ≤ maxLen) (h0 : 0 ≤ left) (h1 : left ≤ 1048576) :
    Calls Tryd.prog 29 #[.slice A n c, .int .i64 left] w fun e w' => e = .returned (.int .i64 (szI n left)) ∧ w = w' := by
  unfold maxLen at hn
  by_cases h : left - (n : Int) < 0
  · have e : szI n left = -1 := by unfold szI; rw [if_pos h]
    rw [e]
    go_enter Tryd.func29, Tryd.ntmps29
    go_wp2
    go_ret
    exact ⟨rfl, rfl⟩
  · have e : szI n left = left - (n : Int) := by unfold szI; rw [if_neg h]
    rw [e]
    go_enter Tryd.func29, Tryd.ntmps29
    go_wp2
    go_ret
    exact ⟨rfl, rfl⟩
theorem szI_le {n : Nat} {left : Int} (h : 0 ≤ szI n left) : (n : Int) ≤ left ∧ szI n left ≤ left := by
  unfold szI at h ⊢
  split at h
  · omega
  · rename_i h2
    rw [if_neg h2]; omega
theorem szI_no {n : Nat} {left : Int} (h : szI n left < 0) : szI n left = -1 := by
  unfold szI at h ⊢
  split at h
  · rename_i h2; rw [if_pos h2]
  · omega

end Go.Proofs.YtejgofhpjkebbaaDoor

/- Contracts of the laws' sizing of bags: if what is left is not below 0, the bag and each of its rows are at most as long as what was there; nothing that lay has turned. -/
namespace Go.Proofs.YtejgofhpjkebbaaDoor
open Go.RowKit

/-- A slice of counts as it came in: rows of whatever length a machine can hold. -/
def RawBag (w : World) (B : Nat) (A : Option Addr) (bag : List (List Int × Int)) : Prop :=
  0 < bag.length → ∃ b off, A = some ⟨b, off, none⟩ ∧ b < B ∧ ∀ j, j < bag.length → ∃ Ar cap, w.cell? ⟨b, off + j * 2, none⟩ = some (.slice Ar (rx bag j).length cap) ∧ w.cell? ⟨b, off + j * 2 + 1, none⟩ = some (.int .i64 (nx bag j)) ∧ Ints w B Ar (rx bag j) ∧ (rx bag j).length ≤ maxLen
theorem RawBag.bag {w : World} {B : Nat} {A : Option Addr} {bag : List (List Int × Int)} (h : RawBag w B A bag) (hl : ∀ j, j < bag.length → (rx bag j).length ≤ 1099511627776) : Bag w B A bag := fun hn => by
  obtain ⟨b, off, e, hb, hc⟩ := h hn
  refine ⟨b, off, e, hb, fun j hj => ?_⟩
  obtain ⟨Ar, cap, h1, h2, h3, _⟩ := hc j hj
  exact ⟨Ar, cap, h1, h2, h3, hl j hj⟩
theorem RawBag.on {w w' : World} {A : Option Addr} {bag : List (List Int × Int)} (h : RawBag w w.heap.size A bag) (hb : Below w.heap.size w w') : RawBag w' w'.heap.size A bag := fun hn => by
  obtain ⟨b, off, e, hlt, hc⟩ := h hn
  refine ⟨b, off, e, Nat.lt_of_lt_of_le hlt hb.size, fun j hj => ?_⟩
  obtain ⟨Ar, cap, h1, h2, h3, h4⟩ := hc j hj
  exact ⟨Ar, cap, (hb.cell hlt).trans h1, (hb.cell hlt).trans h2, h3.on hb, h4⟩

end Go.Proofs.YtejgofhpjkebbaaDoor

/- A slice of counts that came in reads as a bag. -/
namespace Go.Proofs.YtejgofhpjkebbaaDoor
open Go.ChangeShapes Go.WideShapes Go.ChangeAt Go.RowKit Go.Deep

theorem add_plain (b off k : Nat) : Addr.add ⟨b, off, none⟩ k = ⟨b, off + k, none⟩ := by unfold Addr.add; split <;> simp_all
end Go.Proofs.YtejgofhpjkebbaaDoor

/- Slices of rows: words. -/
namespace Go.Proofs.YtejgofhpjkebbaaDoor
open Go.RowKit

def rr (rows : List (List Int)) (j : Nat) : List Int := rows[j]?.getD []
theorem rr_eq {rows : List (List Int)} {j : Nat} (h : j < rows.length) : rr rows j = rows[j] := by simp [rr, h]
/-- A slice of rows reads as the list: its cells and its rows lie below B. -/
def Rws (w : World) (B : Nat) (A : Option Addr) (rows : List (List Int)) : Prop :=
  0 < rows.length → ∃ b off, A = some ⟨b, off, none⟩ ∧ b < B ∧ ∀ j, j < rows.length → ∃ Ar cap, w.cell? ⟨b, off + j, none⟩ = some (.slice Ar (rr rows j).length cap) ∧ Ints w B Ar (rr rows j) ∧ (rr rows j).length ≤ 1099511627776
def RawRows (w : World) (B : Nat) (A : Option Addr) (rows : List (List Int)) : Prop :=
  0 < rows.length → ∃ b off, A = some ⟨b, off, none⟩ ∧ b < B ∧ ∀ j, j < rows.length → ∃ Ar cap, w.cell? ⟨b, off + j, none⟩ = some (.slice Ar (rr rows j).length cap) ∧ Ints w B Ar (rr rows j) ∧ (rr rows j).length ≤ maxLen
theorem Rws.on {w w' : World} {A : Option Addr} {rows : List (List Int)} (h : Rws w w.heap.size A rows) (hb : Below w.heap.size w w') : Rws w' w'.heap.size A rows := fun hn => by
  obtain ⟨b, off, e, hlt, hc⟩ := h hn
  refine ⟨b, off, e, Nat.lt_of_lt_of_le hlt hb.size, fun j hj => ?_⟩
  obtain ⟨Ar, cap, h1, h2, h3⟩ := hc j hj
  exact ⟨Ar, cap, (hb.cell hlt).trans h1, h2.on hb, h3⟩
theorem RawRows.on {w w' : World} {A : Option Addr} {rows : List (List Int)} (h : RawRows w w.heap.size A rows) (hb : Below w.heap.size w w') : RawRows w' w'.heap.size A rows := fun hn => by
  obtain ⟨b, off, e, hlt, hc⟩ := h hn
  refine ⟨b, off, e, Nat.lt_of_lt_of_le hlt hb.size, fun j hj => ?_⟩
  obtain ⟨Ar, cap, h1, h2, h3⟩ := hc j hj
  exact ⟨Ar, cap, (hb.cell hlt).trans h1, h2.on hb, h3⟩
theorem RawRows.rws {w : World} {B : Nat} {A : Option Addr} {rows : List (List Int)} (h : RawRows w B A rows) (hl : ∀ j, j < rows.length → (rr rows j).length ≤ 1099511627776) : Rws w B A rows := fun hn => by
  obtain ⟨b, off, e, hlt, hc⟩ := h hn
  refine ⟨b, off, e, hlt, fun j hj => ?_⟩
  obtain ⟨Ar, cap, h1, h2, _⟩ := hc j hj
  exact ⟨Ar, cap, h1, h2, hl j hj⟩
end Go.Proofs.YtejgofhpjkebbaaDoor

/- Slices of rows: words; contracts of the laws' toInt64SS, szInt64SS, eqInt64SS, markInt64SS; a slice of rows that came in. For slices and rows of at most 2^40 (marks: 2^21). -/
namespace Go.Proofs.YtejgofhpjkebbaaDoor
open Go.ChangeShapes Go.WideShapes Go.ChangeAt Go.RowKit Go.Deep

theorem rawRows_of {H : Type} {enc : TypeId × Value → H} {W : World} {base : Nat} {held : Bool} {fuel : Nat} {a : Option Addr} {len cap : Nat} {x : DataW H × List MemPlace}
    (h : DataW.trod enc Tryd.prog W base (fun _ => true) held fuel 35 [.slice a len cap] = some x) : ∃ rows : List (List Int), rows.length = len ∧ RawRows W W.heap.size a rows ∧ len ≤ maxLen := by
  rcases open_slice1 Tryd.underlying35 (by kernel_rfl) h with ⟨hcs, _⟩ | ⟨ad, l, c, m, n, V, D, Pl, hcs, _, hl, hm, hmm, _, hat⟩
  · simp at hcs
    obtain ⟨rfl, rfl, rfl⟩ := hcs
    exact ⟨[], rfl, fun h => absurd h (by simp), by decide⟩
  · simp at hcs
    obtain ⟨rfl, rfl, rfl⟩ := hcs
    simp at hmm
    subst hmm
    have hkey : ∀ i, i < len → ∃ y : List Int, ∃ Ar cp, W.cell? (ad.add i) = some (.slice Ar y.length cp) ∧ Ints W W.heap.size Ar y ∧ y.length ≤ maxLen := by
      intro i hi
      obtain ⟨c0, t0⟩ := hat i (by omega)
      obtain ⟨Ar, l, cp, zs, hV, hR⟩ : ∃ Ar l cp zs, V i = .slice Ar l cp ∧ IsRow .i64 W Ar l cp zs := by
        rcases open_ints Tryd.underlying40 Tryd.underlying2 (by kernel_rfl) t0 with ⟨hcs, _⟩ | ⟨x, l, c, zs, hcs, _, hl, hm, hz, _, hcell, hwz⟩
        · exact ⟨none, 0, 0, [], by simpa using hcs, .inl ⟨rfl, rfl, rfl, rfl⟩⟩
        · exact ⟨some x, l, c, zs, by simpa using hcs, .inr ⟨_, rfl, hl, hm, by simpa using hz, hcell, hwz⟩⟩
      obtain ⟨ys, rfl, hI, hlm, _⟩ := isRow_ints hR
      exact ⟨ys, Ar, cp, by rw [c0, hV], hI, hlm⟩
    obtain ⟨f, hf⟩ := choose_lt (α := List Int) hkey
    have hlen : ((List.range len).map f).length = len := by simp
    have hr : ∀ j, j < len → rr ((List.range len).map f) j = f j := by
      intro j hj
      simp [rr, hj]
    refine ⟨(List.range len).map f, hlen, fun hn => ?_, by omega⟩
    have hn' : 0 < len := by rw [hlen] at hn; exact hn
    obtain ⟨b, off, spot⟩ := ad
    obtain ⟨Ar, cp, k0, _⟩ := hf 0 hn'
    have hspot : spot = none := by simpa [Addr.add] using World.cell?_spot k0
    subst hspot
    refine ⟨b, off, rfl, by simpa [Addr.add] using cell_lt k0, fun j hj => ?_⟩
    rw [hlen] at hj
    obtain ⟨Ar, cp, h1, h3, h4⟩ := hf j hj
    rw [add_plain] at h1
    rw [hr j hj]
    exact ⟨Ar, cp, h1, h3, h4⟩

theorem info_row : (Tryd.prog.info? 40).map (fun i => (i.zero, i.size, i.bytes)) = some (some (.slice none 0 0), 1, 24) := by kernel_rfl
theorem make_rows (n : Nat) (hn : n ≤ 1099511627776) (w : World) : (Instr.makeSlice 35 (.int .i64 (n : Int)) (.int .i64 (n : Int))).run Tryd.prog w = .ok (.slice (some ⟨w.heap.size, 0, none⟩) n n) (w.alloc (.cells (madeCells #[.slice none 0 0] n) 40)) := by
  obtain ⟨i, hi, hz, hs, hby⟩ := info_parts info_row
  have := run_make (P := Tryd.prog) w 35 40 i (.slice none 0 0) Tryd.underlying35 hi hz .i64 .i64 (n : Int) (n : Int) (by omega) (by omega) (by rw [hby]; omega) (by omega)
  rw [hs] at this
  simpa [Value.cells] using this
/-- Rows copied so far: block G holds their slices, each row begins a block of its own behind it. -/
def RCop (G : Nat) (gs : Nat → Nat) (rows : List (List Int)) (k : Nat) (w : World) : Prop :=
  ∃ cells : Array Value, Blk w G 40 cells ∧ cells.size = rows.length ∧
    (∀ j, j < k → cells[j]? = some (.slice (some ⟨gs j, 0, none⟩) (rr rows j).length (rr rows j).length) ∧ Blk w (gs j) 2 (i64s (rr rows j)) ∧ G < gs j) ∧
    ∀ i j, i < j → j < k → gs i ≠ gs j
theorem RCop.rws {G : Nat} {gs : Nat → Nat} {rows : List (List Int)} {w : World} (h : RCop G gs rows rows.length w) (hl : ∀ j, j < rows.length → (rr rows j).length ≤ 1099511627776) : Rws w w.heap.size (some ⟨G, 0, none⟩) rows := fun hn => by
  obtain ⟨cells, hB, _, hc, _⟩ := h
  refine ⟨G, 0, rfl, hB.lt, fun j hj => ?_⟩
  obtain ⟨h1, h2, _⟩ := hc j hj
  exact ⟨_, _, by rw [Nat.zero_add, hB.cell j]; exact h1, h2.ints, hl j hj⟩
theorem RCop.keep {G lo hi : Nat} {gs : Nat → Nat} {rows : List (List Int)} {w w' : World} (h : RCop G gs rows rows.length w) (hG : lo ≤ G ∧ G < hi) (hgs : ∀ j, j < rows.length → gs j < hi) (hk : ∀ b, lo ≤ b → b < hi → w'.heap[b]? = w.heap[b]?) : RCop G gs rows rows.length w' := by
  obtain ⟨cells, hB, h1, hc, h2⟩ := h
  refine ⟨cells, (hk G hG.1 hG.2).trans hB, h1, fun j hj => ?_, h2⟩
  obtain ⟨c1, c2, c3⟩ := hc j hj
  exact ⟨c1, (hk _ (by omega) (hgs j hj)).trans c2, c3⟩
set_option maxRecDepth 100000 in
set_option maxHeartbeats 2000000 in
theorem toInt64SS_any (A : Option Addr) (c : Nat) (rows : List (List Int)) (w : World) (hB : Rws w w.heap.size A rows) (hl : rows.length ≤ 1099511627776) :
    Calls Tryd.prog 35 #[.slice A rows.length c] w fun e w' => ∃ gs, e = .returned (.slice (some ⟨w.heap.size, 0, none⟩) rows.length rows.length) ∧ RCop w.heap.size gs rows rows.length w' ∧ (∀ j, j < rows.length → gs j < w'.heap.size) ∧ Below w.heap.size w w' := by
  have hmk := make_rows rows.length hl w
  go_enter Tryd.func35, Tryd.ntmps35
  go_wp2
  go_loopw [4] (fun i wr => ∃ (k : Nat) (gs : Nat → Nat), k ≤ rows.length ∧ i = .int .i64 k ∧ RCop w.heap.size gs rows k wr ∧ Below w.heap.size w wr) (fun i _ => rows.length - (intOf i).toNat)
  case atStart => exact ⟨0, fun _ => 0, Nat.zero_le _, rfl, ⟨_, Blk.new w _ _, size_madeCells _ _, fun j hj => absurd hj (by omega), fun i j _ hj => absurd hj (by omega)⟩, (Below.refl _ _).alloc (Nat.le_refl _) _⟩
  case round =>
    obtain ⟨k, gs, hk, rfl, ⟨cells, hBk, hcs, hrows, hne⟩, hW⟩ := hrel
    have HC := Lib.hid hrows
    have HN := Lib.hid hne
    have HS := Lib.hid hcs
    clear hrows hne hcs hmk
    by_cases hlt : k < rows.length
    · obtain ⟨b, off, rfl, _, hc⟩ := hB.on hW (by omega)
      obtain ⟨Ar, cap, h1, h3, h4⟩ := hc k hlt
      clear hc
      go_wp2_with fail
      refine (toInt64S_any Ar cap (rr rows k) wr h3 h4).mono ?_
      rintro e w1 ⟨rfl, hRk, hb1, _⟩
      have hGl := hBk.lt
      have hB1 := hBk.below hb1 hGl
      have hs0 : k < cells.size := by rw [HS.out]; exact hlt
      have d0 : w1.cell? ⟨w.heap.size, k, none⟩ = some cells[k] := by rw [hB1.cell, Array.getElem?_eq_getElem hs0]
      have f0 := hB1.frozen k
      have hW1 : Below w.heap.size w w1 := hW.trans (hb1.mono hW.size)
      have hC2 : RCop w.heap.size (fun j => if j = k then wr.heap.size else gs j) rows (k + 1) (w1.setCell ⟨w.heap.size, k, none⟩ (.slice (some ⟨wr.heap.size, 0, none⟩) (rr rows k).length (rr rows k).length)) := by
        refine ⟨_, hB1.set_ k _, by simpa using HS.out, fun j hj => ?_, fun i j hij hj => ?_⟩
        · by_cases e : j = k
          · subst e
            simp only [if_true]
            refine ⟨by rw [Array.getElem?_setIfInBounds, if_pos rfl, if_pos hs0], hRk.far (p := ⟨w.heap.size, _, none⟩) (by simp; omega) _, hGl⟩
          · simp only [if_neg e]
            obtain ⟨r1, r2, r3⟩ := HC.out j (by omega)
            refine ⟨by rw [Array.getElem?_setIfInBounds, if_neg (Ne.symm e)]; exact r1, (r2.below hb1 r2.lt).far (p := ⟨w.heap.size, _, none⟩) (by simp; omega) _, r3⟩
        · by_cases e : j = k
          · subst e
            have hi : ¬ i = j := by omega
            simp only [if_neg hi, if_true]
            have := (HC.out i (by omega)).2.1.lt; omega
          · have hi : ¬ i = k := by omega
            simp only [if_neg hi, if_neg e]; exact HN.out i j hij (by omega)
      have hW2 : Below w.heap.size w (w1.setCell ⟨w.heap.size, k, none⟩ (.slice (some ⟨wr.heap.size, 0, none⟩) (rr rows k).length (rr rows k).length)) := hW1.setCell (p := ⟨w.heap.size, k, none⟩) (Nat.le_refl _) _
      have HC2 := Lib.hid hC2
      clear hC2 hB1 hBk hRk hW hb1 h1 h3 hW1
      go_wp2
      go_roundw
      case rel => exact ⟨k + 1, _, by omega, by go_num, HC2.out, hW2⟩
      case measure => simp [intOf]; omega
    · have hd : decide (k < rows.length) = false := by simpa using hlt
      have hkl : k = rows.length := by omega
      have HK := Lib.hid hkl
      clear hkl
      go_wp2
      go_ret
      have hk2 := HK.out
      subst hk2
      exact ⟨gs, rfl, ⟨cells, hBk, HS.out, HC.out, HN.out⟩, fun j hj => (HC.out j hj).2.1.lt, hW⟩

set_option maxRecDepth 100000 in
set_option maxHeartbeats 2000000 in
theorem szInt64SS_any (A : Option Addr) (c : Nat) (rows : List (List Int)) (w : World) (hB : RawRows w w.heap.size A rows) (hl : rows.length ≤ maxLen) :
    Calls Tryd.prog 27 #[.slice A rows.length c, .int .i64 1048576] w fun e w' => ∃ x, e = .returned (.int .i64 x) ∧ (0 ≤ x → rows.length ≤ 1048576 ∧ ∀ j, j < rows.length → (rr rows j).length ≤ 1048576) ∧ w = w' := by
  unfold maxLen at hl
  by_cases hbig : 1048576 < rows.length
  · go_enter Tryd.func27, Tryd.ntmps27
    go_wp2
    go_ret
    exact ⟨-1, rfl, fun h => absurd h (by omega), rfl⟩
  have hl2 : rows.length ≤ 1048576 := by omega
  clear hbig hl
  go_enter Tryd.func27, Tryd.ntmps27
  go_wp2
  go_loop [1, 5] (fun l i => ∃ (k : Nat) (x : Int), k ≤ rows.length ∧ i = .int .i64 k ∧ l = .int .i64 x ∧ 0 ≤ x ∧ x ≤ 1048576 ∧ (∀ j, j < k → (rr rows j).length ≤ 1048576)) (fun _ i => rows.length - (intOf i).toNat)
  case atStart => exact ⟨0, _, Nat.zero_le _, rfl, rfl, by omega, by omega, fun j hj => absurd hj (by omega)⟩
  case round =>
    obtain ⟨k, x, hk, rfl, rfl, hx0, hx1, hrows⟩ := hrel
    have HR := Lib.hid hrows
    clear hrows
    by_cases hlt : k < rows.length
    · obtain ⟨b, off, rfl, _, hc⟩ := hB (by omega)
      obtain ⟨Ar, cap, h1, h3, h4⟩ := hc k hlt
      clear hc
      go_wp2_with fail
      refine (szInt64S_any Ar (rr rows k).length cap x w h4 hx0 hx1).mono ?_
      rintro e w1 ⟨rfl, rfl⟩
      clear h1 h3
      by_cases hs : szI (rr rows k).length x < 0
      · rw [szI_no hs]
        clear hs
        go_wp2
        go_ret
        exact ⟨-1, rfl, fun h => absurd h (by omega), rfl⟩
      · have hle := szI_le (n := (rr rows k).length) (left := x) (by omega)
        have hs0 : 0 ≤ szI (rr rows k).length x := by omega
        generalize szI (rr rows k).length x = y at *
        go_wp2
        go_round
        case rel =>
          refine ⟨k + 1, y, by omega, by go_num, rfl, hs0, by omega, fun j hj => ?_⟩
          by_cases e : j = k
          · subst e; omega
          · exact HR.out j (by omega)
        case measure => simp [intOf]; omega
    · have hd : decide (k < rows.length) = false := by simpa using hlt
      go_wp2
      go_ret
      exact ⟨x, rfl, fun _ j hj => HR.out j (by omega), rfl⟩

theorem eqInt64S_yes (A A' : Option Addr) (c c' : Nat) (zs ys : List Int) (w : World) (B B' : Nat) (hI : Ints w B A zs) (hI' : Ints w B' A' ys) (hl : zs.length ≤ 1099511627776) (hl' : ys.length ≤ 1099511627776) (h : zs = ys) :
    Calls Tryd.prog 46 #[.slice A zs.length c, .slice A' ys.length c'] w fun e w' => e = .returned (.bool true) ∧ ∃ n, w' = w.drewN n := by rw [← decide_eq_true h]; exact eqInt64S_any A A' c c' zs ys w B B' hI hI' hl hl'
set_option maxRecDepth 100000 in
set_option maxHeartbeats 2000000 in
/-- The same rows, twice. -/
theorem eqInt64SS_same (A A' : Option Addr) (c c' : Nat) (rows : List (List Int)) (w : World) (hB : Rws w w.heap.size A rows) (hB' : Rws w w.heap.size A' rows) (hl : rows.length ≤ 1099511627776) :
    Calls Tryd.prog 44 #[.slice A rows.length c, .slice A' rows.length c'] w fun e w' => e = .returned (.bool true) ∧ ∃ n, w' = w.drewN n := by
  go_enter Tryd.func44, Tryd.ntmps44
  go_wp2
  go_loopw [5] (fun i wr => ∃ k : Nat, k ≤ rows.length ∧ i = .int .i64 k ∧ ∃ n, wr = w.drewN n) (fun i _ => rows.length - (intOf i).toNat)
  case atStart => exact ⟨0, Nat.zero_le _, rfl, 0, rfl⟩
  case round =>
    obtain ⟨k, hk, rfl, hW⟩ := hrel
    have hBr : Rws wr wr.heap.size A rows := by obtain ⟨n, rfl⟩ := hW; exact hB
    have hBr' : Rws wr wr.heap.size A' rows := by obtain ⟨n, rfl⟩ := hW; exact hB'
    have HW := Lib.hid hW
    clear hB hB' hW
    by_cases hlt : k < rows.length
    · obtain ⟨b, off, rfl, _, hc⟩ := hBr (by omega)
      obtain ⟨b', off', rfl, _, hc'⟩ := hBr' (by omega)
      obtain ⟨Ar, cap, h1, h3, h4⟩ := hc k hlt
      obtain ⟨Ar', cap', h1', h3', h4'⟩ := hc' k hlt
      clear hc hc'
      go_wp2_with fail
      go_quiet (first | (go_at_call 46; exact Calls.quiet_of (eqInt64S_yes Ar Ar' cap cap' (rr rows k) (rr rows k) _ _ _ (by exact h3) (by exact h3') h4 h4' rfl)))
      go_wp2
      go_roundw
      case rel => exact ⟨k + 1, by omega, by go_num, drew_more HW.out _⟩
      case measure => simp [intOf]; omega
    · have hd : decide (k < rows.length) = false := by simpa using hlt
      go_wp2
      go_ret
      exact ⟨rfl, HW.out⟩

end Go.Proofs.YtejgofhpjkebbaaDoor
