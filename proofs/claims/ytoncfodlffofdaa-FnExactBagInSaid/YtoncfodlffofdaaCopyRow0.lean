/- Contracts of the copying of rows: the model's l1Row, the program's copyOfRow; an own bag that grows by a count behind a copied row. For rows of at most 2^40. -/
import Derived.Test.YtoncfodlffofdaaBagOwn
import Derived.Deep.RegionHeld3
import Derived.Deep.AppendLies
import Derived.Deep.DrawnRows
namespace Go.Proofs.Ytoncfodlffofdaa
open Go.RowKit

set_option maxRecDepth 100000 in
set_option maxHeartbeats 1000000 in
theorem copyOfRow_any (A : Option Addr) (c : Nat) (zs : List Int) (w : World) (hI : Ints w w.heap.size A zs) (hl : zs.length ≤ 1099511627776) :
    Calls Try.prog 99 #[.slice A zs.length c] w fun e w' => ∃ v, e = .returned v ∧ w'.ownsRow w.heap.size 2 1 v zs.length (i64l zs) ∧ Below w.heap.size w w' := by
  obtain ⟨i0, hi0, hz0, hz1, hz2⟩ := info_parts info_i64
  have hE := ownsRow_empty w 2 w.heap.size (Nat.le_refl _)
  have hR := (reads_ints hI).alloc (Nat.le_refl _) (.cells #[] 2)
  have b1 := (Below.refl w.heap.size w).alloc (Nat.le_refl _) (.cells #[] 2)
  go_enter Try.func99, Try.ntmps99
  go_wp2_with (at_builtin; refine wpList_append_any _ rfl (.tmp 3) (.tmp 4) 25 rfl w.heap.size 2 i0 (.int .i64 0) 1 8 Try.underlying25 hi0 hz0 hz1 hz2 rfl (by decide) _ _ _ rfl hE _ A zs.length c (i64l zs) rfl hR (i64l_one _) (by simp only [maxLen]; omega) (by omega) (by simp) ?_; intro v5 w5 hown5 hg5 hat5)
  simp only [Nat.zero_add, List.nil_append] at hown5
  have hr5 : ∀ k, (Value.slice (some ⟨w.heap.size, 0, none⟩) 0 0).ownBlock = some k → w.heap.size ≤ k := fun k e => by
    have : w.heap.size = k := Option.some.inj e
    omega
  have hb5 := b1.grown hg5 (by simp) hr5
  go_ret
  exact ⟨_, rfl, hown5, hb5⟩

/-- A row copied so lies in a block of its own. -/
theorem rowAt_of_own {w : World} {base : Nat} {v : Value} {zs : List Int} (h : w.ownsRow base 2 1 v zs.length (i64l zs)) : ∃ A cap g, v = .slice A zs.length cap ∧ base ≤ g ∧ Row w 2 A zs g := Row.of_own h

/-- What a copy of a row leaves: a slice of as many numbers in a block of its own. -/
def CopyRow (zs : List Int) (w : World) (e : Ending) (w' : World) : Prop :=
  ∃ A cap g, e = .returned (.slice A zs.length cap) ∧ w.heap.size ≤ g ∧ Row w' 2 A zs g ∧ Below w.heap.size w w'
theorem l1Row_row (A : Option Addr) (c : Nat) (zs : List Int) (w : World) (hI : Ints w w.heap.size A zs) (hl : zs.length ≤ 1099511627776) :
    Calls Try.prog 129 #[.slice A zs.length c] w (CopyRow zs w) :=
  (l1Row_any A c zs w hI hl).mono fun _ _ ⟨_, he, hown, hb⟩ => by
    obtain ⟨A, cap, g, rfl, h1, h2⟩ := rowAt_of_own hown
    exact ⟨A, cap, g, he, h1, h2, hb⟩
theorem copyOfRow_row (A : Option Addr) (c : Nat) (zs : List Int) (w : World) (hI : Ints w w.heap.size A zs) (hl : zs.length ≤ 1099511627776) :
    Calls Try.prog 99 #[.slice A zs.length c] w (CopyRow zs w) :=
  (copyOfRow_any A c zs w hI hl).mono fun _ _ ⟨_, he, hown, hb⟩ => by
    obtain ⟨A, cap, g, rfl, h1, h2⟩ := rowAt_of_own hown
    exact ⟨A, cap, g, he, h1, h2, hb⟩

theorem reads_new2 (w : World) (t : TypeId) (u0 u1 : Value) : Reads (w.alloc (.cells #[u0, u1] t)) (w.heap.size + 1) 2 (some ⟨w.heap.size, 0, none⟩) 1 [u0, u1] := by
  refine ⟨rfl, fun _ => ⟨_, rfl, Nat.lt_succ_self _, fun j u hu => ?_⟩⟩
  have hB := Blk.new w t #[u0, u1]
  have ea : Addr.add ⟨w.heap.size, 0, none⟩ j = ⟨w.heap.size, 0 + j, none⟩ := by unfold Addr.add; split <;> simp_all
  rw [ea, Nat.zero_add, hB.cell j, ← hu]
  simp

/-- The bag with one more count, behind a copied row. -/
theorem OBag.pushRow {wr wd w1 w2 : World} {lo : Nat} {v v2 : Value} {es : List Ent} {r : List Int} {n : Int} {A1 : Option Addr} {cap1 g1 : Nat} {o : Obj} (hO : OBag wr lo v es) (hd : wd.heap = wr.heap) (hlo : lo ≤ wr.heap.size) (hg1 : wd.heap.size ≤ g1) (hR1 : Row w1 2 A1 r g1) (hO1 : OBag w1 lo v es)
    (hown2 : w2.ownsRow lo 34 2 v2 (es.length + 1) (entCells es ++ [.slice A1 r.length cap1, .int .i64 n])) (hgrow2 : (w1.alloc o).grownBy w2 v.ownBlock)
    (hat2 : v2.ownBlock = v.ownBlock ∨ v2.ownBlock = some (w1.alloc o).heap.size) : OBag w2 lo v2 (es ++ [⟨r, n, A1, cap1, g1⟩]) := by
  have b := (Below.refl w1.heap.size w1).alloc (Nat.le_refl _) o
  rw [hd] at hg1
  refine (hO1.on b).push hgrow2 hown2 hat2 (hR1.on b) fun hn => ⟨by omega, fun e => ?_, fun e he hn' => ?_⟩
  · have := hO.inside.1 g1 e.symm; omega
  · have := hO.inside.2 e he hn'; omega
theorem pair_snoc {bag : List (List Int × Int)} {es : List Ent} {k : Nat} {A1 : Option Addr} {cap1 g1 : Nat} (he : es.map Ent.pair = bag.take k) (h : k < bag.length) : (es ++ [(⟨rx bag k, nx bag k, A1, cap1, g1⟩ : Ent)]).map Ent.pair = bag.take (k + 1) := by
  rw [List.map_append, he, List.take_succ_eq_append_getElem h, bag_ix h]; rfl

theorem far_cell {wd w1 w2 : World} {o : Obj} {row : Option Nat} {p : Addr} (hb1 : Below wd.heap.size wd w1) (hg : (w1.alloc o).grownBy w2 row) (hp : p.block < wd.heap.size) (hne : some p.block ≠ row) : w2.cell? p = wd.cell? p := by
  have h1 : p.block < w1.heap.size := Nat.lt_of_lt_of_le hp hb1.size
  have e1 : w2.heap[p.block]? = (w1.alloc o).heap[p.block]? := hg.block _ (by rw [World.size_alloc]; omega) hne
  rw [World.cell?_of_block e1, World.cell?_alloc_lt w1 o p h1]
  exact hb1.cell hp

theorem empty_counts (w : World) : (w.alloc (.cells #[] 34)).ownsRow w.heap.size 34 2 (.slice (some ⟨w.heap.size, 0, none⟩) 0 0) 0 [] :=
  World.ownsRow_made w #[] 0 (Nat.le_refl _) (Nat.zero_le _) rfl
end Go.Proofs.Ytoncfodlffofdaa
