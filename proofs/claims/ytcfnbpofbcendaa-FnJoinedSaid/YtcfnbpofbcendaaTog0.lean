/- Laws on the heap's variable and its counts, for the walk of together; slices.Equal's answer told ahead. No condition of their own. -/
import Derived.Test.YtcfnbpofbcendaaHeap4
import Derived.Test.YtcfnbpofbcendaaTogThy
import Derived.Test.YtcfnbpofbcendaaJB
import Derived.Test.YtcfnbpofbcendaaJD
namespace Go.Proofs.Ytcfnbpofbcendaa
open Go.RowKit

/-- How many the heap's variable holds. -/
def lenAt (p : Nat) (w : World) : Nat := match w.cell? ⟨p, 0, none⟩ with | some (.slice _ n _) => n | _ => 0
theorem HP.len {w : World} {lo hi p g cap : Nat} {es : List Ent} (h : HP w lo hi p g cap es) : lenAt p w = es.length := by
  have := h.1.cell 0
  unfold lenAt
  rw [this]; rfl
theorem OBag.top {w w' : World} {lo s : Nat} {v : Value} {es : List Ent} (h : OBag w s v es) (hw : Within lo s w w') : OBag w' s v es :=
  h.keep h.inside fun b h1 h2 => hw.block b h2 (by omega)
theorem RowG.far {w w' : World} {hi g gb : Nat} {A : Option Addr} {r : List Int} (h : RowG w hi g A r) (hg : w.grownBy w' (some gb)) (h1 : hi ≤ gb) : RowG w' hi g A r :=
  h.keep hg.size fun p h2 _ h4 => World.cell?_of_block (hg.block p.block h4 (fun e => by have := Option.some.inj e; omega))
theorem HP.far {w w' : World} {lo hi p g cap gb : Nat} {es : List Ent} (h : HP w lo hi p g cap es) (hg : w.grownBy w' (some gb)) (h1 : g < gb) (h2 : p < gb) : HP w' lo hi p g cap es := by
  have hlt := h.2.2.lt
  refine ⟨h.1.grown hg (fun e => by have := Option.some.inj e; omega), h.2.1, own_keepB h.2.2.1 fun r e => hg.block r (h.2.2.1.lt r e).2 (fun e2 => by have : g = r := Option.some.inj e; have := Option.some.inj e2; omega), fun e he => ⟨(h.2.2.2 e he).1.far hg (by have := h.2.1; omega), (h.2.2.2 e he).2⟩⟩
theorem HC.upto {w : World} {lo hi g cap : Nat} {es : List Ent} (h : HC w lo hi g cap es) : HC w lo w.heap.size g cap es :=
  ⟨h.1, fun e he => ⟨fun hn => by
    obtain ⟨b, off, e1, _, h2, h3, hc⟩ := (h.2 e he).1 hn
    exact ⟨b, off, e1, h3, h2, h3, hc⟩, (h.2 e he).2⟩⟩
theorem slicesEqual_yes (A A' : Option Addr) (c c' : Nat) (zs ys : List Int) (w : World) (B B' : Nat) (hI : Ints w B A zs) (hI' : Ints w B' A' ys) (hl : zs.length ≤ 1099511627776) (hl' : ys.length ≤ 1099511627776) (h : zs = ys) :
    Calls Try.prog 78 #[.slice A zs.length c, .slice A' ys.length c'] w fun e w' => e = .returned (.bool true) ∧ ∃ n, w' = w.drewN n := by rw [← decide_eq_true h]; exact slicesEqual_any A A' c c' zs ys w B B' hI hI' hl hl'
theorem slicesEqual_no (A A' : Option Addr) (c c' : Nat) (zs ys : List Int) (w : World) (B B' : Nat) (hI : Ints w B A zs) (hI' : Ints w B' A' ys) (hl : zs.length ≤ 1099511627776) (hl' : ys.length ≤ 1099511627776) (h : ¬ zs = ys) :
    Calls Try.prog 78 #[.slice A zs.length c, .slice A' ys.length c'] w fun e w' => e = .returned (.bool false) ∧ ∃ n, w' = w.drewN n := by rw [← decide_eq_false h]; exact slicesEqual_any A A' c c' zs ys w B B' hI hI' hl hl'
theorem assert_count (v : Value) (x : TypeId) (w : World) : (Instr.typeAssert (.iface 50 v) x 50 true).run Try.prog w = .ok (.tuple #[v, .bool true]) w := by
  simp [Instr.typeAssert, run_underlying Try.underlying50]

/-- An own bag, read as counts whose rows lie elsewhere. -/
theorem OB.hc {w : World} {lo g cap : Nat} {es : List Ent} (h : OB w lo g cap es) (hl : ∀ e ∈ es, e.r.length ≤ 1099511627776) : HC w lo w.heap.size g cap es := by
  refine ⟨h.1, fun e he => ⟨fun hn => ?_, hl e he⟩⟩
  obtain ⟨hR, hg⟩ := h.2.1 e he
  obtain ⟨b, off, eA, hb, hc⟩ := hR.ints hn
  have e1 : e.A = some ⟨e.g, 0, none⟩ := (hR hn).1
  rw [e1] at eA
  have e2 : e.g = b := by have := congrArg (fun x => x.map Addr.block) eA; simpa using this
  refine ⟨b, off, by rw [e1, eA], hb, fun e3 => ?_, hb, hc⟩
  exact (hg hn).2 (by rw [e2, e3]; rfl)
/-- Cells written one behind the other into block g: what lay ahead of them stays. -/
theorem blk_setCells {g : Nat} {t : TypeId} : ∀ (vs : List Value) (o : Nat) (w : World) (cur : Array Value), Blk w g t cur → ∃ cur', Blk (w.setCells g o vs) g t cur' ∧ cur'.size = cur.size ∧ (∀ k, k ≤ o → cur'.toList.take k = cur.toList.take k) ∧ w.grownBy (w.setCells g o vs) (some g)
  | [], _, w, cur, h => ⟨cur, h, rfl, fun _ _ => rfl, World.grownBy.refl _ _⟩
  | v :: vs, o, w, cur, h => by
    obtain ⟨cur', h1, h2, h3, h4⟩ := blk_setCells vs (o + 1) (w.setCell ⟨g, o, none⟩ v) _ (h.set_ o v)
    refine ⟨cur', h1, by rw [h2]; simp, fun k hk => ?_, grown_trans (grown_setCell _ g _ _) h4⟩
    rw [h3 k (by omega), Array.toList_setIfInBounds, List.take_set_of_le hk]
theorem run_clear_counts (w : World) (b o n c : Nat) (ty : TypeId) (hn : 0 < n) (hc : ∀ j, j < n * 2 → (w.cell? ⟨b, o + j, none⟩).isSome = true) (hf : ∀ j, j < n * 2 → w.frozen? ⟨b, o + j, none⟩ = false) :
    (Builtin.clear_ #[24] ty #[.slice (some ⟨b, o, none⟩) n c]).run Try.prog w = .ok (.tuple #[]) (w.setCells b o (Builtin.zeroCells #[.slice none 0 0, .int .i64 0] n).toList) := by
  obtain ⟨i0, hi0, hz0, hz1, hz2⟩ := info_parts info_count
  have hzl : (Builtin.zeroCells #[.slice none 0 0, .int .i64 0] n).toList.length = n * 2 := by simp [Builtin.zeroCells]
  have hz : ∀ v ∈ (Builtin.zeroCells #[.slice none 0 0, .int .i64 0] n).toList, v.oneCell' = true := by
    intro v hv
    simp only [Builtin.zeroCells, Array.toList_map, List.mem_map] at hv
    obtain ⟨a, _, rfl⟩ := hv
    have h2 : a % 2 = 0 ∨ a % 2 = 1 := by omega
    show ((#[.slice none 0 0, .int .i64 0] : Array Value)[a % 2]!).oneCell' = true
    rcases h2 with h2 | h2 <;> rw [h2] <;> rfl
  have hst := run_storeCells_cells (P := Try.prog) b o (Builtin.zeroCells #[.slice none 0 0, .int .i64 0] n).toList 0 w (by rw [hzl]; simpa using hc) (by rw [hzl]; simpa using hf) hz
  simp only [Nat.add_zero] at hst
  obtain ⟨m, rfl⟩ : ∃ m, n = m + 1 := ⟨n - 1, by omega⟩
  have hzv : ∀ w, (zeroValue 50).run Try.prog w = .ok (.agg #[.slice none 0 0, .int .i64 0]) w := fun w => by simp [zeroValue, typeInfo, hi0, hz0]
  simp [Builtin.clear_, run_underlying Try.underlying24, hzv, Value.cells, hst]
end Go.Proofs.Ytcfnbpofbcendaa
