/- Laws on the heap's variable and its counts, for the walk of together; slices.Equal's answer told ahead. No condition of their own. -/
import Derived.Test.YtcfnbpofbcendabHeap4
import Derived.Test.YtcfnbpofbcendabTogThy
import Derived.Test.YtcfnbpofbcendabJB
import Derived.Test.YtcfnbpofbcendabJD
namespace Go.Proofs.Ytcfnbpofbcendab
open Go.RowKit

/-- How many the heap's variable holds. -/
def lenAt (p : Nat) (w : World) : Nat := match w.cell? ⟨p, 0, none⟩ with | some (.slice _ n _) => n | _ => 0
theorem HP.len {w : World} {lo hi p g cap : Nat} {es : List Ent} (h : HP w lo hi p g cap es) : lenAt p w = es.length := by
  have := h.1.cell 0
  unfold lenAt
  rw [this]; rfl
theorem OBag.top {w w' : World} {lo s : Nat} {v : Value} {es : List Ent} (h : OBag w s v es) (hw : Within lo s w w') : OBag w' s v es :=
  h.keep h.inside fun b h1 h2 => hw.block b h2 (by omega)
theorem RowG.far {w w' : World} {hi g gb : Nat} {A : Option Addr} {r : List Int} (h : RowG w hi g A r) (hg : w.grownBy w' (some gb)) (h1 : hi ≤ gb) : RowG w' hi g A r :=
  h.keep hg.size fun p h2 _ h4 => World.cell?_of_block (hg.block p.block h4 (fun e => by have := Option.some.inj e; omega))
theorem HP.far {w w' : World} {lo hi p g cap gb : Nat} {es : List Ent} (h : HP w lo hi p g cap es) (hg : w.grownBy w' (some gb)) (h1 : g < gb) (h2 : p < gb) : HP w' lo hi p g cap es := by
  have hlt := h.2.2.lt
  refine ⟨h.1.grown hg (fun e => by have := Option.some.inj e; omega), h.2.1, own_keepB h.2.2.1 fun r e => hg.block r (h.2.2.1.lt r e).2 (fun e2 => by have : g = r := Option.some.inj e; have := Option.some.inj e2; omega), fun e he => ⟨(h.2.2.2 e he).1.far hg (by have := h.2.1; omega), (h.2.2.2 e he).2⟩⟩
theorem HC.upto {w : World} {lo hi g cap : Nat} {es : List Ent} (h : HC w lo hi g cap es) : HC w lo w.heap.size g cap es :=
  ⟨h.1, fun e he => ⟨fun hn => by
    obtain ⟨b, off, e1, _, h2, h3, hc⟩ := (h.2 e he).1 hn
    exact ⟨b, off, e1, h3, h2, h3, hc⟩, (h.2 e he).2⟩⟩
theorem slicesEqual_yes (A A' : Option Addr) (c c' : Nat) (zs ys : List Int) (w : World) (B B' : Nat) (hI : Ints w B A zs) (hI' : Ints w B' A' ys) (hl : zs.length ≤ 1099511627776) (hl' : ys.length ≤ 1099511627776) (h : zs = ys) :
    Calls Try.prog 38 #[.slice A zs.length c, .slice A' ys.length c'] w fun e w' => e = .returned (.bool true) ∧ ∃ n, w' = w.drewN n := by rw [← decide_eq_true h]; exact slicesEqual_any A A' c c' zs ys w B B' hI hI' hl hl'
theorem slicesEqual_no (A A' : Option Addr) (c c' : Nat) (zs ys : List Int) (w : World) (B B' : Nat) (hI : Ints w B A zs) (hI' : Ints w B' A' ys) (hl : zs.length ≤ 1099511627776) (hl' : ys.length ≤ 1099511627776) (h : ¬ zs = ys) :
    Calls Try.prog 38 #[.slice A zs.length c, .slice A' ys.length c'] w fun e w' => e = .returned (.bool false) ∧ ∃ n, w' = w.drewN n := by rw [← decide_eq_false h]; exact slicesEqual_any A A' c c' zs ys w B B' hI hI' hl hl'
theorem assert_count (v : Value) (x : TypeId) (w : World) : (Instr.typeAssert (.iface 33 v) x 33 true).run Try.prog w = .ok (.tuple #[v, .bool true]) w := by
  simp [Instr.typeAssert, run_underlying Try.underlying33]

/-- An own bag, read as counts whose rows lie elsewhere. -/
theorem OB.hc {w : World} {lo g cap : Nat} {es : List Ent} (h : OB w lo g cap es) (hl : ∀ e ∈ es, e.r.length ≤ 1099511627776) : HC w lo w.heap.size g cap es := by
  refine ⟨h.1, fun e he => ⟨fun hn => ?_, hl e he⟩⟩
  obtain ⟨hR, hg⟩ := h.2.1 e he
  obtain ⟨b, off, eA, hb, hc⟩ := hR.ints hn
  have e1 : e.A = some ⟨e.g, 0, none⟩ := (hR hn).1
  rw [e1] at eA
  have e2 : e.g = b := by have := congrArg (fun x => x.map Addr.block) eA; simpa using this
  refine ⟨b, off, by rw [e1, eA], hb, fun e3 => ?_, hb, hc⟩
  exact (hg hn).2 (by rw [e2, e3]; rfl)
/-- Cells written one behind the other into block g: what lay ahead of them stays. -/
theorem blk_setCells {g : Nat} {t : TypeId} : ∀ (vs : List Value) (o : Nat) (w : World) (cur : Array Value), Blk w g t cur → ∃ cur', Blk (w.setCells g o vs) g t cur' ∧ cur'.size = cur.size ∧ (∀ k, k ≤ o → cur'.toList.take k = cur.toList.take k) ∧ w.grownBy (w.setCells g o vs) (some g)
  | [], _, w, cur, h => ⟨cur, h, rfl, fun _ _ => rfl, World.grownBy.refl _ _⟩
  | v :: vs, o, w, cur, h => by
    obtain ⟨cur', h1, h2, h3, h4⟩ := blk_setCells vs (o + 1) (w.setCell ⟨g, o, none⟩ v) _ (h.set_ o v)
    refine ⟨cur', h1, by rw [h2]; simp, fun k hk => ?_, grown_trans (grown_setCell _ g _ _) h4⟩
    rw [h3 k (by omega), Array.toList_setIfInBounds, List.take_set_of_le hk]
theorem run_clear_counts (w : World) (b o n c : Nat) (ty : TypeId) (hn : 0 < n) (hc : ∀ j, j < n * 2 → (w.cell? ⟨b, o + j, none⟩).isSome = true) (hf : ∀ j, j < n * 2 → w.frozen? ⟨b, o + j, none⟩ = false) :
    (Builtin.clear_ #[24] ty #[.slice (some ⟨b, o, none⟩) n c]).run Try.prog w = .ok (.tuple #[]) (w.setCells b o (Builtin.zeroCells #[.slice none 0 0, .int .i64 0] n).toList) := by
  obtain ⟨i0, hi0, hz0, hz1, hz2⟩ := info_parts info_count
  have hzl : (Builtin.zeroCells #[.slice none 0 0, .int .i64 0] n).toList.length = n * 2 := by simp [Builtin.zeroCells]
  have hz : ∀ v ∈ (Builtin.zeroCells #[.slice none 0 0, .int .i64 0] n).toList, v.oneCell' = true := by
    intro v hv
    simp only [Builtin.zeroCells, Array.toList_map, List.mem_map] at hv
    obtain ⟨a, _, rfl⟩ := hv
    have h2 : a % 2 = 0 ∨ a % 2 = 1 := by omega
    show ((#[.slice none 0 0, .int .i64 0] : Array Value)[a % 2]!).oneCell' = true
    rcases h2 with h2 | h2 <;> rw [h2] <;> rfl
  have hst := run_storeCells_cells (P := Try.prog) b o (Builtin.zeroCells #[.slice none 0 0, .int .i64 0] n).toList 0 w (by rw [hzl]; simpa using hc) (by rw [hzl]; simpa using hf) hz
  simp only [Nat.add_zero] at hst
  obtain ⟨m, rfl⟩ : ∃ m, n = m + 1 := ⟨n - 1, by omega⟩
  have hzv : ∀ w, (zeroValue 33).run Try.prog w = .ok (.agg #[.slice none 0 0, .int .i64 0]) w := fun w => by simp [zeroValue, typeInfo, hi0, hz0]
  simp [Builtin.clear_, run_underlying Try.underlying24, hzv, Value.cells, hst]
/-- The block of an entry's row. -/
def obE (e : Ent) : Option Nat := (Value.slice e.A e.r.length e.c).ownBlock
/-- The rows of es with their room, each in a block of its own that is not 'no'. -/
def DC (w : World) (lo : Nat) (no : Option Nat) (es : List Ent) : Prop :=
  (∀ e ∈ es, w.ownsRow lo 2 1 (.slice e.A e.r.length e.c) e.r.length (i64l e.r) ∧ ∀ k, obE e = some k → some k ≠ no) ∧ (es.map obE).Pairwise fun a b => a = none ∨ a ≠ b
theorem DC.nil (w : World) (lo : Nat) (no : Option Nat) : DC w lo no [] := ⟨(fun e he => by cases he), List.Pairwise.nil⟩
theorem DC.kept {w w' : World} {lo : Nat} {no : Option Nat} {es : List Ent} (h : DC w lo no es) (hk : ∀ b, lo ≤ b → b < w.heap.size → some b ≠ no → w'.heap[b]? = w.heap[b]?) : DC w' lo no es :=
  ⟨fun e he => ⟨own_keepB (h.1 e he).1 fun k hb => hk k ((h.1 e he).1.lt k hb).1 ((h.1 e he).1.lt k hb).2 ((h.1 e he).2 k hb), (h.1 e he).2⟩, h.2⟩
theorem DC.on {w w' : World} {lo : Nat} {no : Option Nat} {es : List Ent} (h : DC w lo no es) (hb : Below w.heap.size w w') : DC w' lo no es := h.kept fun b _ h2 _ => hb.block b h2
theorem DC.grown {w w' : World} {lo g : Nat} {es : List Ent} (h : DC w lo (some g) es) (hb : w.grownBy w' (some g)) : DC w' lo (some g) es := h.kept fun b _ h2 h3 => hb.block b h2 h3
theorem DC.drewN {w : World} {lo : Nat} {no : Option Nat} {es : List Ent} (h : DC w lo no es) (n : Nat) : DC (w.drewN n) lo no es := h
theorem DC.lower {w : World} {lo lo' : Nat} {no : Option Nat} {es : List Ent} (h : DC w lo no es) (hl : lo' ≤ lo) : DC w lo' no es :=
  ⟨fun e he => ⟨by
    have h1 := (h.1 e he).1
    refine ⟨h1.1, ?_⟩
    rcases h1.2 with h2 | ⟨g, cap, cur, h3, h4, h5⟩
    · exact .inl h2
    · exact .inr ⟨g, cap, cur, h3, by omega, h5⟩, (h.1 e he).2⟩, h.2⟩
theorem DC.filter {w : World} {lo : Nat} {no : Option Nat} {es : List Ent} (h : DC w lo no es) (f : Ent → Bool) : DC w lo no (es.filter f) :=
  ⟨fun e he => h.1 e (List.mem_filter.1 he).1, h.2.sublist (List.filter_sublist.map _)⟩
theorem DC.setN {w : World} {lo : Nat} {no : Option Nat} {es : List Ent} (h : DC w lo no es) {m : Nat} (hm : m < es.length) (x : Int) : DC w lo no (es.set m { es[m] with n := x }) := by
  refine ⟨fun e he => ?_, ?_⟩
  · rcases List.mem_or_eq_of_mem_set he with h1 | h1
    · exact h.1 e h1
    · subst h1; exact h.1 es[m] (List.getElem_mem hm)
  · have e1 : (es.set m { es[m] with n := x }).map obE = es.map obE := by
      rw [List.map_set]
      refine List.ext_getElem (by simp) fun i h1 h2 => ?_
      rw [List.getElem_set]
      split
      · rename_i e; subst e; simp [obE]
      · rfl
    rw [e1]; exact h.2
theorem DC.push {w' : World} {lo top : Nat} {no' : Option Nat} {es : List Ent} {e : Ent} (h : DC w' lo no' es) (hes : ∀ f ∈ es, ∀ k, obE f = some k → k < top) (hr : w'.ownsRow lo 2 1 (.slice e.A e.r.length e.c) e.r.length (i64l e.r)) (hn : ∀ k, obE e = some k → top ≤ k ∧ some k ≠ no') : DC w' lo no' (es ++ [e]) := by
  refine ⟨fun f hf => ?_, ?_⟩
  · rcases List.mem_append.1 hf with hf | hf
    · exact h.1 f hf
    · rw [List.mem_singleton.1 hf]; exact ⟨hr, fun k hk => (hn k hk).2⟩
  · rw [List.map_append]
    refine List.pairwise_append.2 ⟨h.2, List.pairwise_singleton _ _, fun a ha b hb => ?_⟩
    obtain ⟨f, hf, rfl⟩ := List.mem_map.1 ha
    rw [List.map_singleton, List.mem_singleton] at hb
    subst hb
    cases hk : obE f with
    | none => exact .inl rfl
    | some k =>
      right
      intro e1
      have h1 := hes f hf k hk
      have h2 := (hn k e1.symm).1
      omega
theorem DC.other {w : World} {lo : Nat} {no no' : Option Nat} {es : List Ent} (h : DC w lo no es) (hn : ∀ f ∈ es, ∀ k, obE f = some k → some k ≠ no') : DC w lo no' es :=
  ⟨fun e he => ⟨(h.1 e he).1, hn e he⟩, h.2⟩
theorem DC.lt {w : World} {lo : Nat} {no : Option Nat} {es : List Ent} (h : DC w lo no es) : ∀ f ∈ es, ∀ k, obE f = some k → lo ≤ k ∧ k < w.heap.size := fun f hf k hk => (h.1 f hf).1.lt k hk
theorem copyOfRow_own (A : Option Addr) (c : Nat) (zs : List Int) (w : World) (hI : Ints w w.heap.size A zs) (hl : zs.length ≤ 1099511627776) :
    Calls Try.prog 50 #[.slice A zs.length c] w fun e w' => ∃ A1 c1 g1, e = .returned (.slice A1 zs.length c1) ∧ w.heap.size ≤ g1 ∧ Row w' 2 A1 zs g1 ∧ w'.ownsRow w.heap.size 2 1 (.slice A1 zs.length c1) zs.length (i64l zs) ∧ Below w.heap.size w w' :=
  (copyOfRow_any A c zs w hI hl).mono fun _ _ ⟨_, he, hown, hb⟩ => by
    obtain ⟨A1, c1, g1, rfl, h1, h2⟩ := rowAt_of_own hown
    exact ⟨A1, c1, g1, he, h1, h2, hown, hb⟩
/-- One count more behind a copied row: the rows with their room. -/
theorem DC.pushRow {wd w6 w7 : World} {lo gb g7 : Nat} {es : List Ent} {r : List Int} {n : Int} {A6 : Option Addr} {c6 g6 : Nat} {o : Obj} {v7 : Value} (h : DC wd lo (some gb) es) (hlo : lo ≤ wd.heap.size) (hgb : gb < wd.heap.size) (hb6 : Below wd.heap.size wd w6) (hown6 : w6.ownsRow wd.heap.size 2 1 (.slice A6 r.length c6) r.length (i64l r)) (hgrow7 : (w6.alloc o).grownBy w7 (some gb)) (hat7 : v7.ownBlock = some gb ∨ v7.ownBlock = some (w6.alloc o).heap.size) (hg7 : v7.ownBlock = some g7) : DC w7 lo (some g7) (es ++ [⟨r, n, A6, c6, g6⟩]) := by
  have hs6 : wd.heap.size ≤ w6.heap.size := hb6.size
  have hs7 : w6.heap.size + 1 ≤ w7.heap.size := by have := hgrow7.size; rw [World.size_alloc] at this; exact this
  have hk7 : ∀ b, b < w6.heap.size → b ≠ gb → w7.heap[b]? = w6.heap[b]? := fun b h1 h2 => by
    have e1 : w7.heap[b]? = (w6.alloc o).heap[b]? := hgrow7.block b (by rw [World.size_alloc]; omega) (fun e => h2 (Option.some.inj e))
    rw [e1, Below.heap_alloc w6 o b h1]
  have hg : g7 = gb ∨ g7 = w6.heap.size + 1 := by
    rw [hg7] at hat7
    rcases hat7 with h | h
    · exact .inl (Option.some.inj h)
    · right; have := Option.some.inj h; rwa [World.size_alloc] at this
  have hlt := h.lt
  have h6 : DC w7 lo (some gb) es := h.kept fun b h1 h2 h3 => by
    rw [hk7 b (by omega) (fun e => h3 (by rw [e]))]; exact hb6.block b h2
  have h7 : DC w7 lo (some g7) es := h6.other fun f hf k hk e => by
    have h1 := hlt f hf k hk
    have h2 := (h.1 f hf).2 k hk
    have h3 := Option.some.inj e
    rcases hg with h4 | h4
    · exact h2 (by rw [h3, h4])
    · omega
  refine DC.push (top := wd.heap.size) h7 (fun f hf k hk => (hlt f hf k hk).2) ?_ fun k hk => ?_
  · have h8 : w6.ownsRow lo 2 1 (.slice A6 r.length c6) r.length (i64l r) := by
      refine ⟨hown6.1, ?_⟩
      rcases hown6.2 with h2 | ⟨g, cap, cur, h3, h4, h5⟩
      · exact .inl h2
      · exact .inr ⟨g, cap, cur, h3, by omega, h5⟩
    exact own_keepB h8 fun k hk => hk7 k (hown6.lt k hk).2 (by have := (hown6.lt k hk).1; omega)
  · have h1 := hown6.lt k hk
    exact ⟨h1.1, fun e => by have := Option.some.inj e; rcases hg with h4 | h4 <;> omega⟩
end Go.Proofs.Ytcfnbpofbcendab
