/- The program's groups while they grow: which memory stays, whose rows are whose. Plain words and laws. -/
import Derived.Test.YtcfnbpofbcendabKep2
import Derived.Test.YtcfnbpofbcendabAppK
namespace Go.Proofs.Ytcfnbpofbcendab
open Go.RowKit

theorem reads_nw1 (w : World) (t : TypeId) (v : Value) : Reads (w.alloc (.cells #[v] t)) (w.heap.size + 1) 1 (some ⟨w.heap.size, 0, none⟩) 1 [v] := ⟨rfl, fun _ => ⟨_, rfl, Nat.lt_succ_self _, fun j u hu => by
  have hB := Blk.new w t #[v]
  have ea : Addr.add ⟨w.heap.size, 0, none⟩ j = ⟨w.heap.size, 0 + j, none⟩ := by unfold Addr.add; split <;> simp_all
  rw [ea, Nat.zero_add, hB.cell j, ← hu]
  simp⟩⟩
def tailG (p : Int) (S : List (List Int × Int)) (s : List Int) : List Int := if p = -1 then [] else [timesL S s]
def rowG (p : Int) (S : List (List Int × Int)) (t : List Int × Int) : List Int := t.1 ++ t.2 :: tailG p S t.1
def grpL (K : List (List Int × Int)) (p : Int) (S : List (List Int × Int)) : List (List Int × Int) := (K.filter fun t => decide (0 < t.2)).map fun t => (rowG p S t, 1)
theorem grp_step {K : List (List Int × Int)} {p : Int} {S : List (List Int × Int)} {k : Nat} (h : k < K.length) : grpL (K.take (k + 1)) p S = grpL (K.take k) p S ++ if 0 < nx K k then [(rowG p S (rx K k, nx K k), 1)] else [] := by
  unfold grpL
  rw [List.take_succ_eq_append_getElem h, bag_ix h, List.filter_append, List.map_append]
  congr 1
  by_cases e : 0 < nx K k
  · rw [if_pos e, List.filter_cons_of_pos (by simpa using e)]; simp
  · rw [if_neg e, List.filter_cons_of_neg (by simpa using e)]; simp
theorem grp_len (K : List (List Int × Int)) (p : Int) (S : List (List Int × Int)) : (grpL K p S).length ≤ K.length := by
  unfold grpL; rw [List.length_map]; exact List.length_filter_le _ _

structure GI (w w5 wk : World) (gb : Nat) (bs : List Ent) (g cap : Nat) (es : List Ent) (k : Nat) (wr : World) : Prop where
  ob : OB wr w.heap.size g cap es
  bel : Below w.heap.size w wr
  mid : ∀ b, w.heap.size < b → b < w5.heap.size → wr.heap[b]? = w5.heap[b]?
  kb : wr.heap[gb]? = wk.heap[gb]?
  rows : ∀ j, k ≤ j → j < bs.length → ∀ b, obE (ex bs j) = some b → wr.heap[b]? = wk.heap[b]?
  size : wk.heap.size ≤ wr.heap.size
  from_ : ∀ e ∈ es, 0 < e.r.length → wk.heap.size ≤ e.g ∨ ∃ j, j < k ∧ j < bs.length ∧ obE (ex bs j) = some e.g
  gpos : g = w.heap.size ∨ wk.heap.size ≤ g
  caps : ∀ e ∈ es, e.r.length ≤ e.c

theorem grown_new {w w1 w2 : World} {X : Option Nat} {n : Nat} (h : w.grownBy w1 X) (h2 : w1.grownBy w2 (some n)) (hn : w.heap.size ≤ n) : w.grownBy w2 X :=
  ⟨h2.os.trans h.os, h2.tape.trans h.tape, h2.output.trans h.output, Nat.le_trans h.size h2.size, fun b hb hX => (h2.block b (Nat.lt_of_lt_of_le hb h.size) (fun e => by have := Option.some.inj e; omega)).trans (h.block b hb hX)⟩
theorem DC.differ {w : World} {lo : Nat} {no : Option Nat} {bs : List Ent} (h : DC w lo no bs) {i j : Nat} (hi : i < bs.length) (hj : j < bs.length) (hij : i ≠ j) {b : Nat} (h1 : obE (ex bs i) = some b) (h2 : obE (ex bs j) = some b) : False := by
  have key : ∀ i j, i < j → (hj : j < bs.length) → obE (ex bs i) = some b → obE (ex bs j) = some b → False := by
    intro i j hlt hj h1 h2
    have h3 := List.pairwise_iff_getElem.1 h.2 i j (by rw [List.length_map]; omega) (by rw [List.length_map]; omega) hlt
    rw [List.getElem_map, List.getElem_map, ← ex_eq (by omega), ← ex_eq (by omega), h1, h2] at h3
    rcases h3 with h3 | h3
    · cases h3
    · exact h3 rfl
  rcases Nat.lt_or_ge i j with h3 | h3
  · exact key i j h3 hj h1 h2
  · exact key j i (by omega) hi h2 h1
theorem GI.row {w w5 wk wr : World} {gb g cap k : Nat} {bs es : List Ent} (h : GI w w5 wk gb bs g cap es k wr) (hD : DC wk w5.heap.size (some gb) bs) (hk : k < bs.length) (h5 : w.heap.size ≤ w5.heap.size) :
    wr.ownsRow w.heap.size 2 1 (.slice (ex bs k).A (ex bs k).r.length (ex bs k).c) (ex bs k).r.length (i64l (ex bs k).r) := by
  have h1 := hD.1 bs[k] (List.getElem_mem hk)
  rw [← ex_eq hk] at h1
  have h2 : wk.ownsRow w.heap.size 2 1 (.slice (ex bs k).A (ex bs k).r.length (ex bs k).c) (ex bs k).r.length (i64l (ex bs k).r) := by
    refine ⟨h1.1.1, ?_⟩
    rcases h1.1.2 with h3 | ⟨g', cap', cur, h3, h4, h6⟩
    · exact .inl h3
    · exact .inr ⟨g', cap', cur, h3, by omega, h6⟩
  exact own_keepB h2 fun b hb => h.rows k (Nat.le_refl _) hk b hb
theorem GI.skip {w w5 wk wr wr' : World} {gb g cap k : Nat} {bs es : List Ent} (h : GI w w5 wk gb bs g cap es k wr) (hD : DC wk w5.heap.size (some gb) bs) (hgb : gb < wk.heap.size) (h5 : w5.heap.size ≤ wk.heap.size) (hb : Below wr.heap.size wr wr') : GI w w5 wk gb bs g cap es (k + 1) wr' := by
  have hs := h.size
  have hbl : ∀ b, b < wr.heap.size → wr'.heap[b]? = wr.heap[b]? := fun b hb' => hb.block b hb'
  exact ⟨OBag.on h.ob hb, h.bel.trans (hb.mono (by have := h.bel.size; omega)), fun b h1 h2 => (hbl b (by omega)).trans (h.mid b h1 h2), (hbl gb (by omega)).trans h.kb,
    fun j h1 h2 b h3 => (hbl b (by
      have := hD.1 bs[j] (List.getElem_mem h2)
      rw [← ex_eq h2] at this
      have := this.1.lt b h3
      omega)).trans (h.rows j (by omega) h2 b h3), by have := hb.size; omega,
    fun e he hn => by
      rcases h.from_ e he hn with h1 | ⟨j, h1, h2, h3⟩
      · exact .inl h1
      · exact .inr ⟨j, by omega, h2, h3⟩, h.gpos, h.caps⟩
theorem GI.step {w w5 wk wr wy wz : World} {gb g cap k : Nat} {bs es : List Ent} {A9 : Option Addr} {c9 : Nat} {row : List Int} {o : Obj} {v' : Value} (h : GI w w5 wk gb bs g cap es k wr) (hD : DC wk w5.heap.size (some gb) bs) (hk : k < bs.length) (hgb : gb < wk.heap.size) (hgb5 : w5.heap.size ≤ gb) (hlt5 : w.heap.size < w5.heap.size)
    (hg : wr.grownBy wy (obE (ex bs k))) (hown9 : wy.ownsRow w.heap.size 2 1 (.slice A9 row.length c9) row.length (i64l row)) (h9 : ∀ x, (Value.slice A9 row.length c9).ownBlock = some x → wr.heap.size ≤ x ∨ obE (ex bs k) = some x) (hpos : 0 < row.length)
    (hownz : wz.ownsRow w.heap.size 33 2 v' (es.length + 1) (entCells es ++ [.slice A9 row.length c9, .int .i64 1])) (hgz : (wy.alloc o).grownBy wz (some g)) (hat : v'.ownBlock = some g ∨ v'.ownBlock = some (wy.alloc o).heap.size) :
    ∃ g' cap' g9, v' = .slice (some ⟨g', 0, none⟩) (es.length + 1) cap' ∧ GI w w5 wk gb bs g' cap' (es ++ [⟨row, 1, A9, c9, g9⟩]) (k + 1) wz := by
  have hs := h.size
  have hsy := hg.size
  have hsz : wy.heap.size + 1 ≤ wz.heap.size := by have := hgz.size; rw [World.size_alloc] at this; exact this
  have hdk := hD.1 bs[k] (List.getElem_mem hk)
  rw [← ex_eq hk] at hdk
  have hbk : ∀ b, obE (ex bs k) = some b → w5.heap.size ≤ b ∧ b < wk.heap.size ∧ b ≠ gb := fun b hb => ⟨(hdk.1.lt b hb).1, (hdk.1.lt b hb).2, fun e => hdk.2 b hb (by rw [e])⟩
  have hgr : g < wr.heap.size := h.ob.1.lt g rfl |>.2
  have hgl : w.heap.size ≤ g := h.ob.1.lt g rfl |>.1
  have hgk : ∀ b, obE (ex bs k) = some b → b ≠ g := fun b hb e => by
    have h1 := hbk b hb
    rcases h.gpos with h2 | h2 <;> omega
  -- what stays
  have hyk : ∀ b, b < wr.heap.size → obE (ex bs k) ≠ some b → (wy.alloc o).heap[b]? = wr.heap[b]? := fun b h1 h2 => by
    rw [Below.heap_alloc wy o b (by omega)]
    exact hg.block b h1 (fun e => h2 e.symm)
  have hzk : ∀ b, b < wr.heap.size → obE (ex bs k) ≠ some b → b ≠ g → wz.heap[b]? = wr.heap[b]? := fun b h1 h2 h3 => by
    rw [hgz.block b (by rw [World.size_alloc]; omega) (fun e => h3 (Option.some.inj e))]
    exact hyk b h1 h2
  -- the groups so far
  have hobY : OB (wy.alloc o) w.heap.size g cap es := by
    refine ⟨own_keepB h.ob.1 fun b hb => ?_, fun e he => ?_, h.ob.2.2⟩
    · have : g = b := Option.some.inj hb
      subst this
      exact hyk g hgr (fun e => hgk g e rfl)
    · obtain ⟨h1, h2⟩ := h.ob.2.1 e he
      refine ⟨h1.keepB fun hn => hyk _ (h1.lt hn) fun e2 => ?_, h2⟩
      rcases h.from_ e he hn with h3 | ⟨j, h3, h4, h5⟩
      · have := (hbk _ e2).2.1; omega
      · exact hD.differ h4 hk (by omega) h5 e2
  -- the new row
  obtain ⟨A1, c1, g9, hv9, _, hR9⟩ := rowAt_of_own (zs := row) hown9
  injection hv9 with hA1 _ hc1
  subst hA1 hc1
  have hob9 : (Value.slice A9 row.length c9).ownBlock = some g9 := by
    obtain ⟨hA, _⟩ := hR9 hpos
    rw [hA]; rfl
  have hg9 := h9 g9 hob9
  have hg9l := hown9.lt g9 hob9
  have hRz : Row (wy.alloc o) 2 A9 row g9 := hR9.on ((Below.refl _ _).alloc (Nat.le_refl _) o)
  have hne9 : g9 ≠ g := by
    rcases hg9 with h1 | h1
    · omega
    · exact hgk g9 h1
  have hO := hobY.push (v' := v') (n := 1) (c := c9) hgz hownz (by rcases hat with h1 | h1; exact .inl h1; exact .inr h1) hRz fun _ => ⟨hg9l.1, (fun e => hne9 (Option.some.inj e)), fun e he hn => by
    have h1 := (h.ob.2.1 e he).1.lt hn
    rcases hg9 with h2 | h2
    · omega
    · intro e2
      rcases h.from_ e he hn with h3 | ⟨j, h3, h4, h5⟩
      · have := (hbk _ h2).2.1; omega
      · exact hD.differ h4 hk (by omega) (by rw [h5, e2]) h2⟩
  obtain ⟨g', hg'⟩ : ∃ g', v'.ownBlock = some g' := by
    rcases hat with h1 | h1
    · exact ⟨_, h1⟩
    · exact ⟨_, h1⟩
  obtain ⟨cap', hv', hOB⟩ := hO.ob hg'
  have hg'c : g' = g ∨ wk.heap.size ≤ g' := by
    rw [hg'] at hat
    rcases hat with h1 | h1
    · exact .inl (Option.some.inj h1)
    · right; have := Option.some.inj h1; rw [World.size_alloc] at this; omega
  refine ⟨g', cap', g9, by rw [hv']; simp, hOB, ?_, fun b h1 h2 => ?_, ?_, fun j h1 h2 b h3 => ?_, by omega, fun e he hn => ?_, ?_, fun e he => ?_⟩
  · exact ⟨hgz.os.trans (hg.os.trans h.bel.os), hgz.tape.trans (hg.tape.trans h.bel.tape), hgz.output.trans (hg.output.trans h.bel.output), by have := h.bel.size; omega, fun b hb => by
      have h1 := h.bel.size
      rw [hzk b (by omega) (fun e => by have := (hbk b e).1; omega) (by omega)]
      exact h.bel.block b hb⟩
  · rw [hzk b (by omega) (fun e => by have := (hbk b e).1; omega) (by rcases h.gpos with h3 | h3 <;> omega)]
    exact h.mid b h1 h2
  · rw [hzk gb (by omega) (fun e => (hbk gb e).2.2 rfl) (by rcases h.gpos with h3 | h3 <;> omega)]
    exact h.kb
  · have hdj := hD.1 bs[j] (List.getElem_mem h2)
    rw [← ex_eq h2] at hdj
    have hbj := hdj.1.lt b h3
    rw [hzk b (by omega) (fun e => hD.differ h2 hk (by omega) h3 e) (by rcases h.gpos with h4 | h4 <;> omega)]
    exact h.rows j (by omega) h2 b h3
  · rcases List.mem_append.1 he with he | he
    · rcases h.from_ e he hn with h1 | ⟨j, h1, h2, h3⟩
      · exact .inl h1
      · exact .inr ⟨j, by omega, h2, h3⟩
    · rw [List.mem_singleton.1 he]
      rcases hg9 with h1 | h1
      · exact .inl (by show wk.heap.size ≤ g9; omega)
      · exact .inr ⟨k, by omega, hk, h1⟩
  · rcases hg'c with h1 | h1
    · rw [h1]; exact h.gpos
    · exact .inr h1
  · rcases List.mem_append.1 he with he | he
    · exact h.caps e he
    · rw [List.mem_singleton.1 he]
      rcases hown9.2 with ⟨_, h2⟩ | ⟨g', cap', cur, hv, _, _, hle, _⟩
      · show row.length ≤ c9
        omega
      · injection hv with _ _ e3
        show row.length ≤ c9
        omega
theorem GI.ownY {w w5 wk wr wy : World} {gb g cap k : Nat} {bs es : List Ent} (h : GI w w5 wk gb bs g cap es k wr) (hD : DC wk w5.heap.size (some gb) bs) (hk : k < bs.length) (hlt5 : w.heap.size < w5.heap.size) (hg : wr.grownBy wy (obE (ex bs k))) : wy.ownsRow w.heap.size 33 2 (.slice (some ⟨g, 0, none⟩) es.length cap) es.length (entCells es) := by
  have hdk := hD.1 bs[k] (List.getElem_mem hk)
  rw [← ex_eq hk] at hdk
  refine own_keepB h.ob.1 fun b hb => hg.block b (h.ob.1.lt b hb).2 fun e => ?_
  have h0 : g = b := Option.some.inj hb
  have h1 := hdk.1.lt b e.symm
  rcases h.gpos with h2 | h2 <;> omega
/-- What lies between the call's first block and the kept rows reads on. -/
theorem GI.midY {w w5 wk wr wy : World} {gb g cap k lo : Nat} {bs es : List Ent} (h : GI w w5 wk gb bs g cap es k wr) (hD : DC wk w5.heap.size (some gb) bs) (hk : k < bs.length) (hwk : w5.heap.size ≤ wk.heap.size) (hg : wr.grownBy wy (obE (ex bs k))) (hlo : w.heap.size < lo) {v : Value} {ss : List Ent} (hS : OBag w5 lo v ss) : OBag wy lo v ss := by
  have hdk := hD.1 bs[k] (List.getElem_mem hk)
  rw [← ex_eq hk] at hdk
  have hs := h.size
  refine hS.keep hS.inside fun b h1 h2 => ?_
  rw [hg.block b (by omega) (fun e => by have := hdk.1.lt b e.symm; omega)]
  exact h.mid b (by omega) h2
theorem GI.cells {w w5 wk wr : World} {gb g cap k cb : Nat} {bs es : List Ent} (h : GI w w5 wk gb bs g cap es k wr) (hO : OB wk w5.heap.size gb cb bs) (hk : k < bs.length) : wr.cell? ⟨gb, k * 2, none⟩ = some (.slice (ex bs k).A (ex bs k).r.length (ex bs k).c) ∧ wr.cell? ⟨gb, k * 2 + 1, none⟩ = some (.int .i64 (ex bs k).n) := by
  obtain ⟨k0, k1, _⟩ := OBag.cellsAt hO hk
  rw [ex_eq hk]
  exact ⟨(World.cell?_of_block (a := ⟨gb, k * 2, none⟩) h.kb).trans k0, (World.cell?_of_block (a := ⟨gb, k * 2 + 1, none⟩) h.kb).trans k1⟩
end Go.Proofs.Ytcfnbpofbcendab
