/- Rows in memory of the call's own, each in a block of its own, cut to any capacity: words and laws; a copy inside one block as a step. No condition; of the program only the types of rows and numbers are named. -/
import Derived.Test.YtoncfodlffofdaaTab4
import Derived.Laws.CopyOwn
namespace Go.Proofs.Ytoncfodlffofdaa
open Go.RowKit

section
variable {w w' : World} {lo : Nat} {no : Option Nat} {es : List Ent}
theorem EntsAt.keepB (h : EntsAt w lo no es) (hk : ∀ e ∈ es, 0 < e.r.length → w'.heap[e.g]? = w.heap[e.g]?) : EntsAt w' lo no es :=
  ⟨fun e he => ⟨(h.1 e he).1.keepB (hk e he), (h.1 e he).2⟩, h.2⟩
theorem EntsAt.lt (h : EntsAt w lo no es) : ∀ e ∈ es, 0 < e.r.length → e.g < w.heap.size := fun e he hn => (h.1 e he).1.lt hn
theorem EntsAt.on (h : EntsAt w lo no es) (hb : Below w.heap.size w w') : EntsAt w' lo no es := h.keepB fun e he hn => hb.block _ (h.lt e he hn)
theorem EntsAt.grown (h : EntsAt w lo no es) (hg : w.grownBy w' no) : EntsAt w' lo no es := h.keepB fun e he hn => hg.block _ (h.lt e he hn) ((h.1 e he).2 hn).2
theorem EntsAt.drewN (h : EntsAt w lo no es) (n : Nat) : EntsAt (w.drewN n) lo no es := h
theorem EntsAt.set_ {g : Nat} (h : EntsAt w lo (some g) es) (i : Nat) (u : Value) : EntsAt (w.setCell ⟨g, i, none⟩ u) lo (some g) es :=
  h.keepB fun e he hn => Below.heap_setCell w ⟨g, i, none⟩ u e.g (fun e1 => ((h.1 e he).2 hn).2 (congrArg some e1))
theorem EntsAt.far (h : EntsAt w lo no es) (p : Addr) (u : Value) (hr : ∀ e ∈ es, 0 < e.r.length → e.g ≠ p.block) : EntsAt (w.setCell p u) lo no es :=
  h.keepB fun e he hn => Below.heap_setCell w p u e.g (hr e he hn)
theorem EntsAt.renew {g : Nat} (h : EntsAt w lo no es) (hg : ∀ e ∈ es, 0 < e.r.length → e.g ≠ g) : EntsAt w lo (some g) es :=
  ⟨fun e he => ⟨(h.1 e he).1, fun hn => ⟨((h.1 e he).2 hn).1, fun e1 => hg e he hn (Option.some.inj e1)⟩⟩, h.2⟩
theorem EntsAt.sub {fs : List Ent} (h : EntsAt w lo no es) (hs : fs.Sublist es) : EntsAt w lo no fs := ⟨fun e he => h.1 e (hs.subset he), h.2.sublist hs⟩
theorem EntsAt.nil (w : World) (lo : Nat) (no : Option Nat) : EntsAt w lo no [] := ⟨(fun e he => by cases he), List.Pairwise.nil⟩
theorem EntsAt.lower {lo' : Nat} (h : EntsAt w lo no es) (hl : lo' ≤ lo) : EntsAt w lo' no es :=
  ⟨fun e he => ⟨(h.1 e he).1, fun hn => ⟨Nat.le_trans hl ((h.1 e he).2 hn).1, ((h.1 e he).2 hn).2⟩⟩, h.2⟩
/-- One more, put between at place k. -/
theorem EntsAt.ins {k : Nat} {e0 : Ent} (h : EntsAt w lo no es) (hR : Row w 2 e0.A e0.r e0.g) (hg : 0 < e0.r.length → lo ≤ e0.g ∧ some e0.g ≠ no ∧ ∀ e ∈ es, 0 < e.r.length → e.g ≠ e0.g) : EntsAt w lo no (es.take k ++ e0 :: es.drop k) := by
  refine ⟨fun e he => ?_, ?_⟩
  · have hmem : e ∈ es ∨ e = e0 := by
      rcases List.mem_append.1 he with h | h
      · exact .inl (List.mem_of_mem_take h)
      · rcases List.mem_cons.1 h with h | h
        · exact .inr h
        · exact .inl (List.mem_of_mem_drop h)
    rcases hmem with h1 | rfl
    · exact h.1 e h1
    · exact ⟨hR, fun hn => ⟨(hg hn).1, (hg hn).2.1⟩⟩
  · have hperm : (es.take k ++ e0 :: es.drop k).Perm (e0 :: es) := by
      have := List.perm_middle (a := e0) (l₁ := es.take k) (l₂ := es.drop k)
      rwa [List.take_append_drop] at this
    refine (hperm.pairwise_iff (fun hab hn hn' e => hab hn' hn e.symm)).2 (List.pairwise_cons.2 ⟨fun b hb hn hn' => ?_, h.2⟩)
    exact fun e => (hg hn).2.2 b hb hn' e.symm
end
theorem rowCs_ins (es : List Ent) (k : Nat) (e0 : Ent) : rowCs (es.take k ++ e0 :: es.drop k) = (rowCs es).take k ++ (.slice e0.A e0.r.length e0.c) :: (rowCs es).drop k := by
  rw [rowCs_append, rowCs_take, rowCs_drop]; simp [rowCs]

/-- The value v is a slice of rows of the call's own, whatever its capacity: its rows es. -/
def WRows (w : World) (lo : Nat) (v : Value) (es : List Ent) : Prop :=
  ((v = .slice none 0 0 ∧ es = []) ∨ ∃ g cap cur, v = .slice (some ⟨g, 0, none⟩) es.length cap ∧ lo ≤ g ∧ w.heap[g]? = some (.cells cur 25 (0, 0)) ∧ cur.toList.take es.length = rowCs es) ∧ EntsAt w lo v.ownBlock es
theorem ORows.weak {w : World} {lo : Nat} {v : Value} {es : List Ent} (h : ORows w lo v es) : WRows w lo v es := by
  refine ⟨?_, h.2⟩
  rcases h.1.2 with ⟨h1, h2⟩ | ⟨g, cap, cur, h1, h2, h3, _, _, _, h7⟩
  · exact .inl ⟨h1, List.length_eq_zero_iff.1 h2⟩
  · exact .inr ⟨g, cap, cur, h1, h2, h3, by rwa [Nat.mul_one] at h7⟩
theorem WRows.of_blk {w : World} {lo g cap : Nat} {cur : Array Value} {es : List Ent} (hB : Blk w g 25 cur) (ht : cur.toList.take es.length = rowCs es) (hE : EntsAt w lo (some g) es) (hlo : lo ≤ g) : WRows w lo (.slice (some ⟨g, 0, none⟩) es.length cap) es :=
  ⟨.inr ⟨g, cap, cur, rfl, hlo, hB, ht⟩, hE⟩
theorem WRows.lt {w : World} {lo : Nat} {v : Value} {es : List Ent} (h : WRows w lo v es) {g : Nat} (hg : v.ownBlock = some g) : lo ≤ g ∧ g < w.heap.size := by
  rcases h.1 with ⟨rfl, _⟩ | ⟨g', cap, cur, rfl, h2, h3, _⟩
  · cases hg
  · have e : g' = g := Option.some.inj hg
    subst e
    exact ⟨h2, Blk.lt (t := 25) (cs := cur) h3⟩
theorem WRows.inside {w : World} {lo : Nat} {v : Value} {es : List Ent} (h : WRows w lo v es) : Inside w.heap.size v es :=
  ⟨fun _ hg => (h.lt hg).2, fun e he hn => (h.2.1 e he).1.lt hn⟩
theorem WRows.keep {w w' : World} {lo hi : Nat} {v : Value} {es : List Ent} (h : WRows w lo v es) (hi' : Inside hi v es) (hk : ∀ b, lo ≤ b → b < hi → w'.heap[b]? = w.heap[b]?) : WRows w' lo v es := by
  refine ⟨?_, h.2.keepB fun e he hn => hk _ ((h.2.1 e he).2 hn).1 (hi'.2 e he hn)⟩
  rcases h.1 with h1 | ⟨g, cap, cur, rfl, h2, h3, h4⟩
  · exact .inl h1
  · exact .inr ⟨g, cap, cur, rfl, h2, (hk g h2 (hi'.1 g rfl)).trans h3, h4⟩
theorem WRows.on {w w' : World} {lo : Nat} {v : Value} {es : List Ent} (h : WRows w lo v es) (hb : Below w.heap.size w w') : WRows w' lo v es :=
  h.keep h.inside fun b _ hlt => hb.block b hlt
theorem WRows.form {w : World} {lo : Nat} {v : Value} {es : List Ent} (h : WRows w lo v es) : ∃ A cap, v = .slice A es.length cap := by
  rcases h.1 with ⟨rfl, rfl⟩ | ⟨g, cap, cur, rfl, _⟩
  · exact ⟨none, 0, rfl⟩
  · exact ⟨_, cap, rfl⟩
theorem WRows.lower {w : World} {lo lo' : Nat} {v : Value} {es : List Ent} (h : WRows w lo v es) (hl : lo' ≤ lo) : WRows w lo' v es := by
  refine ⟨?_, h.2.lower hl⟩
  rcases h.1 with h1 | ⟨g, cap, cur, h1, h2, h3⟩
  · exact .inl h1
  · exact .inr ⟨g, cap, cur, h1, by omega, h3⟩
theorem WRows.len {w : World} {lo n c : Nat} {A : Option Addr} {es : List Ent} (h : WRows w lo (.slice A n c) es) : n = es.length := by
  obtain ⟨A', cap, e⟩ := h.form
  injection e
theorem WRows.cellAt {w : World} {lo g n c : Nat} {es : List Ent} (h : WRows w lo (.slice (some ⟨g, 0, none⟩) n c) es) {i : Nat} (hi : i < es.length) : w.cell? ⟨g, i, none⟩ = some (.slice es[i].A es[i].r.length es[i].c) := by
  rcases h.1 with ⟨hv, _⟩ | ⟨g', cap', cur, hv, _, hh, ht⟩
  · cases hv
  · injection hv with hv _ _
    injection hv with hv
    injection hv with hv _ _
    subst hv
    rw [Blk.cell (t := 25) (cs := cur) hh i, ← rowCs_get es i hi, ← ht, List.getElem?_take, if_pos hi, Array.getElem?_toList]
theorem WRows.addr {w : World} {lo n c : Nat} {A : Option Addr} {es : List Ent} (h : WRows w lo (.slice A n c) es) (hn : 0 < n) : ∃ g, A = some ⟨g, 0, none⟩ := by
  rcases h.1 with ⟨hv, he⟩ | ⟨g, cap', cur, hv, _⟩
  · injection hv; omega
  · exact ⟨g, by injection hv⟩
theorem WRows.rws {w : World} {lo : Nat} {A : Option Addr} {cap : Nat} {es : List Ent} {n : Nat} (h : WRows w lo (.slice A n cap) es) (hl : ∀ e ∈ es, e.r.length ≤ 1099511627776) : Rws w w.heap.size A (es.map Ent.r) := fun hn => by
  simp only [List.length_map] at hn
  obtain ⟨g, rfl⟩ := h.addr (by rw [h.len]; exact hn)
  refine ⟨g, 0, rfl, (h.lt rfl).2, fun j hj => ?_⟩
  simp only [List.length_map] at hj
  obtain ⟨h1, _⟩ := h.2.1 es[j] (List.getElem_mem hj)
  rw [rr_map hj]
  exact ⟨es[j].A, es[j].c, by rw [Nat.zero_add]; exact h.cellAt hj, h1.ints, hl _ (List.getElem_mem hj)⟩
theorem WRows.formW {w : World} {lo : Nat} {v : Value} {es : List Ent} {rows : List (List Int)} (h : WRows w lo v es) (he : es.map Ent.r = rows) : ∃ A cap, v = .slice A rows.length cap := by
  obtain ⟨A, cap, rfl⟩ := h.form
  exact ⟨A, cap, by rw [← he, List.length_map]⟩
theorem ents_rr {es : List Ent} {rows : List (List Int)} {m : Nat} (he : es.map Ent.r = rows) (hl : ∀ j, j < rows.length → (rr rows j).length ≤ m) : ∀ e ∈ es, e.r.length ≤ m := fun e hm => by
  obtain ⟨j, hj, rfl⟩ := List.getElem_of_mem hm
  have := hl j (by rw [← he]; simpa using hj)
  rwa [← he, rr_map hj] at this
theorem WRows.rwsW {w : World} {lo n c : Nat} {A : Option Addr} {es : List Ent} {rows : List (List Int)} (h : WRows w lo (.slice A n c) es) (he : es.map Ent.r = rows) (hl : ∀ j, j < rows.length → (rr rows j).length ≤ 1099511627776) : Rws w w.heap.size A rows := by
  have := WRows.rws h (ents_rr he hl)
  rwa [he] at this
/-- A table of the call's own: its name, its width, its rows (whatever the capacity). -/
def WTab (lo : Nat) (s : ByteArray) (wd : Int) (rows : List (List Int)) (v : Value) (w' : World) : Prop :=
  ∃ u es, v = .agg #[.string s, .int .i64 wd, u] ∧ WRows w' lo u es ∧ es.map Ent.r = rows
def WAns (s : ByteArray) (wd : Int) (rows : List (List Int)) (b : Bool) (w : World) (e : Ending) (w' : World) : Prop :=
  ∃ v, e = .returned (.tuple #[v, .bool b]) ∧ WTab w.heap.size s wd rows v w' ∧ Below w.heap.size w w'

theorem grown_setRow (w : World) (g : Nat) (cs : Array Value) : w.grownBy (w.setRow g cs) (some g) :=
  ⟨rfl, rfl, rfl, by simp [World.setRow], fun k _ hne => setRow_other w g k cs (fun e => hne (by rw [e]))⟩
/-- copy into a block that is known whole, as a step of a region that draws its order: all else stays. -/
theorem step_copy_grown {P : Program} {ops : Array Oper} {o : Oper} {a : Act} {w : World} {K : Act → World → Prop} {Q : Exit → Act → World → Prop} {E : Prop} (hgd : o.guard = none) (d s : Operand) (dT sT : TypeId)
    (ho : o.op = .call { callee := .builtin .copy, args := #[d, s], argTypes := #[dT, sT] }) (elem : TypeId) (hu : P.underlying dT = some (.slice elem)) (hsz : (P.info? elem).map (·.size) = some 1)
    (dp sp : Option Addr) (dLen dCap sLen sCap : Nat) (hd : a.eval d = .slice dp dLen dCap) (hs : a.eval s = .slice sp sLen sCap)
    (g off : Nat) (cur : List Value) (t : TypeId) (hg : w.heap[g]? = some (.cells cur.toArray t (0, 0))) (cs : List Value) (hn : cs.length = Nat.min sLen dLen)
    (hpos : 0 < cs.length → dp = some ⟨g, off, none⟩ ∧ ∃ ad, sp = some ad ∧ ∀ j v, cs[j]? = some v → w.cell? (ad.add j) = some v)
    (hfit : off + cs.length ≤ cur.length) (h1 : ∀ v ∈ cs, v.oneCell' = true)
    (h : ∀ w', Hid (w'.heap[g]? = some (.cells (splice cur off cs).toArray t (0, 0))) → w.grownBy w' (some g) → w'.heap.size = w.heap.size → K (a.put o.dst (goInt cs.length)) w') :
    if Region.wanted o (yielded ops a.tmps) = true then Oper.wp P o a w K Q else E := by
  have hw : Region.wanted o (yielded ops a.tmps) = true := by simp [Region.wanted, hgd]
  rw [if_pos hw]
  by_cases h0 : cs.length = 0
  · obtain rfl : cs = [] := List.eq_nil_of_length_eq_zero h0
    have hrun := run_copy_none (P := P) w dT sT o.type elem dp sp dLen dCap sLen sCap hu hsz (by simpa using hn.symm)
    unfold Oper.wp
    simp [execOp, ho, resolve, invoke, builtin, hd, hs, hrun, Result.andThen]
    exact h w (show _ = _ by simpa [splice] using hg) ⟨rfl, rfl, rfl, Nat.le_refl _, fun _ _ _ => rfl⟩ rfl
  · obtain ⟨rfl, ad, rfl, hsrc⟩ := hpos (by omega)
    have hrun := run_copy_row (P := P) w dT sT o.type elem g off dLen dCap ad sLen sCap cur.toArray t cs hu hsz hg hn hsrc (by simpa using hfit) h1
    unfold Oper.wp
    simp [execOp, ho, resolve, invoke, builtin, hd, hs, hrun, Result.andThen]
    exact h _ (show _ = _ by simpa [splice] using setRow_heap w g _ _ t _ hg) (grown_setRow w g _) (by simp [World.setRow])
end Go.Proofs.Ytoncfodlffofdaa
