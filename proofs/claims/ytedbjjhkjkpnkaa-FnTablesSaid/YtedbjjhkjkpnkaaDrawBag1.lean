/- Contracts of the drawing of bags, first part: l2Draw: a bag in new memory, of 7 counts at most; the cursor goes on; nothing else that lay has turned. Words for a drawn bag whose rows may be shared. -/
import Derived.Test.YtedbjjhkjkpnkaaDraw2
import Derived.Test.YtedbjjhkjkpnkaaJD
namespace Go.Proofs.Ytedbjjhkjkpnkaa
open Go.RowKit

theorem Cur.belowB {w w' : World} {c B : Nat} (h : Cur w c) (hb : Below B w w') (hc : c < B) : Cur w' c := by
  unfold Cur at h ⊢
  obtain ⟨A, cap, zs, i, hh, hB, hU, h1, h2⟩ := h
  exact ⟨A, cap, zs, i, hh, hB.below hb hc, hU.keep (fun p hp => hb.cell (by omega)), h1, h2⟩
theorem grown_below {a b d : World} {c B : Nat} (h : a.grownBy b (some c)) (k : Below B b d) (hB : a.heap.size ≤ B) : a.grownBy d (some c) :=
  ⟨k.os.trans h.os, k.tape.trans h.tape, k.output.trans h.output, Nat.le_trans h.size k.size, fun i hi hne => (k.block i (by omega)).trans (h.block i hi hne)⟩
theorem OBag.grownC {w w' : World} {lo c : Nat} {v : Value} {es : List Ent} (h : OBag w lo v es) (hg : w.grownBy w' (some c)) (hc : c < lo) : OBag w' lo v es :=
  h.keep h.inside fun b h1 h2 => hg.block b h2 (fun e => by injection e with e; omega)
theorem Row.grownC {w w' : World} {t : TypeId} {A : Option Addr} {zs : List Int} {g c : Nat} (h : Row w t A zs g) (hg : w.grownBy w' (some c)) (hc : 0 < zs.length → g ≠ c) : Row w' t A zs g :=
  h.kept hg fun hn e => hc hn (Option.some.inj e)

/-- A drawn bag: its counts begin block g, its rows lie in blocks of numbers. -/
def RB (w : World) (lo g cap : Nat) (es : List Ent) : Prop :=
  w.ownsRow lo 63 2 (.slice (some ⟨g, 0, none⟩) es.length cap) es.length (entCells es) ∧ ∀ e ∈ es, Row w 2 e.A e.r e.g
theorem OB.rb {w : World} {lo g cap : Nat} {es : List Ent} (h : OB w lo g cap es) : RB w lo g cap es := ⟨h.1, fun e he => (h.2.1 e he).1⟩
theorem row_not {w : World} {lo : Nat} {v : Value} {n : Nat} {xs : List Value} {A : Option Addr} {r : List Int} {b : Nat} (hown : w.ownsRow lo 63 2 v n xs) (hR : Row w 2 A r b) (hn : 0 < r.length) : some b ≠ v.ownBlock := by
  intro e
  obtain ⟨_, cur, hc, _⟩ := hR hn
  rcases hown.2 with ⟨rfl, _⟩ | ⟨g, cap, cur', rfl, _, hg, _⟩
  · cases e
  · have : b = g := Option.some.inj e
    subst this
    rw [hc] at hg
    injection hg with hg
    injection hg with _ h2 _
    exact absurd h2 (by decide)
theorem RB.bag {w : World} {lo g cap : Nat} {es : List Ent} (h : RB w lo g cap es) (hl : ∀ e ∈ es, e.r.length ≤ 1099511627776) : Bag w w.heap.size (some ⟨g, 0, none⟩) (es.map Ent.pair) := fun hn => by
  simp only [List.length_map] at hn
  rcases h.1.2 with ⟨hv, _⟩ | ⟨g', cap', cur, hv, hg, hh, _, _, hs, ht⟩
  · cases hv
  · injection hv with hv _ _
    injection hv with hv
    injection hv with hv _ _
    subst hv
    have hlt := Blk.lt (t := 63) (cs := cur) hh
    refine ⟨g, 0, rfl, hlt, fun j hj => ?_⟩
    simp only [List.length_map] at hj
    have e0 : ∀ i, i < es.length * 2 → w.cell? ⟨g, 0 + i, none⟩ = (entCells es)[i]? := by
      intro i hi
      rw [Nat.zero_add, Blk.cell (t := 63) (cs := cur) hh i, ← ht, List.getElem?_take, if_pos hi, Array.getElem?_toList]
    have h1 := h.2 es[j] (List.getElem_mem hj)
    rw [rx_map hj, nx_map hj]
    refine ⟨es[j].A, es[j].c, ?_, ?_, h1.ints, hl _ (List.getElem_mem hj)⟩
    · rw [e0 (j * 2) (by omega), entCells_get0 es j hj]
    · rw [show 0 + j * 2 + 1 = 0 + (j * 2 + 1) by omega, e0 (j * 2 + 1) (by omega), entCells_get1 es j hj]
theorem RB.on {w w' : World} {lo g cap : Nat} {es : List Ent} (h : RB w lo g cap es) (hb : Below w.heap.size w w') : RB w' lo g cap es :=
  ⟨own_keepB h.1 fun r e => hb.block r (h.1.lt r e).2, fun e he => (h.2 e he).on hb⟩
theorem RB.cap {w : World} {lo g cap : Nat} {es : List Ent} (h : RB w lo g cap es) : es.length ≤ cap := by
  rcases h.1.2 with ⟨hv, _⟩ | ⟨g', cap', cur, hv, _, _, h4, _⟩
  · cases hv
  · injection hv with _ _ h3; omega
/-- Behind an append to it. -/
theorem RB.grow {w w' : World} {lo g cap : Nat} {es fs : List Ent} {v' : Value} {n : Nat} (h : RB w lo g cap es) (hg : w.grownBy w' (some g)) (hn : n = (es ++ fs).length) (hown : w'.ownsRow lo 63 2 v' n (entCells es ++ entCells fs)) (hat : v'.ownBlock = some g ∨ v'.ownBlock = some w.heap.size)
    (hfs : ∀ e ∈ fs, Row w 2 e.A e.r e.g) : ∃ g' cap', v' = .slice (some ⟨g', 0, none⟩) (es ++ fs).length cap' ∧ RB w' lo g' cap' (es ++ fs) := by
  subst hn
  obtain ⟨g', hv⟩ : ∃ g', v'.ownBlock = some g' := by
    rcases hat with h | h
    · exact ⟨_, h⟩
    · exact ⟨_, h⟩
  have hform : ∃ cap', v' = .slice (some ⟨g', 0, none⟩) (es ++ fs).length cap' := by
    rcases hown.2 with ⟨rfl, _⟩ | ⟨g2, cap2, cur, rfl, _⟩
    · cases hv
    · have e : g2 = g' := Option.some.inj hv
      subst e
      exact ⟨cap2, rfl⟩
  obtain ⟨cap', rfl⟩ := hform
  refine ⟨g', cap', rfl, by rw [entCells_append]; exact hown, fun e he => ?_⟩
  have hR : Row w 2 e.A e.r e.g := by
    rcases List.mem_append.1 he with he | he
    · exact h.2 e he
    · exact hfs e he
  exact hR.kept hg fun hn => row_not h.1 hR hn

/-- What the drawing of an own bag leaves. -/
def DrawnOB (c most wide : Nat) (w : World) (e : Ending) (w' : World) : Prop :=
  ∃ g cap es, e = .returned (.slice (some ⟨g, 0, none⟩) es.length cap) ∧ OB w' w.heap.size g cap es ∧ es.length ≤ most ∧ (∀ e ∈ es, e.r.length ≤ wide) ∧ Cur w' c ∧ w.grownBy w' (some c)

theorem withL_ents {es es' : List Ent} {row : List Int} {n : Int} {m : Nat} (h : ∀ e ∈ es, e.r.length ≤ m) (hr : row.length ≤ m) (he : es'.map Ent.pair = withL (es.map Ent.pair) row n) : (∀ e ∈ es', e.r.length ≤ m) ∧ es'.length ≤ es.length + 1 := by
  constructor
  · intro e hm
    have hp : e.pair ∈ withL (es.map Ent.pair) row n := by rw [← he]; exact List.mem_map_of_mem hm
    have hsub : e.pair ∈ es.map Ent.pair ∨ e.pair.1 = row := by
      unfold withL at hp
      split at hp
      · split at hp
        · rcases List.mem_append.1 hp with hp | hp
          · exact .inl (List.mem_of_mem_take hp)
          · exact .inl (List.mem_of_mem_drop hp)
        · rcases List.mem_append.1 hp with hp | hp
          · exact .inl (List.mem_of_mem_take hp)
          · rcases List.mem_cons.1 hp with hp | hp
            · exact .inr (by rw [hp])
            · exact .inl (List.mem_of_mem_drop hp)
      · split at hp
        · exact .inl hp
        · rcases List.mem_append.1 hp with hp | hp
          · exact .inl (List.mem_of_mem_take hp)
          · rcases List.mem_cons.1 hp with hp | hp
            · exact .inr (by rw [hp])
            · exact .inl (List.mem_of_mem_drop hp)
    rcases hsub with h1 | h1
    · obtain ⟨f, hf, e1⟩ := List.mem_map.1 h1
      have : e.r = f.r := by have := congrArg Prod.fst e1; exact this.symm
      rw [this]; exact h f hf
    · have : e.r = row := h1
      rw [this]; exact hr
  · have := congrArg List.length he
    have h2 := withL_length (bag := es.map Ent.pair) (row := row) (n := n)
    rw [List.length_map] at this h2
    omega

end Go.Proofs.Ytedbjjhkjkpnkaa
