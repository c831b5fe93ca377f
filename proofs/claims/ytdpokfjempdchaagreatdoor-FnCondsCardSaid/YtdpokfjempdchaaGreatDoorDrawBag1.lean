/- Contracts of the drawing of bags, first part: l2Draw: a bag in new memory, of 7 counts at most; the cursor goes on; nothing else that lay has turned. Words for a drawn bag whose rows may be shared. -/
import Derived.Test.YtdpokfjempdchaaGreatDoorDraw2
import Derived.Test.YtdpokfjempdchaaGreatDoorJD
namespace Go.Proofs.YtdpokfjempdchaaGreatDoor
open Go.RowKit

theorem Cur.belowB {w w' : World} {c B : Nat} (h : Cur w c) (hb : Below B w w') (hc : c < B) : Cur w' c := by
  unfold Cur at h ⊢
  obtain ⟨A, cap, zs, i, hh, hB, hU, h1, h2⟩ := h
  exact ⟨A, cap, zs, i, hh, hB.below hb hc, hU.keep (fun p hp => hb.cell (by omega)), h1, h2⟩
theorem grown_below {a b d : World} {c B : Nat} (h : a.grownBy b (some c)) (k : Below B b d) (hB : a.heap.size ≤ B) : a.grownBy d (some c) :=
  ⟨k.os.trans h.os, k.tape.trans h.tape, k.output.trans h.output, Nat.le_trans h.size k.size, fun i hi hne => (k.block i (by omega)).trans (h.block i hi hne)⟩
theorem Row.grownC {w w' : World} {t : TypeId} {A : Option Addr} {zs : List Int} {g c : Nat} (h : Row w t A zs g) (hg : w.grownBy w' (some c)) (hc : 0 < zs.length → g ≠ c) : Row w' t A zs g :=
  h.kept hg fun hn e => hc hn (Option.some.inj e)

theorem withL_ents {es es' : List Ent} {row : List Int} {n : Int} {m : Nat} (h : ∀ e ∈ es, e.r.length ≤ m) (hr : row.length ≤ m) (he : es'.map Ent.pair = withL (es.map Ent.pair) row n) : (∀ e ∈ es', e.r.length ≤ m) ∧ es'.length ≤ es.length + 1 := by
  constructor
  · intro e hm
    have hp : e.pair ∈ withL (es.map Ent.pair) row n := by rw [← he]; exact List.mem_map_of_mem hm
    have hsub : e.pair ∈ es.map Ent.pair ∨ e.pair.1 = row := by
      unfold withL at hp
      split at hp
      · split at hp
        · rcases List.mem_append.1 hp with hp | hp
          · exact .inl (List.mem_of_mem_take hp)
          · exact .inl (List.mem_of_mem_drop hp)
        · rcases List.mem_append.1 hp with hp | hp
          · exact .inl (List.mem_of_mem_take hp)
          · rcases List.mem_cons.1 hp with hp | hp
            · exact .inr (by rw [hp])
            · exact .inl (List.mem_of_mem_drop hp)
      · split at hp
        · exact .inl hp
        · rcases List.mem_append.1 hp with hp | hp
          · exact .inl (List.mem_of_mem_take hp)
          · rcases List.mem_cons.1 hp with hp | hp
            · exact .inr (by rw [hp])
            · exact .inl (List.mem_of_mem_drop hp)
    rcases hsub with h1 | h1
    · obtain ⟨f, hf, e1⟩ := List.mem_map.1 h1
      have : e.r = f.r := by have := congrArg Prod.fst e1; exact this.symm
      rw [this]; exact h f hf
    · have : e.r = row := h1
      rw [this]; exact hr
  · have := congrArg List.length he
    have h2 := withL_length (bag := es.map Ent.pair) (row := row) (n := n)
    rw [List.length_map] at this h2
    omega

end Go.Proofs.YtdpokfjempdchaaGreatDoor
