/- Contracts of the drawing of bags, second part: l2DrawAny, l2DrawIn: a bag, or a row of it, in new memory; the cursor goes on; nothing else that lay has turned. -/
import Derived.Test.YtdpokfjempdchaaGreatDoorDrawBag1
namespace Go.Proofs.YtdpokfjempdchaaGreatDoor
open Go.RowKit

theorem one_row (r : List Int) (n : Int) (A : Option Addr) (cp g : Nat) : entCells [(⟨r, n, A, cp, g⟩ : Ent)] = [.slice A r.length cp, .int .i64 n] := rfl
theorem Row.kC {w w' : World} {A : Option Addr} {zs : List Int} {g c : Nat} (h : Row w 2 A zs g) (hg : w.grownBy w' (some c)) (hc : Cur w c) : Row w' 2 A zs g := by
  obtain ⟨_, cp, zs', i, hh, hB, _⟩ := hc
  refine h.kept hg fun hn e1 => ?_
  obtain ⟨_, cur, hc', _⟩ := h hn
  injection e1 with e1
  rw [e1] at hc'
  unfold Blk at hB
  rw [hB] at hc'
  injection hc' with hc'
  injection hc' with _ h2 _
  exact absurd h2 (by decide)

end Go.Proofs.YtdpokfjempdchaaGreatDoor
