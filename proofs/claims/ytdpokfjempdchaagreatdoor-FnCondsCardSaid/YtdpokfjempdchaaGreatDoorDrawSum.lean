/- Contracts of the drawing for stage 3: DrawPlus, DrawChange: two bags; DrawMinus, DrawLeast, DrawIsSet: a bag; new memory; nothing that lay has turned. -/
import Derived.Test.YtdpokfjempdchaaGreatDoorDrawBag3
import Derived.Test.YtdpokfjempdchaaGreatDoorJB
namespace Go.Proofs.YtdpokfjempdchaaGreatDoor
open Go.RowKit

/-- A bag, drawn from a code. -/
def DrawnC (w : World) (e : Ending) (w' : World) : Prop :=
  ∃ g cap bag, e = .returned (.slice (some ⟨g, 0, none⟩) bag.length cap) ∧ Bag w' w'.heap.size (some ⟨g, 0, none⟩) bag ∧ bag.length ≤ cap ∧ bag.length ≤ 400 ∧ Below w.heap.size w w'
/-- Two bags, drawn from a code. -/
def DrawnBB (w : World) (e : Ending) (w' : World) : Prop :=
  ∃ g cap bag g' cap' bag', e = .returned (.tuple #[.slice (some ⟨g, 0, none⟩) bag.length cap, .slice (some ⟨g', 0, none⟩) bag'.length cap']) ∧ Bag w' w'.heap.size (some ⟨g, 0, none⟩) bag ∧ bag.length ≤ cap ∧ bag.length ≤ 400 ∧ Bag w' w'.heap.size (some ⟨g', 0, none⟩) bag' ∧ bag'.length ≤ cap' ∧ bag'.length ≤ 400 ∧ Below w.heap.size w w'
end Go.Proofs.YtdpokfjempdchaaGreatDoor
