/- The model's ShowView: the text of a view, else the empty one; nothing that lay has turned. -/
import Derived.Test.YtpadhcoboapodaaGreatDoorJV6
import Derived.Test.YtpadhcoboapodaaGreatDoorNod2
import Derived.Test.YtpadhcoboapodaaGreatDoorCndX
import Derived.Deep.RegionLaw
namespace Go.Proofs.YtpadhcoboapodaaGreatDoor
open Go.RowKit

def wordsA : Array Value := #[.string (wnx 1), .string (wnx 2), .string (wnx 3), .string (wnx 4), .string (wnx 5), .string (wnx 6), .string (wnx 7)]
theorem wordsA_get {q : Nat} (h1 : 1 ≤ q) (h7 : q ≤ 7) : wordsA[q - 1]? = some (.string (wnx q)) := by
  have : q = 1 ∨ q = 2 ∨ q = 3 ∨ q = 4 ∨ q = 5 ∨ q = 6 ∨ q = 7 := by omega
  rcases this with rfl | rfl | rfl | rfl | rfl | rfl | rfl <;> rfl
theorem l8Words_any (w : World) :
    Calls Tryz.prog 22 #[] w fun e w' => e = .returned (.slice (some ⟨w.heap.size, 0, none⟩) 7 7) ∧ Blk w' w.heap.size 9 wordsA ∧ Below w.heap.size w w' := by
  go_enter Tryz.func22, Tryz.ntmps22
  go_wp2
  go_ret
  exact ⟨rfl, Blk.new w _ _, (Below.refl _ _).alloc (Nat.le_refl _) _⟩
theorem size_of_bl {s : ByteArray} {l : List UInt8} (h : bl s = l) : s.size = l.length := by rw [← h, bl_length]
theorem mk_eta {s : ByteArray} {l : List UInt8} (h : bl s = l) : s = mkB l := bl_eta s l h

end Go.Proofs.YtpadhcoboapodaaGreatDoor
