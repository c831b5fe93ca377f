/- A row of the call's own: its value's form, an empty one, numbers as values. No condition; nothing of the program is named. -/
import Derived.Test.YtkjpaafmolikoabDoorBase
import Derived.Maps.AppendAt
namespace Go.Proofs.YtkjpaafmolikoabDoor
open Go.RowKit

def i64l (zs : List Int) : List Value := zs.map (Value.int .i64)
theorem i64l_length (zs : List Int) : (i64l zs).length = zs.length := by simp [i64l]
theorem i64l_append (zs ys : List Int) : i64l (zs ++ ys) = i64l zs ++ i64l ys := by simp [i64l]

theorem own_form {w : World} {base : Nat} {e : TypeId} {size : Nat} {v : Value} {n : Nat} {xs : List Value} (h : w.ownsRow base e size v n xs) : ∃ A cap, v = .slice A n cap := by
  rcases h.2 with ⟨rfl, rfl⟩ | ⟨g, cap, _, rfl, _⟩
  · exact ⟨none, 0, rfl⟩
  · exact ⟨_, cap, rfl⟩

theorem ownsRow_empty (w : World) (e : TypeId) (base : Nat) (hb : base ≤ w.heap.size) : (w.alloc (.cells #[] e)).ownsRow base e 1 (.slice (some ⟨w.heap.size, 0, none⟩) 0 0) 0 [] :=
  World.ownsRow_made w #[] 0 hb (Nat.zero_le _) rfl

end Go.Proofs.YtkjpaafmolikoabDoor
