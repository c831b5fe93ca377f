/- Contracts of the drawings of chapter 1: what is drawn is one or two slices of int64 in new memory, of so many numbers at most; nothing that lay before has turned. -/
import Derived.Test.YtdpokfjempdchaaGreatDoorDraw2
import Derived.Test.YtdpokfjempdchaaGreatDoorJA
namespace Go.Proofs.YtdpokfjempdchaaGreatDoor
open Go.RowKit

theorem l1Max_any (a b : Int) (w : World) :
    Calls Tryz.prog 44 #[.int .i64 a, .int .i64 b] w fun e w' => e = .returned (.int .i64 (max a b)) ∧ w = w' := by
  by_cases h : b < a
  all_goals
    go_enter Tryz.func44, Tryz.ntmps44
    go_wp2
    go_ret
    exact ⟨ret_int (by omega), rfl⟩
theorem own_other {w w' : World} {base s : Nat} {e : TypeId} {size : Nat} {v : Value} {n : Nat} {xs : List Value} {row : Option Nat} (h : w.ownsRow base e size v n xs) (hg : w.grownBy w' row) (hr : ∀ r, row = some r → s ≤ r) (hv : ∀ g, v.ownBlock = some g → g < s) : w'.ownsRow base e size v n xs := by
  refine h.kept hg ?_
  cases hb : v.ownBlock with
  | none => exact .inl rfl
  | some g => right; intro e; have h1 := hr g e.symm; have h2 := hv g hb; omega
theorem own_lt {w : World} {base : Nat} {e : TypeId} {size : Nat} {v : Value} {n : Nat} {xs : List Value} (h : w.ownsRow base e size v n xs) : ∀ g, v.ownBlock = some g → g < w.heap.size := fun g hg => (h.lt g hg).2

/-- One slice drawn from a code: new memory; nothing that lay has turned. -/
def Drawn1 (most : Nat) (w : World) (e : Ending) (w' : World) : Prop :=
  ∃ v zs, e = .returned v ∧ zs.length ≤ most ∧ w'.ownsRow w.heap.size 2 1 v zs.length (i64l zs) ∧ Below w.heap.size w w'
/-- Two slices. -/
def Drawn2 (m1 m2 : Nat) (w : World) (e : Ending) (w' : World) : Prop :=
  ∃ v zs v' zs', e = .returned (.tuple #[v, v']) ∧ zs.length ≤ m1 ∧ zs'.length ≤ m2 ∧ w'.ownsRow w.heap.size 2 1 v zs.length (i64l zs) ∧ w'.ownsRow w.heap.size 2 1 v' zs'.length (i64l zs') ∧ Below w.heap.size w w'

theorem reads_own {w : World} {base : Nat} {A : Option Addr} {cap n : Nat} {xs : List Value} {e : TypeId} (h : w.ownsRow base e 1 (.slice A n cap) n xs) : Reads w w.heap.size 1 A n xs := Reads.of_own h

end Go.Proofs.YtdpokfjempdchaaGreatDoor
