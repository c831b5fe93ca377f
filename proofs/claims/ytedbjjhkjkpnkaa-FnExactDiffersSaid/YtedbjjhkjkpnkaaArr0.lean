/- A block whose cells are a function of the place. No program is spoken of. -/
import Derived.Test.YtedbjjhkjkpnkaaJA
namespace Go.Proofs.Ytedbjjhkjkpnkaa
open Go.RowKit

/-- A block that reads as a function of the place. -/
def arr (m : Nat) (f : Nat → Value) : Array Value := ((List.range m).map f).toArray
theorem arr_get {m q : Nat} (f : Nat → Value) (h : q < m) : (arr m f)[q]? = some (f q) := by simp [arr, h]
theorem arr_set (m p : Nat) (f : Nat → Value) (v : Value) : (arr m f).setIfInBounds p v = arr m (fun q => if q = p then v else f q) := by
  apply Array.ext_getElem?
  intro q
  unfold arr
  rw [Array.getElem?_setIfInBounds]
  by_cases hq : p = q
  · subst hq
    by_cases hm : p < m
    · simp [hm]
    · simp [hm]
  · have hq' : ¬ q = p := fun e => hq e.symm
    rw [if_neg hq]
    by_cases hm : q < m
    · simp [hm, hq']
    · simp [hm]
theorem arr_congr {m : Nat} {f g : Nat → Value} (h : ∀ q, q < m → f q = g q) : arr m f = arr m g := by
  unfold arr
  congr 1
  exact List.map_congr_left fun q hq => h q (List.mem_range.1 hq)
end Go.Proofs.Ytedbjjhkjkpnkaa
