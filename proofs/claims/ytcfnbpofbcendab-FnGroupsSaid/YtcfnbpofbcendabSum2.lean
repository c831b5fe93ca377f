/- Contracts of the model's Minus, Change and IsSet. -/
import Derived.Test.YtcfnbpofbcendabSum1
import Derived.Test.YtcfnbpofbcendabJB
namespace Go.Proofs.Ytcfnbpofbcendab
open Go.RowKit

theorem minus_take {a : List (List Int × Int)} {k : Nat} (h : k < a.length) : minusL (a.take (k + 1)) = minusL (a.take k) ++ [(rx a k, -nx a k)] := by
  rw [List.take_succ_eq_append_getElem h]
  unfold minusL
  rw [List.map_append]
  simp [rx, nx, h]
theorem minus_step {a b : List (List Int × Int)} {k : Nat} (h : k < a.length) (hb : b = minusL (a.take k) ++ a.drop k) : rx b k = rx a k ∧ nx b k = nx a k ∧ b.take k ++ (rx a k, -nx a k) :: b.drop (k + 1) = minusL (a.take (k + 1)) ++ a.drop (k + 1) := by
  have hl : (minusL (a.take k)).length = k := by simp [minusL]; omega
  subst hb
  refine ⟨?_, ?_, ?_⟩
  · unfold rx; rw [List.getElem?_append_right (by omega), hl, List.getElem?_drop]; simp
  · unfold nx; rw [List.getElem?_append_right (by omega), hl, List.getElem?_drop]; simp
  · rw [List.take_append_of_le_length (by omega), List.take_of_length_le (by omega), List.drop_append, minus_take h, hl, List.drop_of_length_le (by omega), List.drop_drop]
    simp
def isSetB (b : List (List Int × Int)) : Bool := (b.all fun p => p.2 == 1) && bagOkB b
theorem isSet_no {b : List (List Int × Int)} {k : Nat} (h : k < b.length) (hn : nx b k ≠ 1) : isSetB b = false := by
  unfold isSetB
  rw [List.all_eq_false.2 ⟨b[k], List.getElem_mem h, by simpa [nx, h] using hn⟩]; rfl
end Go.Proofs.Ytcfnbpofbcendab
