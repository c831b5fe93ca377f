/- Contracts of the model's sums: l3Plus, Plus, l3Minus, Minus, l3Change, Change, IsSet, l1Min, Least: a bag of the call's own that reads as told; nothing that lay has turned. -/
import Derived.Test.YtcfnbpofbcendabJC
import Derived.Test.YtcfnbpofbcendabBagI2
namespace Go.Proofs.Ytcfnbpofbcendab
open Go.RowKit

theorem plus_take {a b : List (List Int × Int)} {k : Nat} (h : k < b.length) : plusL a (b.take (k + 1)) = withL (plusL a (b.take k)) (rx b k) (nx b k) := by
  rw [List.take_succ_eq_append_getElem h]
  unfold plusL
  rw [List.foldl_append]
  simp [rx, nx, h]
/-- Two bags in order: their sum; else the empty bag. -/
def plusB (a b : List (List Int × Int)) : List (List Int × Int) := if (bagOkB a && bagOkB b) = true then plusL a b else []
end Go.Proofs.Ytcfnbpofbcendab
