/- Conds shown: the model's l7Show and ShowConds; for conds that are right. -/
import Derived.Test.YtpadhcoboapodaaGreatDoorJV5
import Derived.Test.YtpadhcoboapodaaGreatDoorJV1
import Derived.Deep.DeepCutAuto
namespace Go.Proofs.YtpadhcoboapodaaGreatDoor
open Go.RowKit

theorem shwT_succ (l : List Cnd) {k : Nat} (h : k < l.length) : shwT (l.take (k + 1)) = shwT (l.take k) ++ [mkB (showC (cx l k))] := by
  unfold shwT
  rw [List.take_succ_eq_append_getElem h, List.map_append, cx_eq l k h]; rfl

end Go.Proofs.YtpadhcoboapodaaGreatDoor
