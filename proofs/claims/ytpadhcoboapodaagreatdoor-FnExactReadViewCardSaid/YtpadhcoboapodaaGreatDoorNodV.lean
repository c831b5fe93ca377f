/- The model's ShowView: the text of a view, else the empty one; nothing that lay has turned. -/
import Derived.Test.YtpadhcoboapodaaGreatDoorNodS
namespace Go.Proofs.YtpadhcoboapodaaGreatDoor
open Go.RowKit

/-- The texts of the nodes. -/
def viewT (v : List Nd) : List ByteArray := v.map fun d => mkB (nodeL d)
theorem viewT_length (v : List Nd) : (viewT v).length = v.length := by simp [viewT]
theorem viewT_take_succ (v : List Nd) (k : Nat) (h : k < v.length) : viewT (v.take (k + 1)) = viewT (v.take k) ++ [mkB (nodeL (ndx v k))] := by
  unfold viewT
  rw [List.take_succ_eq_append_getElem h, List.map_append, ndx_eq v k h]; rfl
theorem viewT_bl (v : List Nd) : (viewT v).map bl = v.map nodeL := by
  unfold viewT
  rw [List.map_map]
  exact List.map_congr_left fun d _ => bl_mkB (nodeL d)
end Go.Proofs.YtpadhcoboapodaaGreatDoor
