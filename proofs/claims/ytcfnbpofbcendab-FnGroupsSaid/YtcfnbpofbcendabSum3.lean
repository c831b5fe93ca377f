/- Contracts of the model's Minus, Change, l1Min and Least: own bags that read as told; a number; nothing that lay has turned. -/
import Derived.Test.YtcfnbpofbcendabSum2
import Derived.Test.YtcfnbpofbcendabMergeThy
namespace Go.Proofs.Ytcfnbpofbcendab
open Go.RowKit

theorem OwnBag.low {lo lo' : Nat} {bag : List (List Int × Int)} {w0 w : World} {e : Ending} {w' : World} (h : OwnBag lo bag w e w') (hl : lo' ≤ lo) (hb : Below lo' w0 w) : OwnBag lo' bag w0 e w' := by
  obtain ⟨g, cap, es, he, hO, hp, hb'⟩ := h
  exact ⟨g, cap, es, he, OBag.lower hO hl, hp, hb.trans (hb'.mono hl)⟩
/-- A bag in order turned round; else the empty bag. -/
def minusB (a : List (List Int × Int)) : List (List Int × Int) := if bagOkB a = true then minusL a else []
/-- Two bags in order: what comes from the one to the other; else the empty bag. -/
def changeB (a b : List (List Int × Int)) : List (List Int × Int) := if (bagOkB a && bagOkB b) = true then changeL a b else []
/-- The least number of the first k counts (of the first one alone where k is 0). -/
def lstTo (b : List (List Int × Int)) (k : Nat) : Int := (b.take k).foldl (fun m p => min m p.2) (nx b 0)
theorem lst_zero (b : List (List Int × Int)) : lstTo b 0 = nx b 0 := by simp [lstTo]
theorem lst_succ {b : List (List Int × Int)} {k : Nat} (h : k < b.length) : lstTo b (k + 1) = min (lstTo b k) (nx b k) := by
  unfold lstTo
  rw [List.take_succ_eq_append_getElem h, List.foldl_append]
  simp [nx, h]
theorem lst_one {b : List (List Int × Int)} (h : 0 < b.length) : lstTo b 1 = nx b 0 := by
  rw [lst_succ h, lst_zero]; omega
def leastB (b : List (List Int × Int)) : Int := if bagOkB b = true ∧ 0 < b.length then lstTo b b.length else 0
end Go.Proofs.Ytcfnbpofbcendab
