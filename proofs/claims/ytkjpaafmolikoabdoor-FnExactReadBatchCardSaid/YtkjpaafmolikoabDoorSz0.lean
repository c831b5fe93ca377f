/- The laws' sizing of a slice of numbers: what is left, or -1; nothing that lay has turned. -/
import Derived.Test.YtkjpaafmolikoabDoorRows1
namespace Go.Proofs.YtkjpaafmolikoabDoor
open Go.RowKit

def szI (n : Nat) (left : Int) : Int := if left - (n : Int) < 0 then -1 else left - (n : Int)
set_option maxHeartbeats 1000000 in
theorem szInt64S_any (A : Option Addr) (n c : Nat) (left : Int) (w : World) (hn : n ≤ maxLen) (h0 : 0 ≤ left) (h1 : left ≤ 1048576) :
    Calls Tryd.prog 55 #[.slice A n c, .int .i64 left] w fun e w' => e = .returned (.int .i64 (szI n left)) ∧ w = w' := by
  unfold maxLen at hn
  by_cases h : left - (n : Int) < 0
  · have e : szI n left = -1 := by unfold szI; rw [if_pos h]
    rw [e]
    go_enter Tryd.func55, Tryd.ntmps55
    go_wp2
    go_ret
    exact ⟨rfl, rfl⟩
  · have e : szI n left = left - (n : Int) := by unfold szI; rw [if_neg h]
    rw [e]
    go_enter Tryd.func55, Tryd.ntmps55
    go_wp2
    go_ret
    exact ⟨rfl, rfl⟩
theorem szI_le {n : Nat} {left : Int} (h : 0 ≤ szI n left) : (n : Int) ≤ left ∧ szI n left ≤ left := by
  unfold szI at h ⊢
  split at h
  · omega
  · rename_i h2
    rw [if_neg h2]; omega
theorem szI_no {n : Nat} {left : Int} (h : szI n left < 0) : szI n left = -1 := by
  unfold szI at h ⊢
  split at h
  · rename_i h2; rw [if_pos h2]
  · omega

end Go.Proofs.YtkjpaafmolikoabDoor
