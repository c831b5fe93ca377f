/- Contracts of the program's small functions over counts: countLess, countsTogether, turnedRound, isOnce. Each says what the call returns; nothing that lay has turned. -/
import Derived.Test.YtcfnbpofbcendaaBagI2
namespace Go.Proofs.Ytcfnbpofbcendaa
open Go.RowKit

set_option maxHeartbeats 1000000 in
theorem isOnce_any (A : Option Addr) (l c : Nat) (n : Int) (w : World) :
    Calls Try.prog 62 #[.agg #[.slice A l c, .int .i64 n]] w fun e w' => e = .returned (.bool (n == 1)) ∧ Below w.heap.size w w' := by
  have b1 := (Below.refl w.heap.size w).alloc (Nat.le_refl _) (.cells #[.slice A l c, .int .i64 n] 50)
  go_enter Try.func62, Try.ntmps62
  go_wp2
  go_ret
  exact ⟨rfl, b1⟩
end Go.Proofs.Ytcfnbpofbcendaa
