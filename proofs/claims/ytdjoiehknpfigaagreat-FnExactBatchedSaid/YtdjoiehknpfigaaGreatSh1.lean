/- Contracts of the program's standing and of what it asks of the map of tables; nothing that lay has turned. -/
import Derived.Test.YtdjoiehknpfigaaGreatSh0
import Derived.Test.YtdjoiehknpfigaaGreatTabI3
import Derived.Test.YtdjoiehknpfigaaGreatQuietB
import Derived.Laws.StructEq
namespace Go.Proofs.YtdjoiehknpfigaaGreat
open Go.RowKit

def stV (a b : Bool) : Value := .agg #[.bool a, .bool b]
theorem eqStand (a b c d : Bool) (w : World) : Sem.run Tryz.prog (binOp .eql 109 (.agg #[.bool a, .bool b]) (.agg #[.bool c, .bool d])) w = .ok (.bool (a == c && b == d)) w := by
  have u3 := Tryz.underlying4
  have a3 := Tryz.isAgg4
  have z3 := Tryz.sizeOf4
  have hS : Tryz.prog.underlying 109 = some (.struct (Tryz.prog.fieldsOf 109)) := by kernel_rfl
  have hp : Tryz.prog.stoodInHeld 109 = false := by kernel_rfl
  rw [run_eql_struct, show (10000 : Nat) = 9999 + 1 from rfl, run_equalIn_agg w 9999 109 _ _ hS hp]
  simp only [Program.fieldsOf, Tryz.underlying109]
  go_simp
  cases a <;> cases b <;> cases c <;> cases d <;> simp
/-- The code for what was wanted and what was met. -/
def codeB (a b c d : Bool) : Int := if c = a ∧ d = b then 0 else if a = true ∧ c = false then 1 else if b = true ∧ d = false then 3 else 2
set_option maxRecDepth 100000 in
set_option maxHeartbeats 2000000 in
theorem codeFor_any (a b c d : Bool) (w : World) : Calls Tryz.prog 78 #[stV a b, stV c d] w fun e w' => e = .returned (.int .i64 (codeB a b c d)) ∧ Below w.heap.size w w' := by
  have bc := bel_two (w := w) (.cells #[.bool a, .bool b] 109) (.cells #[.bool c, .bool d] 109)
  have he := eqStand
  unfold stV
  cases a <;> cases b <;> cases c <;> cases d <;>
  · go_enter Tryz.func78, Tryz.ntmps78
    go_wp2
    go_ret
    exact ⟨rfl, bc⟩
end Go.Proofs.YtdjoiehknpfigaaGreat
