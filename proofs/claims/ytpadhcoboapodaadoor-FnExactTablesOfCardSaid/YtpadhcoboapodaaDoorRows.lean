/-
  NARROWER THAN 'FOR EVERY INPUT', by the rows' own cells (each row's printed sentence says how): FnExactStepWidth: laid · FnExactWidthOf: laid · FnExactTablesOf: laid.
  DERIVED. THE GIVEN ROWS OF THIS SEAT. 3 by the template 'for every input the law returns true; each argument reads behind the call as it read before'; 0 by the template 'total and deterministic' (their statements: YtpadhcoboapodaaDoorTotals.lean).
  GIVEN WITH THE SEED: the statements are not yours to turn. If you find one false, say at which input.
  Laid BY PROGRAM, IN A SANDBOX (cutbox-rows.mjs): the forced cells as the released guide's own fill.sh prints them over the translation 2b4ddcf7d271a5b9… (all of the seat's roots in one cut). By AI agents, Wed Nov 11 2026. No macro, syntax, notation, axiom, sorry.
-/
import Derived.Test.YtpadhcoboapodaaDoorChecked
import GoSem.Claim
import GoSem.ClaimJoined
import GoSem.ClaimMapViews
import Derived.JoinedTies
import Derived.KernelRfl
namespace Go.Proofs.YtpadhcoboapodaaDoor
/- THE CELL 'sum', in the pinned program and in every row, IS THE sha256 OF THE DUMP (.gsa) THAT YtpadhcoboapodaaDoorProg.lean LOADS. Nothing in Lean hashes anything: it is a label: what it is worth is what the hold of that sum in a sandbox is worth. -/
noncomputable def Tryd.pinned : Pinned := { name := "ytpadhcoboapodaadoor", sum := "2b4ddcf7d271a5b97d0a63136b8cb2f25ef4597a4f2c8472c4ec69ef6c38da48", checked := Tryd.checked }
namespace Rows
def none {H : Type} : Left H := { results := [], args := [] }

/- WHAT THE LISTED PACKAGE-LEVEL VARIABLES READ AS WHEN THE CALL BEGINS. Each datum BY PROGRAM (the guide's laid-datum.mjs) off the statement by which the dump's own 'gosem.cut.vars' lays the variable. In a bare row this is a premise. The card (YtpadhcoboapodaaDoorCards.lean) ties it to the program's text. -/
def laid_loop_example_g00604_impl_nodeForms {H : Type} : DataW H := .agg [.agg [.lit (.string []), .lit (.int .i64 0), .lit (.int .i64 0), .lit (.int .i64 0)], .agg [.lit (.string [116, 97, 98, 108, 101]), .lit (.int .i64 0), .lit (.int .i64 0), .lit (.int .i64 0)], .agg [.lit (.string [119, 104, 101, 114, 101]), .lit (.int .i64 1), .lit (.int .i64 0), .lit (.int .i64 0)], .agg [.lit (.string [107, 101, 101, 112]), .lit (.int .i64 1), .lit (.int .i64 1), .lit (.int .i64 6)], .agg [.lit (.string [106, 111, 105, 110]), .lit (.int .i64 2), .lit (.int .i64 2), .lit (.int .i64 2)], .agg [.lit (.string [98, 111, 116, 104]), .lit (.int .i64 2), .lit (.int .i64 0), .lit (.int .i64 0)], .agg [.lit (.string [111, 110, 99, 101]), .lit (.int .i64 1), .lit (.int .i64 0), .lit (.int .i64 0)], .agg [.lit (.string [103, 114, 111, 117, 112]), .lit (.int .i64 1), .lit (.int .i64 0), .lit (.int .i64 3)]]

/-- 'laws.FnExactStepWidth': WHATEVER THE INPUT: true; the input reads as it did. -/
def fnExactStepWidthSpec : ChangeSpec := { name := "fnExactStepWidth", vars := ["loop.example/g00604/impl.nodeForms"], fn := fun _ => fun
  | [d1, d2, d3, g1] => { results := [.lit (.bool true)], args := [d1, d2, d3], vars := [g1] }
  | _ => none }
def fnExactStepWidthRow : OpenClaim := { program := "ytpadhcoboapodaadoor", sum := "2b4ddcf7d271a5b97d0a63136b8cb2f25ef4597a4f2c8472c4ec69ef6c38da48", func := "loop.example/g00604/laws.FnExactStepWidth", spec := "fnExactStepWidth", named := ["loop.example/g00604/impl.nodeForms"], apart := false, laid := [("loop.example/g00604/impl.nodeForms", laid_loop_example_g00604_impl_nodeForms)] }
def FnExactStepWidthSaid : Prop := fnExactStepWidthRow.holds Tryd.pinned (OpenSpec.ofChange fnExactStepWidthSpec)

/-- ITS FALSE NEIGHBOUR: 'it returns false'. Refute it at one input. -/
def fnExactStepWidthWrong : ChangeSpec := { name := "fnExactStepWidth", vars := ["loop.example/g00604/impl.nodeForms"], fn := fun _ => fun
  | [d1, d2, d3, g1] => { results := [.lit (.bool false)], args := [d1, d2, d3], vars := [g1] }
  | _ => none }
def FnExactStepWidthWrongFalsely : Prop := fnExactStepWidthRow.holds Tryd.pinned (OpenSpec.ofChange fnExactStepWidthWrong)

/-- 'laws.FnExactWidthOf': WHATEVER THE INPUT: true; the input reads as it did. -/
def fnExactWidthOfSpec : ChangeSpec := { name := "fnExactWidthOf", vars := ["loop.example/g00604/impl.nodeForms"], fn := fun _ => fun
  | [d1, d2, g1] => { results := [.lit (.bool true)], args := [d1, d2], vars := [g1] }
  | _ => none }
def fnExactWidthOfRow : OpenClaim := { program := "ytpadhcoboapodaadoor", sum := "2b4ddcf7d271a5b97d0a63136b8cb2f25ef4597a4f2c8472c4ec69ef6c38da48", func := "loop.example/g00604/laws.FnExactWidthOf", spec := "fnExactWidthOf", unfollowed := true, recurses := true, named := ["loop.example/g00604/impl.nodeForms"], apart := false, laid := [("loop.example/g00604/impl.nodeForms", laid_loop_example_g00604_impl_nodeForms)] }
def FnExactWidthOfSaid : Prop := fnExactWidthOfRow.holds Tryd.pinned (OpenSpec.ofChange fnExactWidthOfSpec)

/-- ITS FALSE NEIGHBOUR: 'it returns false'. Refute it at one input. -/
def fnExactWidthOfWrong : ChangeSpec := { name := "fnExactWidthOf", vars := ["loop.example/g00604/impl.nodeForms"], fn := fun _ => fun
  | [d1, d2, g1] => { results := [.lit (.bool false)], args := [d1, d2], vars := [g1] }
  | _ => none }
def FnExactWidthOfWrongFalsely : Prop := fnExactWidthOfRow.holds Tryd.pinned (OpenSpec.ofChange fnExactWidthOfWrong)

/-- 'laws.FnExactTablesOf': WHATEVER THE INPUT: true; the input reads as it did. -/
def fnExactTablesOfSpec : ChangeSpec := { name := "fnExactTablesOf", vars := ["loop.example/g00604/impl.nodeForms"], fn := fun _ => fun
  | [d, g1] => { results := [.lit (.bool true)], args := [d], vars := [g1] }
  | _ => none }
def fnExactTablesOfRow : OpenClaim := { program := "ytpadhcoboapodaadoor", sum := "2b4ddcf7d271a5b97d0a63136b8cb2f25ef4597a4f2c8472c4ec69ef6c38da48", func := "loop.example/g00604/laws.FnExactTablesOf", spec := "fnExactTablesOf", recurses := true, named := ["loop.example/g00604/impl.nodeForms"], apart := false, laid := [("loop.example/g00604/impl.nodeForms", laid_loop_example_g00604_impl_nodeForms)] }
def FnExactTablesOfSaid : Prop := fnExactTablesOfRow.holds Tryd.pinned (OpenSpec.ofChange fnExactTablesOfSpec)

/-- ITS FALSE NEIGHBOUR: 'it returns false'. Refute it at one input. -/
def fnExactTablesOfWrong : ChangeSpec := { name := "fnExactTablesOf", vars := ["loop.example/g00604/impl.nodeForms"], fn := fun _ => fun
  | [d, g1] => { results := [.lit (.bool false)], args := [d], vars := [g1] }
  | _ => none }
def FnExactTablesOfWrongFalsely : Prop := fnExactTablesOfRow.holds Tryd.pinned (OpenSpec.ofChange fnExactTablesOfWrong)

/- THE SECOND FORM. 'bulk': how many values and letters a reading holds, each counted each time it is reached (what is shared counts as often as it is met; a slice's spare places count too). A statement '..UptoSaid' is the law's where the arguments, and the package variables that the reading takes, are together of bulk at most 1048576: NARROWER than '..Said'. Prove '..Said' where nothing that the law and all that it calls make is longer than what came in: it says more and counts as full. Else prove '..UptoSaid'. A law counts once. -/
mutual
def uptoBulk {H : Type} : DataW H → Nat
  | .lit (.string bytes) => bytes.length + 1
  | .lit _ => 1
  | .nil => 1
  | .ptr d => uptoBulk d + 1
  | .slice elems spare => uptoBulkAll elems + uptoBulkAll spare + 1
  | .agg parts => uptoBulkAll parts + 1
  | .iface _ d => uptoBulk d + 1
  | .map entries => uptoBulkEntries entries + 1
  | .held _ => 1
def uptoBulkAll {H : Type} : List (DataW H) → Nat
  | [] => 0
  | d :: r => uptoBulk d + uptoBulkAll r
def uptoBulkEntries {H : Type} : List (Lit × DataW H) → Nat
  | [] => 0
  | x :: r => uptoBulkEntry x + uptoBulkEntries r
def uptoBulkEntry {H : Type} : Lit × DataW H → Nat
  | (.string bytes, d) => bytes.length + uptoBulk d + 1
  | (_, d) => uptoBulk d + 1
 end
def uptoSmall : (H : Type) → List (DataW H) → Bool := fun _ ds => decide (uptoBulkAll ds ≤ 1048576)
def OpenSpec.upto (s : _root_.Go.ChangeSpec) : _root_.Go.OpenSpec := { _root_.Go.OpenSpec.ofChange s with cond := some uptoSmall }

/-- 'laws.FnExactStepWidth', WHERE WHAT IT READS IS OF BULK AT MOST 1048576: true; the input reads as it did. -/
def fnExactStepWidthUptoRow : OpenClaim := { program := "ytpadhcoboapodaadoor", sum := "2b4ddcf7d271a5b97d0a63136b8cb2f25ef4597a4f2c8472c4ec69ef6c38da48", func := "loop.example/g00604/laws.FnExactStepWidth", spec := "fnExactStepWidth", named := ["loop.example/g00604/impl.nodeForms"], apart := false, laid := [("loop.example/g00604/impl.nodeForms", laid_loop_example_g00604_impl_nodeForms)], narrowed := true }
def FnExactStepWidthUptoSaid : Prop := fnExactStepWidthUptoRow.holds Tryd.pinned (OpenSpec.upto fnExactStepWidthSpec)

/-- 'laws.FnExactWidthOf', WHERE WHAT IT READS IS OF BULK AT MOST 1048576: true; the input reads as it did. -/
def fnExactWidthOfUptoRow : OpenClaim := { program := "ytpadhcoboapodaadoor", sum := "2b4ddcf7d271a5b97d0a63136b8cb2f25ef4597a4f2c8472c4ec69ef6c38da48", func := "loop.example/g00604/laws.FnExactWidthOf", spec := "fnExactWidthOf", unfollowed := true, recurses := true, named := ["loop.example/g00604/impl.nodeForms"], apart := false, laid := [("loop.example/g00604/impl.nodeForms", laid_loop_example_g00604_impl_nodeForms)], narrowed := true }
def FnExactWidthOfUptoSaid : Prop := fnExactWidthOfUptoRow.holds Tryd.pinned (OpenSpec.upto fnExactWidthOfSpec)

/-- 'laws.FnExactTablesOf', WHERE WHAT IT READS IS OF BULK AT MOST 1048576: true; the input reads as it did. -/
def fnExactTablesOfUptoRow : OpenClaim := { program := "ytpadhcoboapodaadoor", sum := "2b4ddcf7d271a5b97d0a63136b8cb2f25ef4597a4f2c8472c4ec69ef6c38da48", func := "loop.example/g00604/laws.FnExactTablesOf", spec := "fnExactTablesOf", recurses := true, named := ["loop.example/g00604/impl.nodeForms"], apart := false, laid := [("loop.example/g00604/impl.nodeForms", laid_loop_example_g00604_impl_nodeForms)], narrowed := true }
def FnExactTablesOfUptoSaid : Prop := fnExactTablesOfUptoRow.holds Tryd.pinned (OpenSpec.upto fnExactTablesOfSpec)

end Rows
end Go.Proofs.YtpadhcoboapodaaDoor
