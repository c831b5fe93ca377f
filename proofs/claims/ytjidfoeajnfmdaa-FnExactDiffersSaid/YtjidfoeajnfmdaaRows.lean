/-
  No cell of these rows narrows 'for every input' (looked for: loops, veiled, ifaces, maps, wideKeys, modest, calm, conditions, laid).
  DERIVED. THE GIVEN ROWS OF THIS SEAT. 4 by the template 'for every input the law returns true; each argument reads behind the call as it read before'; 0 by the template 'total and deterministic' (their statements: YtjidfoeajnfmdaaTotals.lean).
  GIVEN WITH THE SEED: the statements are not yours to turn. If you find one false, say at which input.
  Laid BY PROGRAM, IN A SANDBOX (cutbox-rows.mjs): the forced cells as the released guide's own fill.sh prints them over the translation 109acfea59dd12dd… (all of the seat's roots in one cut). By AI agents, Wed Nov 11 2026. No macro, syntax, notation, axiom, sorry.
-/
import Derived.Test.YtjidfoeajnfmdaaChecked
import GoSem.Claim
import GoSem.ClaimJoined
import GoSem.ClaimMapViews
import Derived.JoinedTies
import Derived.KernelRfl
namespace Go.Proofs.Ytjidfoeajnfmdaa
/- THE CELL 'sum', in the pinned program and in every row, IS THE sha256 OF THE DUMP (.gsa) THAT YtjidfoeajnfmdaaProg.lean LOADS. Nothing in Lean hashes anything: it is a label: what it is worth is what the hold of that sum in a sandbox is worth. -/
noncomputable def Try.pinned : Pinned := { name := "ytjidfoeajnfmdaa", sum := "109acfea59dd12dd5fb1c8393dfea30d0344d510f926ddf105836d613b5976d9", checked := Try.checked }
namespace Rows
def none {H : Type} : Left H := { results := [], args := [] }

/-- 'laws.FnExactBaseOk': WHATEVER THE INPUT: true; the input reads as it did. -/
def fnExactBaseOkSpec : ChangeSpec := { name := "fnExactBaseOk", fn := fun _ => fun
  | [d] => { results := [.lit (.bool true)], args := [d] }
  | _ => none }
def fnExactBaseOkRow : OpenClaim := { program := "ytjidfoeajnfmdaa", sum := "109acfea59dd12dd5fb1c8393dfea30d0344d510f926ddf105836d613b5976d9", func := "loop.example/g00604/laws.FnExactBaseOk", spec := "fnExactBaseOk", unfollowed := true, recurses := true, apart := false }
def FnExactBaseOkSaid : Prop := fnExactBaseOkRow.holds Try.pinned (OpenSpec.ofChange fnExactBaseOkSpec)

/-- ITS FALSE NEIGHBOUR: 'it returns false'. Refute it at one input. -/
def fnExactBaseOkWrong : ChangeSpec := { name := "fnExactBaseOk", fn := fun _ => fun
  | [d] => { results := [.lit (.bool false)], args := [d] }
  | _ => none }
def FnExactBaseOkWrongFalsely : Prop := fnExactBaseOkRow.holds Try.pinned (OpenSpec.ofChange fnExactBaseOkWrong)

/-- 'laws.FnExactTableIn': WHATEVER THE INPUT: true; the input reads as it did. -/
def fnExactTableInSpec : ChangeSpec := { name := "fnExactTableIn", fn := fun _ => fun
  | [d1, d2] => { results := [.lit (.bool true)], args := [d1, d2] }
  | _ => none }
def fnExactTableInRow : OpenClaim := { program := "ytjidfoeajnfmdaa", sum := "109acfea59dd12dd5fb1c8393dfea30d0344d510f926ddf105836d613b5976d9", func := "loop.example/g00604/laws.FnExactTableIn", spec := "fnExactTableIn", apart := false }
def FnExactTableInSaid : Prop := fnExactTableInRow.holds Try.pinned (OpenSpec.ofChange fnExactTableInSpec)

/-- ITS FALSE NEIGHBOUR: 'it returns false'. Refute it at one input. -/
def fnExactTableInWrong : ChangeSpec := { name := "fnExactTableIn", fn := fun _ => fun
  | [d1, d2] => { results := [.lit (.bool false)], args := [d1, d2] }
  | _ => none }
def FnExactTableInWrongFalsely : Prop := fnExactTableInRow.holds Try.pinned (OpenSpec.ofChange fnExactTableInWrong)

/-- 'laws.FnExactDiffers': WHATEVER THE INPUT: true; the input reads as it did. -/
def fnExactDiffersSpec : ChangeSpec := { name := "fnExactDiffers", fn := fun _ => fun
  | [d1, d2, d3] => { results := [.lit (.bool true)], args := [d1, d2, d3] }
  | _ => none }
def fnExactDiffersRow : OpenClaim := { program := "ytjidfoeajnfmdaa", sum := "109acfea59dd12dd5fb1c8393dfea30d0344d510f926ddf105836d613b5976d9", func := "loop.example/g00604/laws.FnExactDiffers", spec := "fnExactDiffers", unfollowed := true, recurses := true, apart := false }
def FnExactDiffersSaid : Prop := fnExactDiffersRow.holds Try.pinned (OpenSpec.ofChange fnExactDiffersSpec)

/-- ITS FALSE NEIGHBOUR: 'it returns false'. Refute it at one input. -/
def fnExactDiffersWrong : ChangeSpec := { name := "fnExactDiffers", fn := fun _ => fun
  | [d1, d2, d3] => { results := [.lit (.bool false)], args := [d1, d2, d3] }
  | _ => none }
def FnExactDiffersWrongFalsely : Prop := fnExactDiffersRow.holds Try.pinned (OpenSpec.ofChange fnExactDiffersWrong)

/-- 'laws.FnDiffers': WHATEVER THE INPUT: true; the input reads as it did. -/
def fnDiffersSpec : ChangeSpec := { name := "fnDiffers", fn := fun _ => fun
  | [d] => { results := [.lit (.bool true)], args := [d] }
  | _ => none }
def fnDiffersRow : OpenClaim := { program := "ytjidfoeajnfmdaa", sum := "109acfea59dd12dd5fb1c8393dfea30d0344d510f926ddf105836d613b5976d9", func := "loop.example/g00604/laws.FnDiffers", spec := "fnDiffers", unfollowed := true, recurses := true, apart := false }
def FnDiffersSaid : Prop := fnDiffersRow.holds Try.pinned (OpenSpec.ofChange fnDiffersSpec)

/-- ITS FALSE NEIGHBOUR: 'it returns false'. Refute it at one input. -/
def fnDiffersWrong : ChangeSpec := { name := "fnDiffers", fn := fun _ => fun
  | [d] => { results := [.lit (.bool false)], args := [d] }
  | _ => none }
def FnDiffersWrongFalsely : Prop := fnDiffersRow.holds Try.pinned (OpenSpec.ofChange fnDiffersWrong)

/- THE SECOND FORM. 'bulk': how many values and letters a reading holds, each counted each time it is reached (what is shared counts as often as it is met; a slice's spare places count too). A statement '..UptoSaid' is the law's where the arguments, and the package variables that the reading takes, are together of bulk at most 1048576: NARROWER than '..Said'. Prove '..Said' where nothing that the law and all that it calls make is longer than what came in: it says more and counts as full. Else prove '..UptoSaid'. A law counts once. -/
mutual
def uptoBulk {H : Type} : DataW H → Nat
  | .lit (.string bytes) => bytes.length + 1
  | .lit _ => 1
  | .nil => 1
  | .ptr d => uptoBulk d + 1
  | .slice elems spare => uptoBulkAll elems + uptoBulkAll spare + 1
  | .agg parts => uptoBulkAll parts + 1
  | .iface _ d => uptoBulk d + 1
  | .map entries => uptoBulkEntries entries + 1
  | .held _ => 1
def uptoBulkAll {H : Type} : List (DataW H) → Nat
  | [] => 0
  | d :: r => uptoBulk d + uptoBulkAll r
def uptoBulkEntries {H : Type} : List (Lit × DataW H) → Nat
  | [] => 0
  | x :: r => uptoBulkEntry x + uptoBulkEntries r
def uptoBulkEntry {H : Type} : Lit × DataW H → Nat
  | (.string bytes, d) => bytes.length + uptoBulk d + 1
  | (_, d) => uptoBulk d + 1
 end
def uptoSmall : (H : Type) → List (DataW H) → Bool := fun _ ds => decide (uptoBulkAll ds ≤ 1048576)
def OpenSpec.upto (s : _root_.Go.ChangeSpec) : _root_.Go.OpenSpec := { _root_.Go.OpenSpec.ofChange s with cond := some uptoSmall }

/-- 'laws.FnExactBaseOk', WHERE WHAT IT READS IS OF BULK AT MOST 1048576: true; the input reads as it did. -/
def fnExactBaseOkUptoRow : OpenClaim := { program := "ytjidfoeajnfmdaa", sum := "109acfea59dd12dd5fb1c8393dfea30d0344d510f926ddf105836d613b5976d9", func := "loop.example/g00604/laws.FnExactBaseOk", spec := "fnExactBaseOk", unfollowed := true, recurses := true, apart := false, narrowed := true }
def FnExactBaseOkUptoSaid : Prop := fnExactBaseOkUptoRow.holds Try.pinned (OpenSpec.upto fnExactBaseOkSpec)

/-- 'laws.FnExactTableIn', WHERE WHAT IT READS IS OF BULK AT MOST 1048576: true; the input reads as it did. -/
def fnExactTableInUptoRow : OpenClaim := { program := "ytjidfoeajnfmdaa", sum := "109acfea59dd12dd5fb1c8393dfea30d0344d510f926ddf105836d613b5976d9", func := "loop.example/g00604/laws.FnExactTableIn", spec := "fnExactTableIn", apart := false, narrowed := true }
def FnExactTableInUptoSaid : Prop := fnExactTableInUptoRow.holds Try.pinned (OpenSpec.upto fnExactTableInSpec)

/-- 'laws.FnExactDiffers', WHERE WHAT IT READS IS OF BULK AT MOST 1048576: true; the input reads as it did. -/
def fnExactDiffersUptoRow : OpenClaim := { program := "ytjidfoeajnfmdaa", sum := "109acfea59dd12dd5fb1c8393dfea30d0344d510f926ddf105836d613b5976d9", func := "loop.example/g00604/laws.FnExactDiffers", spec := "fnExactDiffers", unfollowed := true, recurses := true, apart := false, narrowed := true }
def FnExactDiffersUptoSaid : Prop := fnExactDiffersUptoRow.holds Try.pinned (OpenSpec.upto fnExactDiffersSpec)

/-- 'laws.FnDiffers', WHERE WHAT IT READS IS OF BULK AT MOST 1048576: true; the input reads as it did. -/
def fnDiffersUptoRow : OpenClaim := { program := "ytjidfoeajnfmdaa", sum := "109acfea59dd12dd5fb1c8393dfea30d0344d510f926ddf105836d613b5976d9", func := "loop.example/g00604/laws.FnDiffers", spec := "fnDiffers", unfollowed := true, recurses := true, apart := false, narrowed := true }
def FnDiffersUptoSaid : Prop := fnDiffersUptoRow.holds Try.pinned (OpenSpec.upto fnDiffersSpec)

end Rows
end Go.Proofs.Ytjidfoeajnfmdaa
