/-
  No cell of these rows narrows 'for every input' (looked for: loops, veiled, ifaces, maps, wideKeys, modest, calm, conditions, laid).
  DERIVED. THE GIVEN ROWS OF THIS SEAT. 3 by the template 'for every input the law returns true; each argument reads behind the call as it read before'; 0 by the template 'total and deterministic' (their statements: YtedbjjhkjkpnkaaTotals.lean).
  GIVEN WITH THE SEED: the statements are not yours to turn. If you find one false, say at which input.
  Laid BY PROGRAM, IN A SANDBOX (cutbox-rows.mjs): the forced cells as the released guide's own fill.sh prints them over the translation 04113bbeb4eecb3c… (all of the seat's roots in one cut). By AI agents, Wed Nov 11 2026. No macro, syntax, notation, axiom, sorry.
-/
import Derived.Test.YtedbjjhkjkpnkaaChecked
import GoSem.Claim
import GoSem.ClaimJoined
import GoSem.ClaimMapViews
import Derived.JoinedTies
import Derived.KernelRfl
namespace Go.Proofs.Ytedbjjhkjkpnkaa
/- THE CELL 'sum', in the pinned program and in every row, IS THE sha256 OF THE DUMP (.gsa) THAT YtedbjjhkjkpnkaaProg.lean LOADS. Nothing in Lean hashes anything: it is a label: what it is worth is what the hold of that sum in a sandbox is worth. -/
noncomputable def Try.pinned : Pinned := { name := "ytedbjjhkjkpnkaa", sum := "04113bbeb4eecb3cc2f1d5736f305c91713aa08c3dcabef755e28fd82bef0044", checked := Try.checked }
namespace Rows
def none {H : Type} : Left H := { results := [], args := [] }

/-- 'laws.FnExactBagIn': WHATEVER THE INPUT: true; the input reads as it did. -/
def fnExactBagInSpec : ChangeSpec := { name := "fnExactBagIn", fn := fun _ => fun
  | [d1, d2, d3] => { results := [.lit (.bool true)], args := [d1, d2, d3] }
  | _ => none }
def fnExactBagInRow : OpenClaim := { program := "ytedbjjhkjkpnkaa", sum := "04113bbeb4eecb3cc2f1d5736f305c91713aa08c3dcabef755e28fd82bef0044", func := "loop.example/g00604/laws.FnExactBagIn", spec := "fnExactBagIn", unfollowed := true, recurses := true, apart := false }
def FnExactBagInSaid : Prop := fnExactBagInRow.holds Try.pinned (OpenSpec.ofChange fnExactBagInSpec)

/-- ITS FALSE NEIGHBOUR: 'it returns false'. Refute it at one input. -/
def fnExactBagInWrong : ChangeSpec := { name := "fnExactBagIn", fn := fun _ => fun
  | [d1, d2, d3] => { results := [.lit (.bool false)], args := [d1, d2, d3] }
  | _ => none }
def FnExactBagInWrongFalsely : Prop := fnExactBagInRow.holds Try.pinned (OpenSpec.ofChange fnExactBagInWrong)

/-- 'laws.FnExactDiffers': WHATEVER THE INPUT: true; the input reads as it did. -/
def fnExactDiffersSpec : ChangeSpec := { name := "fnExactDiffers", fn := fun _ => fun
  | [d1, d2, d3] => { results := [.lit (.bool true)], args := [d1, d2, d3] }
  | _ => none }
def fnExactDiffersRow : OpenClaim := { program := "ytedbjjhkjkpnkaa", sum := "04113bbeb4eecb3cc2f1d5736f305c91713aa08c3dcabef755e28fd82bef0044", func := "loop.example/g00604/laws.FnExactDiffers", spec := "fnExactDiffers", unfollowed := true, recurses := true, apart := false }
def FnExactDiffersSaid : Prop := fnExactDiffersRow.holds Try.pinned (OpenSpec.ofChange fnExactDiffersSpec)

/-- ITS FALSE NEIGHBOUR: 'it returns false'. Refute it at one input. -/
def fnExactDiffersWrong : ChangeSpec := { name := "fnExactDiffers", fn := fun _ => fun
  | [d1, d2, d3] => { results := [.lit (.bool false)], args := [d1, d2, d3] }
  | _ => none }
def FnExactDiffersWrongFalsely : Prop := fnExactDiffersRow.holds Try.pinned (OpenSpec.ofChange fnExactDiffersWrong)

/-- 'laws.FnTables': WHATEVER THE INPUT: true; the input reads as it did. -/
def fnTablesSpec : ChangeSpec := { name := "fnTables", fn := fun _ => fun
  | [d] => { results := [.lit (.bool true)], args := [d] }
  | _ => none }
def fnTablesRow : OpenClaim := { program := "ytedbjjhkjkpnkaa", sum := "04113bbeb4eecb3cc2f1d5736f305c91713aa08c3dcabef755e28fd82bef0044", func := "loop.example/g00604/laws.FnTables", spec := "fnTables", unfollowed := true, recurses := true, apart := false }
def FnTablesSaid : Prop := fnTablesRow.holds Try.pinned (OpenSpec.ofChange fnTablesSpec)

/-- ITS FALSE NEIGHBOUR: 'it returns false'. Refute it at one input. -/
def fnTablesWrong : ChangeSpec := { name := "fnTables", fn := fun _ => fun
  | [d] => { results := [.lit (.bool false)], args := [d] }
  | _ => none }
def FnTablesWrongFalsely : Prop := fnTablesRow.holds Try.pinned (OpenSpec.ofChange fnTablesWrong)

/- THE SECOND FORM. 'bulk': how many values and letters a reading holds, each counted each time it is reached (what is shared counts as often as it is met; a slice's spare places count too). A statement '..UptoSaid' is the law's where the arguments, and the package variables that the reading takes, are together of bulk at most 1048576: NARROWER than '..Said'. Prove '..Said' where nothing that the law and all that it calls make is longer than what came in: it says more and counts as full. Else prove '..UptoSaid'. A law counts once. -/
mutual
def uptoBulk {H : Type} : DataW H → Nat
  | .lit (.string bytes) => bytes.length + 1
  | .lit _ => 1
  | .nil => 1
  | .ptr d => uptoBulk d + 1
  | .slice elems spare => uptoBulkAll elems + uptoBulkAll spare + 1
  | .agg parts => uptoBulkAll parts + 1
  | .iface _ d => uptoBulk d + 1
  | .map entries => uptoBulkEntries entries + 1
  | .held _ => 1
def uptoBulkAll {H : Type} : List (DataW H) → Nat
  | [] => 0
  | d :: r => uptoBulk d + uptoBulkAll r
def uptoBulkEntries {H : Type} : List (Lit × DataW H) → Nat
  | [] => 0
  | x :: r => uptoBulkEntry x + uptoBulkEntries r
def uptoBulkEntry {H : Type} : Lit × DataW H → Nat
  | (.string bytes, d) => bytes.length + uptoBulk d + 1
  | (_, d) => uptoBulk d + 1
 end
def uptoSmall : (H : Type) → List (DataW H) → Bool := fun _ ds => decide (uptoBulkAll ds ≤ 1048576)
def OpenSpec.upto (s : _root_.Go.ChangeSpec) : _root_.Go.OpenSpec := { _root_.Go.OpenSpec.ofChange s with cond := some uptoSmall }

/-- 'laws.FnExactBagIn', WHERE WHAT IT READS IS OF BULK AT MOST 1048576: true; the input reads as it did. -/
def fnExactBagInUptoRow : OpenClaim := { program := "ytedbjjhkjkpnkaa", sum := "04113bbeb4eecb3cc2f1d5736f305c91713aa08c3dcabef755e28fd82bef0044", func := "loop.example/g00604/laws.FnExactBagIn", spec := "fnExactBagIn", unfollowed := true, recurses := true, apart := false, narrowed := true }
def FnExactBagInUptoSaid : Prop := fnExactBagInUptoRow.holds Try.pinned (OpenSpec.upto fnExactBagInSpec)

/-- 'laws.FnExactDiffers', WHERE WHAT IT READS IS OF BULK AT MOST 1048576: true; the input reads as it did. -/
def fnExactDiffersUptoRow : OpenClaim := { program := "ytedbjjhkjkpnkaa", sum := "04113bbeb4eecb3cc2f1d5736f305c91713aa08c3dcabef755e28fd82bef0044", func := "loop.example/g00604/laws.FnExactDiffers", spec := "fnExactDiffers", unfollowed := true, recurses := true, apart := false, narrowed := true }
def FnExactDiffersUptoSaid : Prop := fnExactDiffersUptoRow.holds Try.pinned (OpenSpec.upto fnExactDiffersSpec)

/-- 'laws.FnTables', WHERE WHAT IT READS IS OF BULK AT MOST 1048576: true; the input reads as it did. -/
def fnTablesUptoRow : OpenClaim := { program := "ytedbjjhkjkpnkaa", sum := "04113bbeb4eecb3cc2f1d5736f305c91713aa08c3dcabef755e28fd82bef0044", func := "loop.example/g00604/laws.FnTables", spec := "fnTables", unfollowed := true, recurses := true, apart := false, narrowed := true }
def FnTablesUptoSaid : Prop := fnTablesUptoRow.holds Try.pinned (OpenSpec.upto fnTablesSpec)

end Rows
end Go.Proofs.Ytedbjjhkjkpnkaa
