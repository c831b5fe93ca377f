/-
  No cell of these rows narrows 'for every input' (looked for: loops, veiled, ifaces, maps, wideKeys, modest, calm, conditions, laid).
  DERIVED. THE GIVEN ROWS OF THIS SEAT. 22 by the template 'for every input the law returns true; each argument reads behind the call as it read before'; 0 by the template 'total and deterministic' (their statements: YtoncfodlffofdaaTotals.lean).
  GIVEN WITH THE SEED: the statements are not yours to turn. If you find one false, say at which input.
  Laid BY PROGRAM, IN A SANDBOX (cutbox-rows.mjs): the forced cells as the released guide's own fill.sh prints them over the translation ca1f31942f14de88… (all of the seat's roots in one cut). By AI agents, Wed Nov 11 2026. No macro, syntax, notation, axiom, sorry.
-/
import Derived.Test.YtoncfodlffofdaaChecked
import GoSem.Claim
import GoSem.ClaimJoined
import GoSem.ClaimMapViews
import Derived.JoinedTies
import Derived.KernelRfl
namespace Go.Proofs.Ytoncfodlffofdaa
/- THE CELL 'sum', in the pinned program and in every row, IS THE sha256 OF THE DUMP (.gsa) THAT YtoncfodlffofdaaProg.lean LOADS. Nothing in Lean hashes anything: it is a label: what it is worth is what the hold of that sum in a sandbox is worth. -/
noncomputable def Try.pinned : Pinned := { name := "ytoncfodlffofdaa", sum := "ca1f31942f14de881aa90514645ea04a89029cd80aa12a66329db1ba1fe6e93b", checked := Try.checked }
namespace Rows
def none {H : Type} : Left H := { results := [], args := [] }

/-- 'laws.FnWith': WHATEVER THE INPUT: true; the input reads as it did. -/
def fnWithSpec : ChangeSpec := { name := "fnWith", fn := fun _ => fun
  | [d] => { results := [.lit (.bool true)], args := [d] }
  | _ => none }
def fnWithRow : OpenClaim := { program := "ytoncfodlffofdaa", sum := "ca1f31942f14de881aa90514645ea04a89029cd80aa12a66329db1ba1fe6e93b", func := "loop.example/g00604/laws.FnWith", spec := "fnWith", unfollowed := true, recurses := true, apart := false }
def FnWithSaid : Prop := fnWithRow.holds Try.pinned (OpenSpec.ofChange fnWithSpec)

/-- ITS FALSE NEIGHBOUR: 'it returns false'. Refute it at one input. -/
def fnWithWrong : ChangeSpec := { name := "fnWith", fn := fun _ => fun
  | [d] => { results := [.lit (.bool false)], args := [d] }
  | _ => none }
def FnWithWrongFalsely : Prop := fnWithRow.holds Try.pinned (OpenSpec.ofChange fnWithWrong)

/-- 'laws.FnPlus': WHATEVER THE INPUT: true; the input reads as it did. -/
def fnPlusSpec : ChangeSpec := { name := "fnPlus", fn := fun _ => fun
  | [d] => { results := [.lit (.bool true)], args := [d] }
  | _ => none }
def fnPlusRow : OpenClaim := { program := "ytoncfodlffofdaa", sum := "ca1f31942f14de881aa90514645ea04a89029cd80aa12a66329db1ba1fe6e93b", func := "loop.example/g00604/laws.FnPlus", spec := "fnPlus", unfollowed := true, recurses := true, apart := false }
def FnPlusSaid : Prop := fnPlusRow.holds Try.pinned (OpenSpec.ofChange fnPlusSpec)

/-- ITS FALSE NEIGHBOUR: 'it returns false'. Refute it at one input. -/
def fnPlusWrong : ChangeSpec := { name := "fnPlus", fn := fun _ => fun
  | [d] => { results := [.lit (.bool false)], args := [d] }
  | _ => none }
def FnPlusWrongFalsely : Prop := fnPlusRow.holds Try.pinned (OpenSpec.ofChange fnPlusWrong)

/-- 'laws.FnChange': WHATEVER THE INPUT: true; the input reads as it did. -/
def fnChangeSpec : ChangeSpec := { name := "fnChange", fn := fun _ => fun
  | [d] => { results := [.lit (.bool true)], args := [d] }
  | _ => none }
def fnChangeRow : OpenClaim := { program := "ytoncfodlffofdaa", sum := "ca1f31942f14de881aa90514645ea04a89029cd80aa12a66329db1ba1fe6e93b", func := "loop.example/g00604/laws.FnChange", spec := "fnChange", unfollowed := true, recurses := true, apart := false }
def FnChangeSaid : Prop := fnChangeRow.holds Try.pinned (OpenSpec.ofChange fnChangeSpec)

/-- ITS FALSE NEIGHBOUR: 'it returns false'. Refute it at one input. -/
def fnChangeWrong : ChangeSpec := { name := "fnChange", fn := fun _ => fun
  | [d] => { results := [.lit (.bool false)], args := [d] }
  | _ => none }
def FnChangeWrongFalsely : Prop := fnChangeRow.holds Try.pinned (OpenSpec.ofChange fnChangeWrong)

/-- 'laws.FnTables': WHATEVER THE INPUT: true; the input reads as it did. -/
def fnTablesSpec : ChangeSpec := { name := "fnTables", fn := fun _ => fun
  | [d] => { results := [.lit (.bool true)], args := [d] }
  | _ => none }
def fnTablesRow : OpenClaim := { program := "ytoncfodlffofdaa", sum := "ca1f31942f14de881aa90514645ea04a89029cd80aa12a66329db1ba1fe6e93b", func := "loop.example/g00604/laws.FnTables", spec := "fnTables", unfollowed := true, recurses := true, apart := false }
def FnTablesSaid : Prop := fnTablesRow.holds Try.pinned (OpenSpec.ofChange fnTablesSpec)

/-- ITS FALSE NEIGHBOUR: 'it returns false'. Refute it at one input. -/
def fnTablesWrong : ChangeSpec := { name := "fnTables", fn := fun _ => fun
  | [d] => { results := [.lit (.bool false)], args := [d] }
  | _ => none }
def FnTablesWrongFalsely : Prop := fnTablesRow.holds Try.pinned (OpenSpec.ofChange fnTablesWrong)

/-- 'laws.FnExactConstants': WHATEVER THE INPUT: true; the input reads as it did. -/
def fnExactConstantsSpec : ChangeSpec := { name := "fnExactConstants", fn := fun _ => fun
  | [] => { results := [.lit (.bool true)], args := [] }
  | _ => none }
def fnExactConstantsRow : OpenClaim := { program := "ytoncfodlffofdaa", sum := "ca1f31942f14de881aa90514645ea04a89029cd80aa12a66329db1ba1fe6e93b", func := "loop.example/g00604/laws.FnExactConstants", spec := "fnExactConstants", apart := false }
def FnExactConstantsSaid : Prop := fnExactConstantsRow.holds Try.pinned (OpenSpec.ofChange fnExactConstantsSpec)

/-- ITS FALSE NEIGHBOUR: 'it returns false'. Refute it at one input. -/
def fnExactConstantsWrong : ChangeSpec := { name := "fnExactConstants", fn := fun _ => fun
  | [] => { results := [.lit (.bool false)], args := [] }
  | _ => none }
def FnExactConstantsWrongFalsely : Prop := fnExactConstantsRow.holds Try.pinned (OpenSpec.ofChange fnExactConstantsWrong)

/-- 'laws.FnExactRowOk': WHATEVER THE INPUT: true; the input reads as it did. -/
def fnExactRowOkSpec : ChangeSpec := { name := "fnExactRowOk", fn := fun _ => fun
  | [d] => { results := [.lit (.bool true)], args := [d] }
  | _ => none }
def fnExactRowOkRow : OpenClaim := { program := "ytoncfodlffofdaa", sum := "ca1f31942f14de881aa90514645ea04a89029cd80aa12a66329db1ba1fe6e93b", func := "loop.example/g00604/laws.FnExactRowOk", spec := "fnExactRowOk", unfollowed := true, recurses := true, apart := false }
def FnExactRowOkSaid : Prop := fnExactRowOkRow.holds Try.pinned (OpenSpec.ofChange fnExactRowOkSpec)

/-- ITS FALSE NEIGHBOUR: 'it returns false'. Refute it at one input. -/
def fnExactRowOkWrong : ChangeSpec := { name := "fnExactRowOk", fn := fun _ => fun
  | [d] => { results := [.lit (.bool false)], args := [d] }
  | _ => none }
def FnExactRowOkWrongFalsely : Prop := fnExactRowOkRow.holds Try.pinned (OpenSpec.ofChange fnExactRowOkWrong)

/-- 'laws.FnExactRowLess': WHATEVER THE INPUT: true; the input reads as it did. -/
def fnExactRowLessSpec : ChangeSpec := { name := "fnExactRowLess", fn := fun _ => fun
  | [d1, d2] => { results := [.lit (.bool true)], args := [d1, d2] }
  | _ => none }
def fnExactRowLessRow : OpenClaim := { program := "ytoncfodlffofdaa", sum := "ca1f31942f14de881aa90514645ea04a89029cd80aa12a66329db1ba1fe6e93b", func := "loop.example/g00604/laws.FnExactRowLess", spec := "fnExactRowLess", unfollowed := true, recurses := true, apart := false }
def FnExactRowLessSaid : Prop := fnExactRowLessRow.holds Try.pinned (OpenSpec.ofChange fnExactRowLessSpec)

/-- ITS FALSE NEIGHBOUR: 'it returns false'. Refute it at one input. -/
def fnExactRowLessWrong : ChangeSpec := { name := "fnExactRowLess", fn := fun _ => fun
  | [d1, d2] => { results := [.lit (.bool false)], args := [d1, d2] }
  | _ => none }
def FnExactRowLessWrongFalsely : Prop := fnExactRowLessRow.holds Try.pinned (OpenSpec.ofChange fnExactRowLessWrong)

/-- 'laws.FnExactPicked': WHATEVER THE INPUT: true; the input reads as it did. -/
def fnExactPickedSpec : ChangeSpec := { name := "fnExactPicked", fn := fun _ => fun
  | [d1, d2] => { results := [.lit (.bool true)], args := [d1, d2] }
  | _ => none }
def fnExactPickedRow : OpenClaim := { program := "ytoncfodlffofdaa", sum := "ca1f31942f14de881aa90514645ea04a89029cd80aa12a66329db1ba1fe6e93b", func := "loop.example/g00604/laws.FnExactPicked", spec := "fnExactPicked", apart := false }
def FnExactPickedSaid : Prop := fnExactPickedRow.holds Try.pinned (OpenSpec.ofChange fnExactPickedSpec)

/-- ITS FALSE NEIGHBOUR: 'it returns false'. Refute it at one input. -/
def fnExactPickedWrong : ChangeSpec := { name := "fnExactPicked", fn := fun _ => fun
  | [d1, d2] => { results := [.lit (.bool false)], args := [d1, d2] }
  | _ => none }
def FnExactPickedWrongFalsely : Prop := fnExactPickedRow.holds Try.pinned (OpenSpec.ofChange fnExactPickedWrong)

/-- 'laws.FnExactBagOk': WHATEVER THE INPUT: true; the input reads as it did. -/
def fnExactBagOkSpec : ChangeSpec := { name := "fnExactBagOk", fn := fun _ => fun
  | [d] => { results := [.lit (.bool true)], args := [d] }
  | _ => none }
def fnExactBagOkRow : OpenClaim := { program := "ytoncfodlffofdaa", sum := "ca1f31942f14de881aa90514645ea04a89029cd80aa12a66329db1ba1fe6e93b", func := "loop.example/g00604/laws.FnExactBagOk", spec := "fnExactBagOk", unfollowed := true, recurses := true, apart := false }
def FnExactBagOkSaid : Prop := fnExactBagOkRow.holds Try.pinned (OpenSpec.ofChange fnExactBagOkSpec)

/-- ITS FALSE NEIGHBOUR: 'it returns false'. Refute it at one input. -/
def fnExactBagOkWrong : ChangeSpec := { name := "fnExactBagOk", fn := fun _ => fun
  | [d] => { results := [.lit (.bool false)], args := [d] }
  | _ => none }
def FnExactBagOkWrongFalsely : Prop := fnExactBagOkRow.holds Try.pinned (OpenSpec.ofChange fnExactBagOkWrong)

/-- 'laws.FnExactTimesIn': WHATEVER THE INPUT: true; the input reads as it did. -/
def fnExactTimesInSpec : ChangeSpec := { name := "fnExactTimesIn", fn := fun _ => fun
  | [d1, d2] => { results := [.lit (.bool true)], args := [d1, d2] }
  | _ => none }
def fnExactTimesInRow : OpenClaim := { program := "ytoncfodlffofdaa", sum := "ca1f31942f14de881aa90514645ea04a89029cd80aa12a66329db1ba1fe6e93b", func := "loop.example/g00604/laws.FnExactTimesIn", spec := "fnExactTimesIn", apart := false }
def FnExactTimesInSaid : Prop := fnExactTimesInRow.holds Try.pinned (OpenSpec.ofChange fnExactTimesInSpec)

/-- ITS FALSE NEIGHBOUR: 'it returns false'. Refute it at one input. -/
def fnExactTimesInWrong : ChangeSpec := { name := "fnExactTimesIn", fn := fun _ => fun
  | [d1, d2] => { results := [.lit (.bool false)], args := [d1, d2] }
  | _ => none }
def FnExactTimesInWrongFalsely : Prop := fnExactTimesInRow.holds Try.pinned (OpenSpec.ofChange fnExactTimesInWrong)

/-- 'laws.FnExactWith': WHATEVER THE INPUT: true; the input reads as it did. -/
def fnExactWithSpec : ChangeSpec := { name := "fnExactWith", fn := fun _ => fun
  | [d1, d2, d3] => { results := [.lit (.bool true)], args := [d1, d2, d3] }
  | _ => none }
def fnExactWithRow : OpenClaim := { program := "ytoncfodlffofdaa", sum := "ca1f31942f14de881aa90514645ea04a89029cd80aa12a66329db1ba1fe6e93b", func := "loop.example/g00604/laws.FnExactWith", spec := "fnExactWith", unfollowed := true, recurses := true, apart := false }
def FnExactWithSaid : Prop := fnExactWithRow.holds Try.pinned (OpenSpec.ofChange fnExactWithSpec)

/-- ITS FALSE NEIGHBOUR: 'it returns false'. Refute it at one input. -/
def fnExactWithWrong : ChangeSpec := { name := "fnExactWith", fn := fun _ => fun
  | [d1, d2, d3] => { results := [.lit (.bool false)], args := [d1, d2, d3] }
  | _ => none }
def FnExactWithWrongFalsely : Prop := fnExactWithRow.holds Try.pinned (OpenSpec.ofChange fnExactWithWrong)

/-- 'laws.FnExactBagOf': WHATEVER THE INPUT: true; the input reads as it did. -/
def fnExactBagOfSpec : ChangeSpec := { name := "fnExactBagOf", fn := fun _ => fun
  | [d] => { results := [.lit (.bool true)], args := [d] }
  | _ => none }
def fnExactBagOfRow : OpenClaim := { program := "ytoncfodlffofdaa", sum := "ca1f31942f14de881aa90514645ea04a89029cd80aa12a66329db1ba1fe6e93b", func := "loop.example/g00604/laws.FnExactBagOf", spec := "fnExactBagOf", unfollowed := true, recurses := true, apart := false }
def FnExactBagOfSaid : Prop := fnExactBagOfRow.holds Try.pinned (OpenSpec.ofChange fnExactBagOfSpec)

/-- ITS FALSE NEIGHBOUR: 'it returns false'. Refute it at one input. -/
def fnExactBagOfWrong : ChangeSpec := { name := "fnExactBagOf", fn := fun _ => fun
  | [d] => { results := [.lit (.bool false)], args := [d] }
  | _ => none }
def FnExactBagOfWrongFalsely : Prop := fnExactBagOfRow.holds Try.pinned (OpenSpec.ofChange fnExactBagOfWrong)

/-- 'laws.FnExactPlus': WHATEVER THE INPUT: true; the input reads as it did. -/
def fnExactPlusSpec : ChangeSpec := { name := "fnExactPlus", fn := fun _ => fun
  | [d1, d2] => { results := [.lit (.bool true)], args := [d1, d2] }
  | _ => none }
def fnExactPlusRow : OpenClaim := { program := "ytoncfodlffofdaa", sum := "ca1f31942f14de881aa90514645ea04a89029cd80aa12a66329db1ba1fe6e93b", func := "loop.example/g00604/laws.FnExactPlus", spec := "fnExactPlus", unfollowed := true, recurses := true, apart := false }
def FnExactPlusSaid : Prop := fnExactPlusRow.holds Try.pinned (OpenSpec.ofChange fnExactPlusSpec)

/-- ITS FALSE NEIGHBOUR: 'it returns false'. Refute it at one input. -/
def fnExactPlusWrong : ChangeSpec := { name := "fnExactPlus", fn := fun _ => fun
  | [d1, d2] => { results := [.lit (.bool false)], args := [d1, d2] }
  | _ => none }
def FnExactPlusWrongFalsely : Prop := fnExactPlusRow.holds Try.pinned (OpenSpec.ofChange fnExactPlusWrong)

/-- 'laws.FnExactMinus': WHATEVER THE INPUT: true; the input reads as it did. -/
def fnExactMinusSpec : ChangeSpec := { name := "fnExactMinus", fn := fun _ => fun
  | [d] => { results := [.lit (.bool true)], args := [d] }
  | _ => none }
def fnExactMinusRow : OpenClaim := { program := "ytoncfodlffofdaa", sum := "ca1f31942f14de881aa90514645ea04a89029cd80aa12a66329db1ba1fe6e93b", func := "loop.example/g00604/laws.FnExactMinus", spec := "fnExactMinus", unfollowed := true, recurses := true, apart := false }
def FnExactMinusSaid : Prop := fnExactMinusRow.holds Try.pinned (OpenSpec.ofChange fnExactMinusSpec)

/-- ITS FALSE NEIGHBOUR: 'it returns false'. Refute it at one input. -/
def fnExactMinusWrong : ChangeSpec := { name := "fnExactMinus", fn := fun _ => fun
  | [d] => { results := [.lit (.bool false)], args := [d] }
  | _ => none }
def FnExactMinusWrongFalsely : Prop := fnExactMinusRow.holds Try.pinned (OpenSpec.ofChange fnExactMinusWrong)

/-- 'laws.FnExactChange': WHATEVER THE INPUT: true; the input reads as it did. -/
def fnExactChangeSpec : ChangeSpec := { name := "fnExactChange", fn := fun _ => fun
  | [d1, d2] => { results := [.lit (.bool true)], args := [d1, d2] }
  | _ => none }
def fnExactChangeRow : OpenClaim := { program := "ytoncfodlffofdaa", sum := "ca1f31942f14de881aa90514645ea04a89029cd80aa12a66329db1ba1fe6e93b", func := "loop.example/g00604/laws.FnExactChange", spec := "fnExactChange", unfollowed := true, recurses := true, apart := false }
def FnExactChangeSaid : Prop := fnExactChangeRow.holds Try.pinned (OpenSpec.ofChange fnExactChangeSpec)

/-- ITS FALSE NEIGHBOUR: 'it returns false'. Refute it at one input. -/
def fnExactChangeWrong : ChangeSpec := { name := "fnExactChange", fn := fun _ => fun
  | [d1, d2] => { results := [.lit (.bool false)], args := [d1, d2] }
  | _ => none }
def FnExactChangeWrongFalsely : Prop := fnExactChangeRow.holds Try.pinned (OpenSpec.ofChange fnExactChangeWrong)

/-- 'laws.FnExactIsSet': WHATEVER THE INPUT: true; the input reads as it did. -/
def fnExactIsSetSpec : ChangeSpec := { name := "fnExactIsSet", fn := fun _ => fun
  | [d] => { results := [.lit (.bool true)], args := [d] }
  | _ => none }
def fnExactIsSetRow : OpenClaim := { program := "ytoncfodlffofdaa", sum := "ca1f31942f14de881aa90514645ea04a89029cd80aa12a66329db1ba1fe6e93b", func := "loop.example/g00604/laws.FnExactIsSet", spec := "fnExactIsSet", unfollowed := true, recurses := true, apart := false }
def FnExactIsSetSaid : Prop := fnExactIsSetRow.holds Try.pinned (OpenSpec.ofChange fnExactIsSetSpec)

/-- ITS FALSE NEIGHBOUR: 'it returns false'. Refute it at one input. -/
def fnExactIsSetWrong : ChangeSpec := { name := "fnExactIsSet", fn := fun _ => fun
  | [d] => { results := [.lit (.bool false)], args := [d] }
  | _ => none }
def FnExactIsSetWrongFalsely : Prop := fnExactIsSetRow.holds Try.pinned (OpenSpec.ofChange fnExactIsSetWrong)

/-- 'laws.FnExactLeast': WHATEVER THE INPUT: true; the input reads as it did. -/
def fnExactLeastSpec : ChangeSpec := { name := "fnExactLeast", fn := fun _ => fun
  | [d] => { results := [.lit (.bool true)], args := [d] }
  | _ => none }
def fnExactLeastRow : OpenClaim := { program := "ytoncfodlffofdaa", sum := "ca1f31942f14de881aa90514645ea04a89029cd80aa12a66329db1ba1fe6e93b", func := "loop.example/g00604/laws.FnExactLeast", spec := "fnExactLeast", unfollowed := true, recurses := true, apart := false }
def FnExactLeastSaid : Prop := fnExactLeastRow.holds Try.pinned (OpenSpec.ofChange fnExactLeastSpec)

/-- ITS FALSE NEIGHBOUR: 'it returns false'. Refute it at one input. -/
def fnExactLeastWrong : ChangeSpec := { name := "fnExactLeast", fn := fun _ => fun
  | [d] => { results := [.lit (.bool false)], args := [d] }
  | _ => none }
def FnExactLeastWrongFalsely : Prop := fnExactLeastRow.holds Try.pinned (OpenSpec.ofChange fnExactLeastWrong)

/-- 'laws.FnExactTableOk': WHATEVER THE INPUT: true; the input reads as it did. -/
def fnExactTableOkSpec : ChangeSpec := { name := "fnExactTableOk", fn := fun _ => fun
  | [d] => { results := [.lit (.bool true)], args := [d] }
  | _ => none }
def fnExactTableOkRow : OpenClaim := { program := "ytoncfodlffofdaa", sum := "ca1f31942f14de881aa90514645ea04a89029cd80aa12a66329db1ba1fe6e93b", func := "loop.example/g00604/laws.FnExactTableOk", spec := "fnExactTableOk", unfollowed := true, recurses := true, apart := false }
def FnExactTableOkSaid : Prop := fnExactTableOkRow.holds Try.pinned (OpenSpec.ofChange fnExactTableOkSpec)

/-- ITS FALSE NEIGHBOUR: 'it returns false'. Refute it at one input. -/
def fnExactTableOkWrong : ChangeSpec := { name := "fnExactTableOk", fn := fun _ => fun
  | [d] => { results := [.lit (.bool false)], args := [d] }
  | _ => none }
def FnExactTableOkWrongFalsely : Prop := fnExactTableOkRow.holds Try.pinned (OpenSpec.ofChange fnExactTableOkWrong)

/-- 'laws.FnExactRowAt': WHATEVER THE INPUT: true; the input reads as it did. -/
def fnExactRowAtSpec : ChangeSpec := { name := "fnExactRowAt", fn := fun _ => fun
  | [d1, d2] => { results := [.lit (.bool true)], args := [d1, d2] }
  | _ => none }
def fnExactRowAtRow : OpenClaim := { program := "ytoncfodlffofdaa", sum := "ca1f31942f14de881aa90514645ea04a89029cd80aa12a66329db1ba1fe6e93b", func := "loop.example/g00604/laws.FnExactRowAt", spec := "fnExactRowAt", unfollowed := true, recurses := true, apart := false }
def FnExactRowAtSaid : Prop := fnExactRowAtRow.holds Try.pinned (OpenSpec.ofChange fnExactRowAtSpec)

/-- ITS FALSE NEIGHBOUR: 'it returns false'. Refute it at one input. -/
def fnExactRowAtWrong : ChangeSpec := { name := "fnExactRowAt", fn := fun _ => fun
  | [d1, d2] => { results := [.lit (.bool false)], args := [d1, d2] }
  | _ => none }
def FnExactRowAtWrongFalsely : Prop := fnExactRowAtRow.holds Try.pinned (OpenSpec.ofChange fnExactRowAtWrong)

/-- 'laws.FnExactPlaced': WHATEVER THE INPUT: true; the input reads as it did. -/
def fnExactPlacedSpec : ChangeSpec := { name := "fnExactPlaced", fn := fun _ => fun
  | [d1, d2] => { results := [.lit (.bool true)], args := [d1, d2] }
  | _ => none }
def fnExactPlacedRow : OpenClaim := { program := "ytoncfodlffofdaa", sum := "ca1f31942f14de881aa90514645ea04a89029cd80aa12a66329db1ba1fe6e93b", func := "loop.example/g00604/laws.FnExactPlaced", spec := "fnExactPlaced", unfollowed := true, recurses := true, apart := false }
def FnExactPlacedSaid : Prop := fnExactPlacedRow.holds Try.pinned (OpenSpec.ofChange fnExactPlacedSpec)

/-- ITS FALSE NEIGHBOUR: 'it returns false'. Refute it at one input. -/
def fnExactPlacedWrong : ChangeSpec := { name := "fnExactPlaced", fn := fun _ => fun
  | [d1, d2] => { results := [.lit (.bool false)], args := [d1, d2] }
  | _ => none }
def FnExactPlacedWrongFalsely : Prop := fnExactPlacedRow.holds Try.pinned (OpenSpec.ofChange fnExactPlacedWrong)

/-- 'laws.FnExactTaken': WHATEVER THE INPUT: true; the input reads as it did. -/
def fnExactTakenSpec : ChangeSpec := { name := "fnExactTaken", fn := fun _ => fun
  | [d1, d2] => { results := [.lit (.bool true)], args := [d1, d2] }
  | _ => none }
def fnExactTakenRow : OpenClaim := { program := "ytoncfodlffofdaa", sum := "ca1f31942f14de881aa90514645ea04a89029cd80aa12a66329db1ba1fe6e93b", func := "loop.example/g00604/laws.FnExactTaken", spec := "fnExactTaken", unfollowed := true, recurses := true, apart := false }
def FnExactTakenSaid : Prop := fnExactTakenRow.holds Try.pinned (OpenSpec.ofChange fnExactTakenSpec)

/-- ITS FALSE NEIGHBOUR: 'it returns false'. Refute it at one input. -/
def fnExactTakenWrong : ChangeSpec := { name := "fnExactTaken", fn := fun _ => fun
  | [d1, d2] => { results := [.lit (.bool false)], args := [d1, d2] }
  | _ => none }
def FnExactTakenWrongFalsely : Prop := fnExactTakenRow.holds Try.pinned (OpenSpec.ofChange fnExactTakenWrong)

/-- 'laws.FnExactBagIn': WHATEVER THE INPUT: true; the input reads as it did. -/
def fnExactBagInSpec : ChangeSpec := { name := "fnExactBagIn", fn := fun _ => fun
  | [d1, d2, d3] => { results := [.lit (.bool true)], args := [d1, d2, d3] }
  | _ => none }
def fnExactBagInRow : OpenClaim := { program := "ytoncfodlffofdaa", sum := "ca1f31942f14de881aa90514645ea04a89029cd80aa12a66329db1ba1fe6e93b", func := "loop.example/g00604/laws.FnExactBagIn", spec := "fnExactBagIn", unfollowed := true, recurses := true, apart := false }
def FnExactBagInSaid : Prop := fnExactBagInRow.holds Try.pinned (OpenSpec.ofChange fnExactBagInSpec)

/-- ITS FALSE NEIGHBOUR: 'it returns false'. Refute it at one input. -/
def fnExactBagInWrong : ChangeSpec := { name := "fnExactBagIn", fn := fun _ => fun
  | [d1, d2, d3] => { results := [.lit (.bool false)], args := [d1, d2, d3] }
  | _ => none }
def FnExactBagInWrongFalsely : Prop := fnExactBagInRow.holds Try.pinned (OpenSpec.ofChange fnExactBagInWrong)

/- THE SECOND FORM. 'bulk': how many values and letters a reading holds, each counted each time it is reached (what is shared counts as often as it is met; a slice's spare places count too). A statement '..UptoSaid' is the law's where the arguments, and the package variables that the reading takes, are together of bulk at most 1048576: NARROWER than '..Said'. Prove '..Said' where nothing that the law and all that it calls make is longer than what came in: it says more and counts as full. Else prove '..UptoSaid'. A law counts once. -/
mutual
def uptoBulk {H : Type} : DataW H → Nat
  | .lit (.string bytes) => bytes.length + 1
  | .lit _ => 1
  | .nil => 1
  | .ptr d => uptoBulk d + 1
  | .slice elems spare => uptoBulkAll elems + uptoBulkAll spare + 1
  | .agg parts => uptoBulkAll parts + 1
  | .iface _ d => uptoBulk d + 1
  | .map entries => uptoBulkEntries entries + 1
  | .held _ => 1
def uptoBulkAll {H : Type} : List (DataW H) → Nat
  | [] => 0
  | d :: r => uptoBulk d + uptoBulkAll r
def uptoBulkEntries {H : Type} : List (Lit × DataW H) → Nat
  | [] => 0
  | x :: r => uptoBulkEntry x + uptoBulkEntries r
def uptoBulkEntry {H : Type} : Lit × DataW H → Nat
  | (.string bytes, d) => bytes.length + uptoBulk d + 1
  | (_, d) => uptoBulk d + 1
 end
def uptoSmall : (H : Type) → List (DataW H) → Bool := fun _ ds => decide (uptoBulkAll ds ≤ 1048576)
def OpenSpec.upto (s : _root_.Go.ChangeSpec) : _root_.Go.OpenSpec := { _root_.Go.OpenSpec.ofChange s with cond := some uptoSmall }

/-- 'laws.FnWith', WHERE WHAT IT READS IS OF BULK AT MOST 1048576: true; the input reads as it did. -/
def fnWithUptoRow : OpenClaim := { program := "ytoncfodlffofdaa", sum := "ca1f31942f14de881aa90514645ea04a89029cd80aa12a66329db1ba1fe6e93b", func := "loop.example/g00604/laws.FnWith", spec := "fnWith", unfollowed := true, recurses := true, apart := false, narrowed := true }
def FnWithUptoSaid : Prop := fnWithUptoRow.holds Try.pinned (OpenSpec.upto fnWithSpec)

/-- 'laws.FnPlus', WHERE WHAT IT READS IS OF BULK AT MOST 1048576: true; the input reads as it did. -/
def fnPlusUptoRow : OpenClaim := { program := "ytoncfodlffofdaa", sum := "ca1f31942f14de881aa90514645ea04a89029cd80aa12a66329db1ba1fe6e93b", func := "loop.example/g00604/laws.FnPlus", spec := "fnPlus", unfollowed := true, recurses := true, apart := false, narrowed := true }
def FnPlusUptoSaid : Prop := fnPlusUptoRow.holds Try.pinned (OpenSpec.upto fnPlusSpec)

/-- 'laws.FnChange', WHERE WHAT IT READS IS OF BULK AT MOST 1048576: true; the input reads as it did. -/
def fnChangeUptoRow : OpenClaim := { program := "ytoncfodlffofdaa", sum := "ca1f31942f14de881aa90514645ea04a89029cd80aa12a66329db1ba1fe6e93b", func := "loop.example/g00604/laws.FnChange", spec := "fnChange", unfollowed := true, recurses := true, apart := false, narrowed := true }
def FnChangeUptoSaid : Prop := fnChangeUptoRow.holds Try.pinned (OpenSpec.upto fnChangeSpec)

/-- 'laws.FnTables', WHERE WHAT IT READS IS OF BULK AT MOST 1048576: true; the input reads as it did. -/
def fnTablesUptoRow : OpenClaim := { program := "ytoncfodlffofdaa", sum := "ca1f31942f14de881aa90514645ea04a89029cd80aa12a66329db1ba1fe6e93b", func := "loop.example/g00604/laws.FnTables", spec := "fnTables", unfollowed := true, recurses := true, apart := false, narrowed := true }
def FnTablesUptoSaid : Prop := fnTablesUptoRow.holds Try.pinned (OpenSpec.upto fnTablesSpec)

/-- 'laws.FnExactConstants', WHERE WHAT IT READS IS OF BULK AT MOST 1048576: true; the input reads as it did. -/
def fnExactConstantsUptoRow : OpenClaim := { program := "ytoncfodlffofdaa", sum := "ca1f31942f14de881aa90514645ea04a89029cd80aa12a66329db1ba1fe6e93b", func := "loop.example/g00604/laws.FnExactConstants", spec := "fnExactConstants", apart := false, narrowed := true }
def FnExactConstantsUptoSaid : Prop := fnExactConstantsUptoRow.holds Try.pinned (OpenSpec.upto fnExactConstantsSpec)

/-- 'laws.FnExactRowOk', WHERE WHAT IT READS IS OF BULK AT MOST 1048576: true; the input reads as it did. -/
def fnExactRowOkUptoRow : OpenClaim := { program := "ytoncfodlffofdaa", sum := "ca1f31942f14de881aa90514645ea04a89029cd80aa12a66329db1ba1fe6e93b", func := "loop.example/g00604/laws.FnExactRowOk", spec := "fnExactRowOk", unfollowed := true, recurses := true, apart := false, narrowed := true }
def FnExactRowOkUptoSaid : Prop := fnExactRowOkUptoRow.holds Try.pinned (OpenSpec.upto fnExactRowOkSpec)

/-- 'laws.FnExactRowLess', WHERE WHAT IT READS IS OF BULK AT MOST 1048576: true; the input reads as it did. -/
def fnExactRowLessUptoRow : OpenClaim := { program := "ytoncfodlffofdaa", sum := "ca1f31942f14de881aa90514645ea04a89029cd80aa12a66329db1ba1fe6e93b", func := "loop.example/g00604/laws.FnExactRowLess", spec := "fnExactRowLess", unfollowed := true, recurses := true, apart := false, narrowed := true }
def FnExactRowLessUptoSaid : Prop := fnExactRowLessUptoRow.holds Try.pinned (OpenSpec.upto fnExactRowLessSpec)

/-- 'laws.FnExactPicked', WHERE WHAT IT READS IS OF BULK AT MOST 1048576: true; the input reads as it did. -/
def fnExactPickedUptoRow : OpenClaim := { program := "ytoncfodlffofdaa", sum := "ca1f31942f14de881aa90514645ea04a89029cd80aa12a66329db1ba1fe6e93b", func := "loop.example/g00604/laws.FnExactPicked", spec := "fnExactPicked", apart := false, narrowed := true }
def FnExactPickedUptoSaid : Prop := fnExactPickedUptoRow.holds Try.pinned (OpenSpec.upto fnExactPickedSpec)

/-- 'laws.FnExactBagOk', WHERE WHAT IT READS IS OF BULK AT MOST 1048576: true; the input reads as it did. -/
def fnExactBagOkUptoRow : OpenClaim := { program := "ytoncfodlffofdaa", sum := "ca1f31942f14de881aa90514645ea04a89029cd80aa12a66329db1ba1fe6e93b", func := "loop.example/g00604/laws.FnExactBagOk", spec := "fnExactBagOk", unfollowed := true, recurses := true, apart := false, narrowed := true }
def FnExactBagOkUptoSaid : Prop := fnExactBagOkUptoRow.holds Try.pinned (OpenSpec.upto fnExactBagOkSpec)

/-- 'laws.FnExactTimesIn', WHERE WHAT IT READS IS OF BULK AT MOST 1048576: true; the input reads as it did. -/
def fnExactTimesInUptoRow : OpenClaim := { program := "ytoncfodlffofdaa", sum := "ca1f31942f14de881aa90514645ea04a89029cd80aa12a66329db1ba1fe6e93b", func := "loop.example/g00604/laws.FnExactTimesIn", spec := "fnExactTimesIn", apart := false, narrowed := true }
def FnExactTimesInUptoSaid : Prop := fnExactTimesInUptoRow.holds Try.pinned (OpenSpec.upto fnExactTimesInSpec)

/-- 'laws.FnExactWith', WHERE WHAT IT READS IS OF BULK AT MOST 1048576: true; the input reads as it did. -/
def fnExactWithUptoRow : OpenClaim := { program := "ytoncfodlffofdaa", sum := "ca1f31942f14de881aa90514645ea04a89029cd80aa12a66329db1ba1fe6e93b", func := "loop.example/g00604/laws.FnExactWith", spec := "fnExactWith", unfollowed := true, recurses := true, apart := false, narrowed := true }
def FnExactWithUptoSaid : Prop := fnExactWithUptoRow.holds Try.pinned (OpenSpec.upto fnExactWithSpec)

/-- 'laws.FnExactBagOf', WHERE WHAT IT READS IS OF BULK AT MOST 1048576: true; the input reads as it did. -/
def fnExactBagOfUptoRow : OpenClaim := { program := "ytoncfodlffofdaa", sum := "ca1f31942f14de881aa90514645ea04a89029cd80aa12a66329db1ba1fe6e93b", func := "loop.example/g00604/laws.FnExactBagOf", spec := "fnExactBagOf", unfollowed := true, recurses := true, apart := false, narrowed := true }
def FnExactBagOfUptoSaid : Prop := fnExactBagOfUptoRow.holds Try.pinned (OpenSpec.upto fnExactBagOfSpec)

/-- 'laws.FnExactPlus', WHERE WHAT IT READS IS OF BULK AT MOST 1048576: true; the input reads as it did. -/
def fnExactPlusUptoRow : OpenClaim := { program := "ytoncfodlffofdaa", sum := "ca1f31942f14de881aa90514645ea04a89029cd80aa12a66329db1ba1fe6e93b", func := "loop.example/g00604/laws.FnExactPlus", spec := "fnExactPlus", unfollowed := true, recurses := true, apart := false, narrowed := true }
def FnExactPlusUptoSaid : Prop := fnExactPlusUptoRow.holds Try.pinned (OpenSpec.upto fnExactPlusSpec)

/-- 'laws.FnExactMinus', WHERE WHAT IT READS IS OF BULK AT MOST 1048576: true; the input reads as it did. -/
def fnExactMinusUptoRow : OpenClaim := { program := "ytoncfodlffofdaa", sum := "ca1f31942f14de881aa90514645ea04a89029cd80aa12a66329db1ba1fe6e93b", func := "loop.example/g00604/laws.FnExactMinus", spec := "fnExactMinus", unfollowed := true, recurses := true, apart := false, narrowed := true }
def FnExactMinusUptoSaid : Prop := fnExactMinusUptoRow.holds Try.pinned (OpenSpec.upto fnExactMinusSpec)

/-- 'laws.FnExactChange', WHERE WHAT IT READS IS OF BULK AT MOST 1048576: true; the input reads as it did. -/
def fnExactChangeUptoRow : OpenClaim := { program := "ytoncfodlffofdaa", sum := "ca1f31942f14de881aa90514645ea04a89029cd80aa12a66329db1ba1fe6e93b", func := "loop.example/g00604/laws.FnExactChange", spec := "fnExactChange", unfollowed := true, recurses := true, apart := false, narrowed := true }
def FnExactChangeUptoSaid : Prop := fnExactChangeUptoRow.holds Try.pinned (OpenSpec.upto fnExactChangeSpec)

/-- 'laws.FnExactIsSet', WHERE WHAT IT READS IS OF BULK AT MOST 1048576: true; the input reads as it did. -/
def fnExactIsSetUptoRow : OpenClaim := { program := "ytoncfodlffofdaa", sum := "ca1f31942f14de881aa90514645ea04a89029cd80aa12a66329db1ba1fe6e93b", func := "loop.example/g00604/laws.FnExactIsSet", spec := "fnExactIsSet", unfollowed := true, recurses := true, apart := false, narrowed := true }
def FnExactIsSetUptoSaid : Prop := fnExactIsSetUptoRow.holds Try.pinned (OpenSpec.upto fnExactIsSetSpec)

/-- 'laws.FnExactLeast', WHERE WHAT IT READS IS OF BULK AT MOST 1048576: true; the input reads as it did. -/
def fnExactLeastUptoRow : OpenClaim := { program := "ytoncfodlffofdaa", sum := "ca1f31942f14de881aa90514645ea04a89029cd80aa12a66329db1ba1fe6e93b", func := "loop.example/g00604/laws.FnExactLeast", spec := "fnExactLeast", unfollowed := true, recurses := true, apart := false, narrowed := true }
def FnExactLeastUptoSaid : Prop := fnExactLeastUptoRow.holds Try.pinned (OpenSpec.upto fnExactLeastSpec)

/-- 'laws.FnExactTableOk', WHERE WHAT IT READS IS OF BULK AT MOST 1048576: true; the input reads as it did. -/
def fnExactTableOkUptoRow : OpenClaim := { program := "ytoncfodlffofdaa", sum := "ca1f31942f14de881aa90514645ea04a89029cd80aa12a66329db1ba1fe6e93b", func := "loop.example/g00604/laws.FnExactTableOk", spec := "fnExactTableOk", unfollowed := true, recurses := true, apart := false, narrowed := true }
def FnExactTableOkUptoSaid : Prop := fnExactTableOkUptoRow.holds Try.pinned (OpenSpec.upto fnExactTableOkSpec)

/-- 'laws.FnExactRowAt', WHERE WHAT IT READS IS OF BULK AT MOST 1048576: true; the input reads as it did. -/
def fnExactRowAtUptoRow : OpenClaim := { program := "ytoncfodlffofdaa", sum := "ca1f31942f14de881aa90514645ea04a89029cd80aa12a66329db1ba1fe6e93b", func := "loop.example/g00604/laws.FnExactRowAt", spec := "fnExactRowAt", unfollowed := true, recurses := true, apart := false, narrowed := true }
def FnExactRowAtUptoSaid : Prop := fnExactRowAtUptoRow.holds Try.pinned (OpenSpec.upto fnExactRowAtSpec)

/-- 'laws.FnExactPlaced', WHERE WHAT IT READS IS OF BULK AT MOST 1048576: true; the input reads as it did. -/
def fnExactPlacedUptoRow : OpenClaim := { program := "ytoncfodlffofdaa", sum := "ca1f31942f14de881aa90514645ea04a89029cd80aa12a66329db1ba1fe6e93b", func := "loop.example/g00604/laws.FnExactPlaced", spec := "fnExactPlaced", unfollowed := true, recurses := true, apart := false, narrowed := true }
def FnExactPlacedUptoSaid : Prop := fnExactPlacedUptoRow.holds Try.pinned (OpenSpec.upto fnExactPlacedSpec)

/-- 'laws.FnExactTaken', WHERE WHAT IT READS IS OF BULK AT MOST 1048576: true; the input reads as it did. -/
def fnExactTakenUptoRow : OpenClaim := { program := "ytoncfodlffofdaa", sum := "ca1f31942f14de881aa90514645ea04a89029cd80aa12a66329db1ba1fe6e93b", func := "loop.example/g00604/laws.FnExactTaken", spec := "fnExactTaken", unfollowed := true, recurses := true, apart := false, narrowed := true }
def FnExactTakenUptoSaid : Prop := fnExactTakenUptoRow.holds Try.pinned (OpenSpec.upto fnExactTakenSpec)

/-- 'laws.FnExactBagIn', WHERE WHAT IT READS IS OF BULK AT MOST 1048576: true; the input reads as it did. -/
def fnExactBagInUptoRow : OpenClaim := { program := "ytoncfodlffofdaa", sum := "ca1f31942f14de881aa90514645ea04a89029cd80aa12a66329db1ba1fe6e93b", func := "loop.example/g00604/laws.FnExactBagIn", spec := "fnExactBagIn", unfollowed := true, recurses := true, apart := false, narrowed := true }
def FnExactBagInUptoSaid : Prop := fnExactBagInUptoRow.holds Try.pinned (OpenSpec.upto fnExactBagInSpec)

end Rows
end Go.Proofs.Ytoncfodlffofdaa
