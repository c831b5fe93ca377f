/-
  DERIVED. GIVEN WITH THE SEED: THE CARDS: each row of YtedbjjhkjkpnkaaDoorRows.lean that lists a variable, with what it lists TIED to the program's text (the seventh form; the later family's looks); each row that meets fmt, with fmt's text TOLD by the authors' own Lean function (tested against real Go, not proved from fmt's source: count such statements apart). THE CARD IS WHAT COUNTS. Prove the row's statement (the work); the ties are given (YtedbjjhkjkpnkaaDoorTie.lean); close each card by the builder's one call (the guide's Derived/Test/ToyasCard.lean, 'card_holds'). Laid BY PROGRAM, IN A SANDBOX (cutbox-door.mjs). By AI agents, Wed Nov 11 2026. No macro, syntax, notation, axiom, sorry.
-/
import Derived.Test.YtedbjjhkjkpnkaaDoorRows
import GoSem.ClaimSeven
namespace Go.Proofs.YtedbjjhkjkpnkaaDoor
namespace Rows

/-- THE TIED CARD OF 'laws.FnBags'. -/
def fnBagsCard : Claim7 := { stood := { row := fnBagsRow, standIns := [], harness := (true, "d09fda0fde19f0ef939b6d9013fce06318ceccefee58281d77c60e8b8a6be72d"), looks := true }, kinds := [], alts := [], laidByText := true, laidKinds := [.data, .data, .data], laidTests := true, laidLooks := .later }
def FnBagsCardSaid : Prop := Claim7.holds Tryd.pinned (.plain (OpenSpec.ofChange fnBagsSpec)) fnBagsCard

/-- THE SECOND FORM's CARD OF 'laws.FnBags'. -/
def fnBagsUptoCard : Claim7 := { stood := { row := fnBagsUptoRow, standIns := [], harness := (true, "d09fda0fde19f0ef939b6d9013fce06318ceccefee58281d77c60e8b8a6be72d"), looks := true }, kinds := [], alts := [], laidByText := true, laidKinds := [.data, .data, .data], laidTests := true, laidLooks := .later }
def FnBagsUptoCardSaid : Prop := Claim7.holds Tryd.pinned (.plain (OpenSpec.upto fnBagsSpec)) fnBagsUptoCard
end Rows
end Go.Proofs.YtedbjjhkjkpnkaaDoor
