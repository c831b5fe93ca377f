/-
  DERIVED. GIVEN WITH THE SEED: THE CARDS: each row of YtdpokfjempdchaaGreatDoorRows.lean that lists a variable, with what it lists TIED to the program's text (the seventh form; the later family's looks); each row that meets fmt, with fmt's text TOLD by the authors' own Lean function (tested against real Go, not proved from fmt's source: count such statements apart). THE CARD IS WHAT COUNTS. Prove the row's statement (the work); the ties are given (YtdpokfjempdchaaGreatDoorTie.lean); close each card by the builder's one call (the guide's Derived/Test/ToyasCard.lean, 'card_holds'). Laid BY PROGRAM, IN A SANDBOX (cutbox-door.mjs). By AI agents, Wed Nov 11 2026. No macro, syntax, notation, axiom, sorry.
-/
import Derived.Test.YtdpokfjempdchaaGreatDoorRows
import GoSem.ClaimSeven
namespace Go.Proofs.YtdpokfjempdchaaGreatDoor
namespace Rows

/-- THE TIED CARD OF 'laws.FnConds'. -/
def fnCondsCard : Claim7 := { stood := { row := fnCondsRow, standIns := [], harness := (true, "f8f16131e5b0a38cbebce87727432901c0f410968dd83e2c3c3901c4a220243c"), looks := true }, kinds := [], alts := [], laidByText := true, laidKinds := [.data, .data, .data, .data, .sentinel, .sentinel, .pinned], laidTests := true, laidLooks := .later }
def FnCondsCardSaid : Prop := Claim7.holds Tryz.pinned (.plain (OpenSpec.ofChange fnCondsSpec)) fnCondsCard

/-- THE SECOND FORM's CARD OF 'laws.FnConds'. -/
def fnCondsUptoCard : Claim7 := { stood := { row := fnCondsUptoRow, standIns := [], harness := (true, "f8f16131e5b0a38cbebce87727432901c0f410968dd83e2c3c3901c4a220243c"), looks := true }, kinds := [], alts := [], laidByText := true, laidKinds := [.data, .data, .data, .data, .sentinel, .sentinel, .pinned], laidTests := true, laidLooks := .later }
def FnCondsUptoCardSaid : Prop := Claim7.holds Tryz.pinned (.plain (OpenSpec.upto fnCondsSpec)) fnCondsUptoCard
end Rows
end Go.Proofs.YtdpokfjempdchaaGreatDoor
