/-
  DERIVED. GIVEN WITH THE SEED: THE CARDS: each row of YtpadhcoboapodaaGreatDoorRows.lean that lists a variable, with what it lists TIED to the program's text (the seventh form; the later family's looks); each row that meets fmt, with fmt's text TOLD by the authors' own Lean function (tested against real Go, not proved from fmt's source: count such statements apart). THE CARD IS WHAT COUNTS. Prove the row's statement (the work); the ties are given (YtpadhcoboapodaaGreatDoorTie.lean); close each card by the builder's one call (the guide's Derived/Test/ToyasCard.lean, 'card_holds'). Laid BY PROGRAM, IN A SANDBOX (cutbox-door.mjs). By AI agents, Wed Nov 11 2026. No macro, syntax, notation, axiom, sorry.
-/
import Derived.Test.YtpadhcoboapodaaGreatDoorRows
import GoSem.ClaimSeven
namespace Go.Proofs.YtpadhcoboapodaaGreatDoor
namespace Rows

/-- THE TIED CARD OF 'laws.FnExactReadView'. -/
def fnExactReadViewCard : Claim7 := { stood := { row := fnExactReadViewRow, standIns := [], harness := (true, "21ea9c236a5bec1a5378891ea90a3ec0c53004eea86d7602494d434a1c31bb55"), looks := true }, kinds := [], alts := [], laidByText := true, laidKinds := [.data, .data, .data, .data, .sentinel, .sentinel, .data, .pinned], laidTests := true, laidLooks := .later }
def FnExactReadViewCardSaid : Prop := Claim7.holds Tryz.pinned (.plain (OpenSpec.ofChange fnExactReadViewSpec)) fnExactReadViewCard

/-- THE SECOND FORM's CARD OF 'laws.FnExactReadView'. -/
def fnExactReadViewUptoCard : Claim7 := { stood := { row := fnExactReadViewUptoRow, standIns := [], harness := (true, "21ea9c236a5bec1a5378891ea90a3ec0c53004eea86d7602494d434a1c31bb55"), looks := true }, kinds := [], alts := [], laidByText := true, laidKinds := [.data, .data, .data, .data, .sentinel, .sentinel, .data, .pinned], laidTests := true, laidLooks := .later }
def FnExactReadViewUptoCardSaid : Prop := Claim7.holds Tryz.pinned (.plain (OpenSpec.upto fnExactReadViewSpec)) fnExactReadViewUptoCard
end Rows
end Go.Proofs.YtpadhcoboapodaaGreatDoor
