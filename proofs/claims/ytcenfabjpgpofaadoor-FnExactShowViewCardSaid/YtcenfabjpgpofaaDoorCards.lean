/-
  DERIVED. GIVEN WITH THE SEED: THE CARDS: each row of YtcenfabjpgpofaaDoorRows.lean that lists a variable, with what it lists TIED to the program's text (the seventh form; the later family's looks); each row that meets fmt, with fmt's text TOLD by the authors' own Lean function (tested against real Go, not proved from fmt's source: count such statements apart). THE CARD IS WHAT COUNTS. Prove the row's statement (the work); the ties are given (YtcenfabjpgpofaaDoorTie.lean); close each card by the builder's one call (the guide's Derived/Test/ToyasCard.lean, 'card_holds'). Laid BY PROGRAM, IN A SANDBOX (cutbox-door.mjs). By AI agents, Wed Nov 11 2026. No macro, syntax, notation, axiom, sorry.
-/
import Derived.Test.YtcenfabjpgpofaaDoorRows
import GoSem.ClaimSeven
namespace Go.Proofs.YtcenfabjpgpofaaDoor
namespace Rows

/-- THE TIED CARD OF 'laws.FnExactNodeOk'. -/
def fnExactNodeOkCard : Claim7 := { stood := { row := fnExactNodeOkRow, standIns := [], harness := (true, "a1ef755dd5eedc555daed9405a48570586b78549160e76cc4948a0682d4ebe96"), looks := false }, kinds := [], alts := [], laidByText := true, laidKinds := [.data], laidTests := true, laidLooks := .later }
def FnExactNodeOkCardSaid : Prop := Claim7.holds Tryd.pinned (.plain (OpenSpec.ofChange fnExactNodeOkSpec)) fnExactNodeOkCard

/-- THE TIED CARD OF 'laws.FnExactViewOk'. -/
def fnExactViewOkCard : Claim7 := { stood := { row := fnExactViewOkRow, standIns := [], harness := (true, "a1ef755dd5eedc555daed9405a48570586b78549160e76cc4948a0682d4ebe96"), looks := false }, kinds := [], alts := [], laidByText := true, laidKinds := [.data], laidTests := true, laidLooks := .later }
def FnExactViewOkCardSaid : Prop := Claim7.holds Tryd.pinned (.plain (OpenSpec.ofChange fnExactViewOkSpec)) fnExactViewOkCard

/-- THE TIED CARD OF 'laws.FnExactShowView'. -/
def fnExactShowViewCard : Claim7 := { stood := { row := fnExactShowViewRow, standIns := [], harness := (true, "a1ef755dd5eedc555daed9405a48570586b78549160e76cc4948a0682d4ebe96"), looks := false }, kinds := [], alts := [], laidByText := true, laidKinds := [.data, .data, .data, .data], laidTests := true, laidLooks := .later }
def FnExactShowViewCardSaid : Prop := Claim7.holds Tryd.pinned (.plain (OpenSpec.ofChange fnExactShowViewSpec)) fnExactShowViewCard

/-- THE SECOND FORM's CARD OF 'laws.FnExactNodeOk'. -/
def fnExactNodeOkUptoCard : Claim7 := { stood := { row := fnExactNodeOkUptoRow, standIns := [], harness := (true, "a1ef755dd5eedc555daed9405a48570586b78549160e76cc4948a0682d4ebe96"), looks := false }, kinds := [], alts := [], laidByText := true, laidKinds := [.data], laidTests := true, laidLooks := .later }
def FnExactNodeOkUptoCardSaid : Prop := Claim7.holds Tryd.pinned (.plain (OpenSpec.upto fnExactNodeOkSpec)) fnExactNodeOkUptoCard

/-- THE SECOND FORM's CARD OF 'laws.FnExactViewOk'. -/
def fnExactViewOkUptoCard : Claim7 := { stood := { row := fnExactViewOkUptoRow, standIns := [], harness := (true, "a1ef755dd5eedc555daed9405a48570586b78549160e76cc4948a0682d4ebe96"), looks := false }, kinds := [], alts := [], laidByText := true, laidKinds := [.data], laidTests := true, laidLooks := .later }
def FnExactViewOkUptoCardSaid : Prop := Claim7.holds Tryd.pinned (.plain (OpenSpec.upto fnExactViewOkSpec)) fnExactViewOkUptoCard

/-- THE SECOND FORM's CARD OF 'laws.FnExactShowView'. -/
def fnExactShowViewUptoCard : Claim7 := { stood := { row := fnExactShowViewUptoRow, standIns := [], harness := (true, "a1ef755dd5eedc555daed9405a48570586b78549160e76cc4948a0682d4ebe96"), looks := false }, kinds := [], alts := [], laidByText := true, laidKinds := [.data, .data, .data, .data], laidTests := true, laidLooks := .later }
def FnExactShowViewUptoCardSaid : Prop := Claim7.holds Tryd.pinned (.plain (OpenSpec.upto fnExactShowViewSpec)) fnExactShowViewUptoCard
end Rows
end Go.Proofs.YtcenfabjpgpofaaDoor
