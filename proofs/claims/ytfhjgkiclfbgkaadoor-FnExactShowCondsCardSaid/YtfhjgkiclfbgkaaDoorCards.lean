/-
  DERIVED. GIVEN WITH THE SEED: THE CARDS: each row of YtfhjgkiclfbgkaaDoorRows.lean that lists a variable, with what it lists TIED to the program's text (the seventh form; the later family's looks); each row that meets fmt, with fmt's text TOLD by the authors' own Lean function (tested against real Go, not proved from fmt's source: count such statements apart). THE CARD IS WHAT COUNTS. Prove the row's statement (the work); the ties are given (YtfhjgkiclfbgkaaDoorTie.lean); close each card by the builder's one call (the guide's Derived/Test/ToyasCard.lean, 'card_holds'). Laid BY PROGRAM, IN A SANDBOX (cutbox-door.mjs). By AI agents, Wed Nov 11 2026. No macro, syntax, notation, axiom, sorry.
-/
import Derived.Test.YtfhjgkiclfbgkaaDoorRows
import GoSem.ClaimSeven
namespace Go.Proofs.YtfhjgkiclfbgkaaDoor
namespace Rows

/-- THE TIED CARD OF 'laws.FnExactShowConds'. -/
def fnExactShowCondsCard : Claim7 := { stood := { row := fnExactShowCondsRow, standIns := [], harness := (true, "5bff883ca7ce8a4e6ec348434f422abb5986a5d73a3bfffb8308f33d1d6958ca"), looks := true }, kinds := [], alts := [], laidByText := true, laidKinds := [.data, .data, .data], laidTests := true, laidLooks := .later }
def FnExactShowCondsCardSaid : Prop := Claim7.holds Tryd.pinned (.plain (OpenSpec.ofChange fnExactShowCondsSpec)) fnExactShowCondsCard

/-- THE TIED CARD OF 'laws.FnExactReadConds'. -/
def fnExactReadCondsCard : Claim7 := { stood := { row := fnExactReadCondsRow, standIns := [], harness := (true, "5bff883ca7ce8a4e6ec348434f422abb5986a5d73a3bfffb8308f33d1d6958ca"), looks := true }, kinds := [], alts := [], laidByText := true, laidKinds := [.data, .data, .data, .data, .sentinel, .sentinel, .pinned], laidTests := true, laidLooks := .later }
def FnExactReadCondsCardSaid : Prop := Claim7.holds Tryd.pinned (.plain (OpenSpec.ofChange fnExactReadCondsSpec)) fnExactReadCondsCard

/-- THE SECOND FORM's CARD OF 'laws.FnExactShowConds'. -/
def fnExactShowCondsUptoCard : Claim7 := { stood := { row := fnExactShowCondsUptoRow, standIns := [], harness := (true, "5bff883ca7ce8a4e6ec348434f422abb5986a5d73a3bfffb8308f33d1d6958ca"), looks := true }, kinds := [], alts := [], laidByText := true, laidKinds := [.data, .data, .data], laidTests := true, laidLooks := .later }
def FnExactShowCondsUptoCardSaid : Prop := Claim7.holds Tryd.pinned (.plain (OpenSpec.upto fnExactShowCondsSpec)) fnExactShowCondsUptoCard

/-- THE SECOND FORM's CARD OF 'laws.FnExactReadConds'. -/
def fnExactReadCondsUptoCard : Claim7 := { stood := { row := fnExactReadCondsUptoRow, standIns := [], harness := (true, "5bff883ca7ce8a4e6ec348434f422abb5986a5d73a3bfffb8308f33d1d6958ca"), looks := true }, kinds := [], alts := [], laidByText := true, laidKinds := [.data, .data, .data, .data, .sentinel, .sentinel, .pinned], laidTests := true, laidLooks := .later }
def FnExactReadCondsUptoCardSaid : Prop := Claim7.holds Tryd.pinned (.plain (OpenSpec.upto fnExactReadCondsSpec)) fnExactReadCondsUptoCard
end Rows
end Go.Proofs.YtfhjgkiclfbgkaaDoor
