/-
  DERIVED. GIVEN WITH THE SEED: THE CARDS: each row of YtpadhcoboapodaaDoorRows.lean that lists a variable, with what it lists TIED to the program's text (the seventh form; the later family's looks); each row that meets fmt, with fmt's text TOLD by the authors' own Lean function (tested against real Go, not proved from fmt's source: count such statements apart). THE CARD IS WHAT COUNTS. Prove the row's statement (the work); the ties are given (YtpadhcoboapodaaDoorTie.lean); close each card by the builder's one call (the guide's Derived/Test/ToyasCard.lean, 'card_holds'). Laid BY PROGRAM, IN A SANDBOX (cutbox-door.mjs). By AI agents, Wed Nov 11 2026. No macro, syntax, notation, axiom, sorry.
-/
import Derived.Test.YtpadhcoboapodaaDoorRows
import GoSem.ClaimSeven
namespace Go.Proofs.YtpadhcoboapodaaDoor
namespace Rows

/-- THE TIED CARD OF 'laws.FnExactStepWidth'. -/
def fnExactStepWidthCard : Claim7 := { stood := { row := fnExactStepWidthRow, standIns := [], harness := (true, "70def31bfd343ec0da9899c585a0baec80d5b480b44e029368e1b28d1874bc56"), looks := false }, kinds := [], alts := [], laidByText := true, laidKinds := [.data], laidTests := true, laidLooks := .later }
def FnExactStepWidthCardSaid : Prop := Claim7.holds Tryd.pinned (.plain (OpenSpec.ofChange fnExactStepWidthSpec)) fnExactStepWidthCard

/-- THE TIED CARD OF 'laws.FnExactWidthOf'. -/
def fnExactWidthOfCard : Claim7 := { stood := { row := fnExactWidthOfRow, standIns := [], harness := (true, "70def31bfd343ec0da9899c585a0baec80d5b480b44e029368e1b28d1874bc56"), looks := false }, kinds := [], alts := [], laidByText := true, laidKinds := [.data], laidTests := true, laidLooks := .later }
def FnExactWidthOfCardSaid : Prop := Claim7.holds Tryd.pinned (.plain (OpenSpec.ofChange fnExactWidthOfSpec)) fnExactWidthOfCard

/-- THE TIED CARD OF 'laws.FnExactTablesOf'. -/
def fnExactTablesOfCard : Claim7 := { stood := { row := fnExactTablesOfRow, standIns := [], harness := (true, "70def31bfd343ec0da9899c585a0baec80d5b480b44e029368e1b28d1874bc56"), looks := false }, kinds := [], alts := [], laidByText := true, laidKinds := [.data], laidTests := true, laidLooks := .later }
def FnExactTablesOfCardSaid : Prop := Claim7.holds Tryd.pinned (.plain (OpenSpec.ofChange fnExactTablesOfSpec)) fnExactTablesOfCard

/-- THE SECOND FORM's CARD OF 'laws.FnExactStepWidth'. -/
def fnExactStepWidthUptoCard : Claim7 := { stood := { row := fnExactStepWidthUptoRow, standIns := [], harness := (true, "70def31bfd343ec0da9899c585a0baec80d5b480b44e029368e1b28d1874bc56"), looks := false }, kinds := [], alts := [], laidByText := true, laidKinds := [.data], laidTests := true, laidLooks := .later }
def FnExactStepWidthUptoCardSaid : Prop := Claim7.holds Tryd.pinned (.plain (OpenSpec.upto fnExactStepWidthSpec)) fnExactStepWidthUptoCard

/-- THE SECOND FORM's CARD OF 'laws.FnExactWidthOf'. -/
def fnExactWidthOfUptoCard : Claim7 := { stood := { row := fnExactWidthOfUptoRow, standIns := [], harness := (true, "70def31bfd343ec0da9899c585a0baec80d5b480b44e029368e1b28d1874bc56"), looks := false }, kinds := [], alts := [], laidByText := true, laidKinds := [.data], laidTests := true, laidLooks := .later }
def FnExactWidthOfUptoCardSaid : Prop := Claim7.holds Tryd.pinned (.plain (OpenSpec.upto fnExactWidthOfSpec)) fnExactWidthOfUptoCard

/-- THE SECOND FORM's CARD OF 'laws.FnExactTablesOf'. -/
def fnExactTablesOfUptoCard : Claim7 := { stood := { row := fnExactTablesOfUptoRow, standIns := [], harness := (true, "70def31bfd343ec0da9899c585a0baec80d5b480b44e029368e1b28d1874bc56"), looks := false }, kinds := [], alts := [], laidByText := true, laidKinds := [.data], laidTests := true, laidLooks := .later }
def FnExactTablesOfUptoCardSaid : Prop := Claim7.holds Tryd.pinned (.plain (OpenSpec.upto fnExactTablesOfSpec)) fnExactTablesOfUptoCard
end Rows
end Go.Proofs.YtpadhcoboapodaaDoor
