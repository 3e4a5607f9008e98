/-
  DERIVED. GIVEN WITH THE SEED: THE CARDS: each row of YthncgpbgffbpgaaDoorRows.lean that lists a variable, with what it lists TIED to the program's text (the seventh form; the later family's looks); each row that meets fmt, with fmt's text TOLD by the authors' own Lean function (tested against real Go, not proved from fmt's source: count such statements apart). THE CARD IS WHAT COUNTS. Prove the row's statement (the work); the ties are given (YthncgpbgffbpgaaDoorTie.lean); close each card by the builder's one call (the guide's Derived/Test/ToyasCard.lean, 'card_holds'). Laid BY PROGRAM, IN A SANDBOX (cutbox-door.mjs). By AI agents, Wed Nov 11 2026. No macro, syntax, notation, axiom, sorry.
-/
import Derived.Test.YthncgpbgffbpgaaDoorRows
import GoSem.ClaimSeven
namespace Go.Proofs.YthncgpbgffbpgaaDoor
namespace Rows

/-- THE TIED CARD OF 'laws.FnExactIsFlow'. -/
def fnExactIsFlowCard : Claim7 := { stood := { row := fnExactIsFlowRow, standIns := [], harness := (true, "b6e47aa7de48ce0a18ece13c358b41957be38d1b9070938d36ade6fa41971384"), looks := true }, kinds := [], alts := [], laidByText := true, laidKinds := [.sentinel], laidTests := true, laidLooks := .later }
def FnExactIsFlowCardSaid : Prop := Claim7.holds Tryd.pinned (.plain (OpenSpec.ofChange fnExactIsFlowSpec)) fnExactIsFlowCard

/-- THE TIED CARD OF 'laws.FnExactIsNowhereZero'. -/
def fnExactIsNowhereZeroCard : Claim7 := { stood := { row := fnExactIsNowhereZeroRow, standIns := [], harness := (true, "b6e47aa7de48ce0a18ece13c358b41957be38d1b9070938d36ade6fa41971384"), looks := true }, kinds := [], alts := [], laidByText := true, laidKinds := [.sentinel], laidTests := true, laidLooks := .later }
def FnExactIsNowhereZeroCardSaid : Prop := Claim7.holds Tryd.pinned (.plain (OpenSpec.ofChange fnExactIsNowhereZeroSpec)) fnExactIsNowhereZeroCard

/-- THE TIED CARD OF 'laws.FnExactIsWholeFlow'. -/
def fnExactIsWholeFlowCard : Claim7 := { stood := { row := fnExactIsWholeFlowRow, standIns := [], harness := (true, "b6e47aa7de48ce0a18ece13c358b41957be38d1b9070938d36ade6fa41971384"), looks := true }, kinds := [], alts := [], laidByText := true, laidKinds := [.sentinel], laidTests := true, laidLooks := .later }
def FnExactIsWholeFlowCardSaid : Prop := Claim7.holds Tryd.pinned (.plain (OpenSpec.ofChange fnExactIsWholeFlowSpec)) fnExactIsWholeFlowCard

/-- THE TIED CARD OF 'laws.FnExactAddFlows'. -/
def fnExactAddFlowsCard : Claim7 := { stood := { row := fnExactAddFlowsRow, standIns := [], harness := (true, "b6e47aa7de48ce0a18ece13c358b41957be38d1b9070938d36ade6fa41971384"), looks := true }, kinds := [], alts := [], laidByText := true, laidKinds := [.sentinel], laidTests := true, laidLooks := .later }
def FnExactAddFlowsCardSaid : Prop := Claim7.holds Tryd.pinned (.plain (OpenSpec.ofChange fnExactAddFlowsSpec)) fnExactAddFlowsCard

/-- THE SECOND FORM's CARD OF 'laws.FnExactIsFlow'. -/
def fnExactIsFlowUptoCard : Claim7 := { stood := { row := fnExactIsFlowUptoRow, standIns := [], harness := (true, "b6e47aa7de48ce0a18ece13c358b41957be38d1b9070938d36ade6fa41971384"), looks := true }, kinds := [], alts := [], laidByText := true, laidKinds := [.sentinel], laidTests := true, laidLooks := .later }
def FnExactIsFlowUptoCardSaid : Prop := Claim7.holds Tryd.pinned (.plain (OpenSpec.upto fnExactIsFlowSpec)) fnExactIsFlowUptoCard

/-- THE SECOND FORM's CARD OF 'laws.FnExactIsNowhereZero'. -/
def fnExactIsNowhereZeroUptoCard : Claim7 := { stood := { row := fnExactIsNowhereZeroUptoRow, standIns := [], harness := (true, "b6e47aa7de48ce0a18ece13c358b41957be38d1b9070938d36ade6fa41971384"), looks := true }, kinds := [], alts := [], laidByText := true, laidKinds := [.sentinel], laidTests := true, laidLooks := .later }
def FnExactIsNowhereZeroUptoCardSaid : Prop := Claim7.holds Tryd.pinned (.plain (OpenSpec.upto fnExactIsNowhereZeroSpec)) fnExactIsNowhereZeroUptoCard

/-- THE SECOND FORM's CARD OF 'laws.FnExactIsWholeFlow'. -/
def fnExactIsWholeFlowUptoCard : Claim7 := { stood := { row := fnExactIsWholeFlowUptoRow, standIns := [], harness := (true, "b6e47aa7de48ce0a18ece13c358b41957be38d1b9070938d36ade6fa41971384"), looks := true }, kinds := [], alts := [], laidByText := true, laidKinds := [.sentinel], laidTests := true, laidLooks := .later }
def FnExactIsWholeFlowUptoCardSaid : Prop := Claim7.holds Tryd.pinned (.plain (OpenSpec.upto fnExactIsWholeFlowSpec)) fnExactIsWholeFlowUptoCard

/-- THE SECOND FORM's CARD OF 'laws.FnExactAddFlows'. -/
def fnExactAddFlowsUptoCard : Claim7 := { stood := { row := fnExactAddFlowsUptoRow, standIns := [], harness := (true, "b6e47aa7de48ce0a18ece13c358b41957be38d1b9070938d36ade6fa41971384"), looks := true }, kinds := [], alts := [], laidByText := true, laidKinds := [.sentinel], laidTests := true, laidLooks := .later }
def FnExactAddFlowsUptoCardSaid : Prop := Claim7.holds Tryd.pinned (.plain (OpenSpec.upto fnExactAddFlowsSpec)) fnExactAddFlowsUptoCard
end Rows
end Go.Proofs.YthncgpbgffbpgaaDoor
