/-
  DERIVED. GIVEN WITH THE SEED: THE CARDS: each row of YtdpobjgfnhjagaaDoorRows.lean that lists a variable, with what it lists TIED to the program's text (the seventh form; the later family's looks); each row that meets fmt, with fmt's text TOLD by the authors' own Lean function (tested against real Go, not proved from fmt's source: count such statements apart). THE CARD IS WHAT COUNTS. Prove the row's statement (the work); the ties are given (YtdpobjgfnhjagaaDoorTie.lean); close each card by the builder's one call (the guide's Derived/Test/ToyasCard.lean, 'card_holds'). Laid BY PROGRAM, IN A SANDBOX (cutbox-door.mjs). By AI agents, Wed Nov 11 2026. No macro, syntax, notation, axiom, sorry.
-/
import Derived.Test.YtdpobjgfnhjagaaDoorRows
import GoSem.ClaimSeven
namespace Go.Proofs.YtdpobjgfnhjagaaDoor
namespace Rows

/-- THE TIED CARD OF 'spoolkeep.Stored'. -/
def storedCard : Claim7 := { stood := { row := storedRow, standIns := [], harness := (true, "34cf2d621419035a6caf4f4d637115bf72e5bca1f5f8bf6ff6b911e257c5cc48"), looks := true }, kinds := [], alts := [], laidByText := true, laidKinds := [.data], laidTests := true, laidLooks := .later }
def StoredCardSaid : Prop := Claim7.holds Tryd.pinned (.plain (OpenSpec.ofChange storedSpec)) storedCard

/-- THE TIED CARD OF 'spoolkeep.Backed'. -/
def backedCard : Claim7 := { stood := { row := backedRow, standIns := [], harness := (true, "34cf2d621419035a6caf4f4d637115bf72e5bca1f5f8bf6ff6b911e257c5cc48"), looks := true }, kinds := [], alts := [], laidByText := true, laidKinds := [.data], laidTests := true, laidLooks := .later }
def BackedCardSaid : Prop := Claim7.holds Tryd.pinned (.plain (OpenSpec.ofChange backedSpec)) backedCard

/-- THE TIED CARD OF 'spoolkeep.Small'. -/
def smallCard : Claim7 := { stood := { row := smallRow, standIns := [], harness := (true, "34cf2d621419035a6caf4f4d637115bf72e5bca1f5f8bf6ff6b911e257c5cc48"), looks := true }, kinds := [], alts := [], laidByText := true, laidKinds := [.data], laidTests := true, laidLooks := .later }
def SmallCardSaid : Prop := Claim7.holds Tryd.pinned (.plain (OpenSpec.ofChange smallSpec)) smallCard

/-- THE SECOND FORM's CARD OF 'spoolkeep.Stored'. -/
def storedUptoCard : Claim7 := { stood := { row := storedUptoRow, standIns := [], harness := (true, "34cf2d621419035a6caf4f4d637115bf72e5bca1f5f8bf6ff6b911e257c5cc48"), looks := true }, kinds := [], alts := [], laidByText := true, laidKinds := [.data], laidTests := true, laidLooks := .later }
def StoredUptoCardSaid : Prop := Claim7.holds Tryd.pinned (.plain (OpenSpec.upto storedSpec)) storedUptoCard

/-- THE SECOND FORM's CARD OF 'spoolkeep.Backed'. -/
def backedUptoCard : Claim7 := { stood := { row := backedUptoRow, standIns := [], harness := (true, "34cf2d621419035a6caf4f4d637115bf72e5bca1f5f8bf6ff6b911e257c5cc48"), looks := true }, kinds := [], alts := [], laidByText := true, laidKinds := [.data], laidTests := true, laidLooks := .later }
def BackedUptoCardSaid : Prop := Claim7.holds Tryd.pinned (.plain (OpenSpec.upto backedSpec)) backedUptoCard

/-- THE SECOND FORM's CARD OF 'spoolkeep.Small'. -/
def smallUptoCard : Claim7 := { stood := { row := smallUptoRow, standIns := [], harness := (true, "34cf2d621419035a6caf4f4d637115bf72e5bca1f5f8bf6ff6b911e257c5cc48"), looks := true }, kinds := [], alts := [], laidByText := true, laidKinds := [.data], laidTests := true, laidLooks := .later }
def SmallUptoCardSaid : Prop := Claim7.holds Tryd.pinned (.plain (OpenSpec.upto smallSpec)) smallUptoCard
end Rows
end Go.Proofs.YtdpobjgfnhjagaaDoor
