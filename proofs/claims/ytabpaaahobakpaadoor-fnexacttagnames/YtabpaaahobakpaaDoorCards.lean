/-
  DERIVED. GIVEN WITH THE SEED: THE CARDS: each row of YtabpaaahobakpaaDoorRows.lean that lists a variable, with what it lists TIED to the program's text (the seventh form; the later family's looks); each row that meets fmt, with fmt's text TOLD by the authors' own Lean function (tested against real Go, not proved from fmt's source: count such statements apart). THE CARD IS WHAT COUNTS. Prove the row's statement (the work); the ties are given (YtabpaaahobakpaaDoorTie.lean); close each card by the builder's one call (the guide's Derived/Test/ToyasCard.lean, 'card_holds'). Laid BY PROGRAM, IN A SANDBOX (cutbox-door.mjs). By AI agents, Wed Nov 11 2026. No macro, syntax, notation, axiom, sorry.
-/
import Derived.Test.YtabpaaahobakpaaDoorRows
import GoSem.ClaimSeven
namespace Go.Proofs.YtabpaaahobakpaaDoor
namespace Rows

/-- THE TIED CARD OF 'laws.FnExactTagNames'. -/
def fnExactTagNamesCard : Claim7 := { stood := { row := fnExactTagNamesRow, standIns := [], harness := (true, "f1cd94ed542e2defe10cdbc633a700626e85b4dab3da9439bc76885b035d99f6"), looks := false }, kinds := [], alts := [], laidByText := true, laidKinds := [.data, .pinned], laidTests := true, laidLooks := .later }
def FnExactTagNamesCardSaid : Prop := Claim7.holds Tryd.pinned (.plain (OpenSpec.ofChange fnExactTagNamesSpec)) fnExactTagNamesCard

/-- THE SECOND FORM's CARD OF 'laws.FnExactTagNames'. -/
def fnExactTagNamesUptoCard : Claim7 := { stood := { row := fnExactTagNamesUptoRow, standIns := [], harness := (true, "f1cd94ed542e2defe10cdbc633a700626e85b4dab3da9439bc76885b035d99f6"), looks := false }, kinds := [], alts := [], laidByText := true, laidKinds := [.data, .pinned], laidTests := true, laidLooks := .later }
def FnExactTagNamesUptoCardSaid : Prop := Claim7.holds Tryd.pinned (.plain (OpenSpec.upto fnExactTagNamesSpec)) fnExactTagNamesUptoCard
end Rows
end Go.Proofs.YtabpaaahobakpaaDoor
