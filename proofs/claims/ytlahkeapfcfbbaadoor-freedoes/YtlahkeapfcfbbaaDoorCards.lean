/-
  DERIVED. GIVEN WITH THE SEED: THE CARDS: each row of YtlahkeapfcfbbaaDoorRows.lean that lists a variable, with what it lists TIED to the program's text (the seventh form; the later family's looks); each row that meets fmt, with fmt's text TOLD by the authors' own Lean function (tested against real Go, not proved from fmt's source: count such statements apart). THE CARD IS WHAT COUNTS. Prove the row's statement (the work); the ties are given (YtlahkeapfcfbbaaDoorTie.lean); close each card by the builder's one call (the guide's Derived/Test/ToyasCard.lean, 'card_holds'). Laid BY PROGRAM, IN A SANDBOX (cutbox-door.mjs). By AI agents, Wed Nov 11 2026. No macro, syntax, notation, axiom, sorry.
-/
import Derived.Test.YtlahkeapfcfbbaaDoorRows
import GoSem.ClaimSeven
namespace Go.Proofs.YtlahkeapfcfbbaaDoor
namespace Rows

/-- THE TIED CARD OF 'codicillaw11.FreeDoes'. -/
def freeDoesCard : Claim7 := { stood := { row := freeDoesRow, standIns := [], harness := (true, "d3497ead135f72c2ee7bfa6cc77040fa3a147965e5d4b5e8e389d93d29b41e7d"), looks := true }, kinds := [], alts := [], laidByText := true, laidKinds := [.data], laidTests := true, laidLooks := .later }
def FreeDoesCardSaid : Prop := Claim7.holds Tryd.pinned (.plain (OpenSpec.ofChange freeDoesSpec)) freeDoesCard

/-- THE SECOND FORM's CARD OF 'codicillaw11.FreeDoes'. -/
def freeDoesUptoCard : Claim7 := { stood := { row := freeDoesUptoRow, standIns := [], harness := (true, "d3497ead135f72c2ee7bfa6cc77040fa3a147965e5d4b5e8e389d93d29b41e7d"), looks := true }, kinds := [], alts := [], laidByText := true, laidKinds := [.data], laidTests := true, laidLooks := .later }
def FreeDoesUptoCardSaid : Prop := Claim7.holds Tryd.pinned (.plain (OpenSpec.upto freeDoesSpec)) freeDoesUptoCard
end Rows
end Go.Proofs.YtlahkeapfcfbbaaDoor
