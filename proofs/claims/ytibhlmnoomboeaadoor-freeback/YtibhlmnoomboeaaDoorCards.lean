/-
  DERIVED. GIVEN WITH THE SEED: THE CARDS: each row of YtibhlmnoomboeaaDoorRows.lean that lists a variable, with what it lists TIED to the program's text (the seventh form; the later family's looks); each row that meets fmt, with fmt's text TOLD by the authors' own Lean function (tested against real Go, not proved from fmt's source: count such statements apart). THE CARD IS WHAT COUNTS. Prove the row's statement (the work); the ties are given (YtibhlmnoomboeaaDoorTie.lean); close each card by the builder's one call (the guide's Derived/Test/ToyasCard.lean, 'card_holds'). Laid BY PROGRAM, IN A SANDBOX (cutbox-door.mjs). By AI agents, Wed Nov 11 2026. No macro, syntax, notation, axiom, sorry.
-/
import Derived.Test.YtibhlmnoomboeaaDoorRows
import GoSem.ClaimSeven
namespace Go.Proofs.YtibhlmnoomboeaaDoor
namespace Rows

/-- THE TIED CARD OF 'codicillaw11.FreeLeast'. -/
def freeLeastCard : Claim7 := { stood := { row := freeLeastRow, standIns := [], harness := (true, "f7fc5f90a8577036be4239193231a3896949968eb8e130a85fa2a93487bcb13e"), looks := true }, kinds := [], alts := [], laidByText := true, laidKinds := [.data], laidTests := true, laidLooks := .later }
def FreeLeastCardSaid : Prop := Claim7.holds Tryd.pinned (.plain (OpenSpec.ofChange freeLeastSpec)) freeLeastCard

/-- THE TIED CARD OF 'codicillaw11.FreeBack'. -/
def freeBackCard : Claim7 := { stood := { row := freeBackRow, standIns := [], harness := (true, "f7fc5f90a8577036be4239193231a3896949968eb8e130a85fa2a93487bcb13e"), looks := true }, kinds := [], alts := [], laidByText := true, laidKinds := [.data], laidTests := true, laidLooks := .later }
def FreeBackCardSaid : Prop := Claim7.holds Tryd.pinned (.plain (OpenSpec.ofChange freeBackSpec)) freeBackCard

/-- THE SECOND FORM's CARD OF 'codicillaw11.FreeLeast'. -/
def freeLeastUptoCard : Claim7 := { stood := { row := freeLeastUptoRow, standIns := [], harness := (true, "f7fc5f90a8577036be4239193231a3896949968eb8e130a85fa2a93487bcb13e"), looks := true }, kinds := [], alts := [], laidByText := true, laidKinds := [.data], laidTests := true, laidLooks := .later }
def FreeLeastUptoCardSaid : Prop := Claim7.holds Tryd.pinned (.plain (OpenSpec.upto freeLeastSpec)) freeLeastUptoCard

/-- THE SECOND FORM's CARD OF 'codicillaw11.FreeBack'. -/
def freeBackUptoCard : Claim7 := { stood := { row := freeBackUptoRow, standIns := [], harness := (true, "f7fc5f90a8577036be4239193231a3896949968eb8e130a85fa2a93487bcb13e"), looks := true }, kinds := [], alts := [], laidByText := true, laidKinds := [.data], laidTests := true, laidLooks := .later }
def FreeBackUptoCardSaid : Prop := Claim7.holds Tryd.pinned (.plain (OpenSpec.upto freeBackSpec)) freeBackUptoCard
end Rows
end Go.Proofs.YtibhlmnoomboeaaDoor
