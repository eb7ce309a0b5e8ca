/-
  DERIVED. GIVEN WITH THE SEED: THE CARDS: each row of YtideicoifinnoaaDoorRows.lean that lists a variable, with what it lists TIED to the program's text (the seventh form; the later family's looks); each row that meets fmt, with fmt's text TOLD by the authors' own Lean function (tested against real Go, not proved from fmt's source: count such statements apart). THE CARD IS WHAT COUNTS. Prove the row's statement (the work); the ties are given (YtideicoifinnoaaDoorTie.lean); close each card by the builder's one call (the guide's Derived/Test/ToyasCard.lean, 'card_holds'). Laid BY PROGRAM, IN A SANDBOX (cutbox-door.mjs). By AI agents, Wed Nov 11 2026. No macro, syntax, notation, axiom, sorry.
-/
import Derived.Test.YtideicoifinnoaaDoorRows
import GoSem.ClaimSeven
namespace Go.Proofs.YtideicoifinnoaaDoor
namespace Rows

/-- THE TIED CARD OF 'suretylaw04.NoteBack'. -/
def noteBackCard : Claim7 := { stood := { row := noteBackRow, standIns := [], harness := (true, "bb84faaf31ed3529a7c023d3a92ab89d692c26edf5d52c084589c1f036f105d5"), looks := true }, kinds := [], alts := [], laidByText := true, laidKinds := [.data, .data, .data, .sentinel, .sentinel], laidTests := true, laidLooks := .later }
def NoteBackCardSaid : Prop := Claim7.holds Tryd.pinned (.plain (OpenSpec.ofChange noteBackSpec)) noteBackCard

/-- THE TIED CARD OF 'suretylaw04.NoteUnlike'. -/
def noteUnlikeCard : Claim7 := { stood := { row := noteUnlikeRow, standIns := [], harness := (true, "bb84faaf31ed3529a7c023d3a92ab89d692c26edf5d52c084589c1f036f105d5"), looks := true }, kinds := [], alts := [], laidByText := true, laidKinds := [.data, .data, .data, .sentinel, .sentinel], laidTests := true, laidLooks := .later }
def NoteUnlikeCardSaid : Prop := Claim7.holds Tryd.pinned (.plain (OpenSpec.ofChange noteUnlikeSpec)) noteUnlikeCard

/-- THE TIED CARD OF 'suretylaw04.NoteLoose'. -/
def noteLooseCard : Claim7 := { stood := { row := noteLooseRow, standIns := [], harness := (true, "bb84faaf31ed3529a7c023d3a92ab89d692c26edf5d52c084589c1f036f105d5"), looks := true }, kinds := [], alts := [], laidByText := true, laidKinds := [.data, .data, .data, .sentinel, .sentinel], laidTests := true, laidLooks := .later }
def NoteLooseCardSaid : Prop := Claim7.holds Tryd.pinned (.plain (OpenSpec.ofChange noteLooseSpec)) noteLooseCard

/-- THE TIED CARD OF 'suretylaw04.NoteCut'. -/
def noteCutCard : Claim7 := { stood := { row := noteCutRow, standIns := [], harness := (true, "bb84faaf31ed3529a7c023d3a92ab89d692c26edf5d52c084589c1f036f105d5"), looks := true }, kinds := [], alts := [], laidByText := true, laidKinds := [.data, .data, .data, .sentinel, .sentinel], laidTests := true, laidLooks := .later }
def NoteCutCardSaid : Prop := Claim7.holds Tryd.pinned (.plain (OpenSpec.ofChange noteCutSpec)) noteCutCard

/-- THE TIED CARD OF 'suretylaw04.NotePlaces'. -/
def notePlacesCard : Claim7 := { stood := { row := notePlacesRow, standIns := [], harness := (true, "bb84faaf31ed3529a7c023d3a92ab89d692c26edf5d52c084589c1f036f105d5"), looks := true }, kinds := [], alts := [], laidByText := true, laidKinds := [.data, .data, .data, .sentinel, .sentinel], laidTests := true, laidLooks := .later }
def NotePlacesCardSaid : Prop := Claim7.holds Tryd.pinned (.plain (OpenSpec.ofChange notePlacesSpec)) notePlacesCard

/-- THE SECOND FORM's CARD OF 'suretylaw04.NoteBack'. -/
def noteBackUptoCard : Claim7 := { stood := { row := noteBackUptoRow, standIns := [], harness := (true, "bb84faaf31ed3529a7c023d3a92ab89d692c26edf5d52c084589c1f036f105d5"), looks := true }, kinds := [], alts := [], laidByText := true, laidKinds := [.data, .data, .data, .sentinel, .sentinel], laidTests := true, laidLooks := .later }
def NoteBackUptoCardSaid : Prop := Claim7.holds Tryd.pinned (.plain (OpenSpec.upto noteBackSpec)) noteBackUptoCard

/-- THE SECOND FORM's CARD OF 'suretylaw04.NoteUnlike'. -/
def noteUnlikeUptoCard : Claim7 := { stood := { row := noteUnlikeUptoRow, standIns := [], harness := (true, "bb84faaf31ed3529a7c023d3a92ab89d692c26edf5d52c084589c1f036f105d5"), looks := true }, kinds := [], alts := [], laidByText := true, laidKinds := [.data, .data, .data, .sentinel, .sentinel], laidTests := true, laidLooks := .later }
def NoteUnlikeUptoCardSaid : Prop := Claim7.holds Tryd.pinned (.plain (OpenSpec.upto noteUnlikeSpec)) noteUnlikeUptoCard

/-- THE SECOND FORM's CARD OF 'suretylaw04.NoteLoose'. -/
def noteLooseUptoCard : Claim7 := { stood := { row := noteLooseUptoRow, standIns := [], harness := (true, "bb84faaf31ed3529a7c023d3a92ab89d692c26edf5d52c084589c1f036f105d5"), looks := true }, kinds := [], alts := [], laidByText := true, laidKinds := [.data, .data, .data, .sentinel, .sentinel], laidTests := true, laidLooks := .later }
def NoteLooseUptoCardSaid : Prop := Claim7.holds Tryd.pinned (.plain (OpenSpec.upto noteLooseSpec)) noteLooseUptoCard

/-- THE SECOND FORM's CARD OF 'suretylaw04.NoteCut'. -/
def noteCutUptoCard : Claim7 := { stood := { row := noteCutUptoRow, standIns := [], harness := (true, "bb84faaf31ed3529a7c023d3a92ab89d692c26edf5d52c084589c1f036f105d5"), looks := true }, kinds := [], alts := [], laidByText := true, laidKinds := [.data, .data, .data, .sentinel, .sentinel], laidTests := true, laidLooks := .later }
def NoteCutUptoCardSaid : Prop := Claim7.holds Tryd.pinned (.plain (OpenSpec.upto noteCutSpec)) noteCutUptoCard

/-- THE SECOND FORM's CARD OF 'suretylaw04.NotePlaces'. -/
def notePlacesUptoCard : Claim7 := { stood := { row := notePlacesUptoRow, standIns := [], harness := (true, "bb84faaf31ed3529a7c023d3a92ab89d692c26edf5d52c084589c1f036f105d5"), looks := true }, kinds := [], alts := [], laidByText := true, laidKinds := [.data, .data, .data, .sentinel, .sentinel], laidTests := true, laidLooks := .later }
def NotePlacesUptoCardSaid : Prop := Claim7.holds Tryd.pinned (.plain (OpenSpec.upto notePlacesSpec)) notePlacesUptoCard
end Rows
end Go.Proofs.YtideicoifinnoaaDoor
