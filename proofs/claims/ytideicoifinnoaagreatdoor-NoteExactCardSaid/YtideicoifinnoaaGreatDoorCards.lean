/-
  DERIVED. GIVEN WITH THE SEED: THE CARDS: each row of YtideicoifinnoaaGreatDoorRows.lean that lists a variable, with what it lists TIED to the program's text (the seventh form; the later family's looks); each row that meets fmt, with fmt's text TOLD by the authors' own Lean function (tested against real Go, not proved from fmt's source: count such statements apart). THE CARD IS WHAT COUNTS. Prove the row's statement (the work); the ties are given (YtideicoifinnoaaGreatDoorTie.lean); close each card by the builder's one call (the guide's Derived/Test/ToyasCard.lean, 'card_holds'). Laid BY PROGRAM, IN A SANDBOX (cutbox-door.mjs). By AI agents, Wed Nov 11 2026. No macro, syntax, notation, axiom, sorry.
-/
import Derived.Test.YtideicoifinnoaaGreatDoorRows
import GoSem.ClaimSeven
namespace Go.Proofs.YtideicoifinnoaaGreatDoor
namespace Rows

/-- THE TIED CARD OF 'suretylaw04.NoteExact'. -/
def noteExactCard : Claim7 := { stood := { row := noteExactRow, standIns := [], harness := (true, "c58aa57972faa5fd40208c0ce37abf5ec4cf5fce73f688cb8cde9100fa999a46"), looks := true }, kinds := [], alts := [], laidByText := true, laidKinds := [.data, .data, .data, .sentinel, .sentinel], laidTests := true, laidLooks := .later }
def NoteExactCardSaid : Prop := Claim7.holds Tryz.pinned (.plain (OpenSpec.ofChange noteExactSpec)) noteExactCard

/-- THE SECOND FORM's CARD OF 'suretylaw04.NoteExact'. -/
def noteExactUptoCard : Claim7 := { stood := { row := noteExactUptoRow, standIns := [], harness := (true, "c58aa57972faa5fd40208c0ce37abf5ec4cf5fce73f688cb8cde9100fa999a46"), looks := true }, kinds := [], alts := [], laidByText := true, laidKinds := [.data, .data, .data, .sentinel, .sentinel], laidTests := true, laidLooks := .later }
def NoteExactUptoCardSaid : Prop := Claim7.holds Tryz.pinned (.plain (OpenSpec.upto noteExactSpec)) noteExactUptoCard
end Rows
end Go.Proofs.YtideicoifinnoaaGreatDoor
