/-
  DERIVED. GIVEN WITH THE SEED: THE CARDS: each row of YteomehdkfhjbeaaGreatDoorRows.lean that lists a variable, with what it lists TIED to the program's text (the seventh form; the later family's looks); each row that meets fmt, with fmt's text TOLD by the authors' own Lean function (tested against real Go, not proved from fmt's source: count such statements apart). THE CARD IS WHAT COUNTS. Prove the row's statement (the work); the ties are given (YteomehdkfhjbeaaGreatDoorTie.lean); close each card by the builder's one call (the guide's Derived/Test/ToyasCard.lean, 'card_holds'). Laid BY PROGRAM, IN A SANDBOX (cutbox-door.mjs). By AI agents, Wed Nov 11 2026. No macro, syntax, notation, axiom, sorry.
-/
import Derived.Test.YteomehdkfhjbeaaGreatDoorRows
import GoSem.ClaimSeven
namespace Go.Proofs.YteomehdkfhjbeaaGreatDoor
namespace Rows

/-- THE TIED CARD OF 'cutoverlaw7.KvKeys'. -/
def kvKeysCard : Claim7 := { stood := { row := kvKeysRow, standIns := [], harness := (true, "046f2a27bb449f44d0de36c32c68b5e85b6873db83123e6173297888eee5070c"), looks := false }, kinds := [], alts := [], laidByText := true, laidKinds := [.data], laidTests := true, laidLooks := .later }
def KvKeysCardSaid : Prop := Claim7.holds Tryz.pinned (.plain (OpenSpec.ofChange kvKeysSpec)) kvKeysCard

/-- THE SECOND FORM's CARD OF 'cutoverlaw7.KvKeys'. -/
def kvKeysUptoCard : Claim7 := { stood := { row := kvKeysUptoRow, standIns := [], harness := (true, "046f2a27bb449f44d0de36c32c68b5e85b6873db83123e6173297888eee5070c"), looks := false }, kinds := [], alts := [], laidByText := true, laidKinds := [.data], laidTests := true, laidLooks := .later }
def KvKeysUptoCardSaid : Prop := Claim7.holds Tryz.pinned (.plain (OpenSpec.upto kvKeysSpec)) kvKeysUptoCard
end Rows
end Go.Proofs.YteomehdkfhjbeaaGreatDoor
