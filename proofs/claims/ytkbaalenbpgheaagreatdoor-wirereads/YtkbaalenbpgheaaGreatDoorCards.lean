/-
  DERIVED. GIVEN WITH THE SEED: THE CARDS: each row of YtkbaalenbpgheaaGreatDoorRows.lean that lists a variable, with what it lists TIED to the program's text (the seventh form; the later family's looks); each row that meets fmt, with fmt's text TOLD by the authors' own Lean function (tested against real Go, not proved from fmt's source: count such statements apart). THE CARD IS WHAT COUNTS. Prove the row's statement (the work); the ties are given (YtkbaalenbpgheaaGreatDoorTie.lean); close each card by the builder's one call (the guide's Derived/Test/ToyasCard.lean, 'card_holds'). Laid BY PROGRAM, IN A SANDBOX (cutbox-door.mjs). By AI agents, Wed Nov 11 2026. No macro, syntax, notation, axiom, sorry.
-/
import Derived.Test.YtkbaalenbpgheaaGreatDoorRows
import GoSem.ClaimSeven
namespace Go.Proofs.YtkbaalenbpgheaaGreatDoor
namespace Rows

/-- THE TIED CARD OF 'oubliettekeep.SourceForgets'. -/
def sourceForgetsCard : Claim7 := { stood := { row := sourceForgetsRow, standIns := [], harness := (true, "6153f3fa1cc52b6b58dbce7bdb2ac9c642be6865b64697f94b25b0d1b64803a5"), looks := true }, kinds := [], alts := [], laidByText := true, laidKinds := [.data, .handle, .data, .data, .pinned], laidTests := true, laidLooks := .later }
def SourceForgetsCardSaid : Prop := Claim7.holds Tryz.pinned (.plain (OpenSpec.ofChange sourceForgetsSpec)) sourceForgetsCard

/-- THE TIED CARD OF 'oubliettekeep.ReaderSaves'. -/
def readerSavesCard : Claim7 := { stood := { row := readerSavesRow, standIns := [], harness := (true, "6153f3fa1cc52b6b58dbce7bdb2ac9c642be6865b64697f94b25b0d1b64803a5"), looks := true }, kinds := [], alts := [], laidByText := true, laidKinds := [.data, .handle, .data, .data, .pinned], laidTests := true, laidLooks := .later }
def ReaderSavesCardSaid : Prop := Claim7.holds Tryz.pinned (.plain (OpenSpec.ofChange readerSavesSpec)) readerSavesCard

/-- THE TIED CARD OF 'oubliettekeep.WireReads'. -/
def wireReadsCard : Claim7 := { stood := { row := wireReadsRow, standIns := [], harness := (true, "6153f3fa1cc52b6b58dbce7bdb2ac9c642be6865b64697f94b25b0d1b64803a5"), looks := true }, kinds := [], alts := [], laidByText := true, laidKinds := [.data, .handle, .data, .data, .pinned], laidTests := true, laidLooks := .later }
def WireReadsCardSaid : Prop := Claim7.holds Tryz.pinned (.plain (OpenSpec.ofChange wireReadsSpec)) wireReadsCard

/-- THE SECOND FORM's CARD OF 'oubliettekeep.SourceForgets'. -/
def sourceForgetsUptoCard : Claim7 := { stood := { row := sourceForgetsUptoRow, standIns := [], harness := (true, "6153f3fa1cc52b6b58dbce7bdb2ac9c642be6865b64697f94b25b0d1b64803a5"), looks := true }, kinds := [], alts := [], laidByText := true, laidKinds := [.data, .handle, .data, .data, .pinned], laidTests := true, laidLooks := .later }
def SourceForgetsUptoCardSaid : Prop := Claim7.holds Tryz.pinned (.plain (OpenSpec.upto sourceForgetsSpec)) sourceForgetsUptoCard

/-- THE SECOND FORM's CARD OF 'oubliettekeep.ReaderSaves'. -/
def readerSavesUptoCard : Claim7 := { stood := { row := readerSavesUptoRow, standIns := [], harness := (true, "6153f3fa1cc52b6b58dbce7bdb2ac9c642be6865b64697f94b25b0d1b64803a5"), looks := true }, kinds := [], alts := [], laidByText := true, laidKinds := [.data, .handle, .data, .data, .pinned], laidTests := true, laidLooks := .later }
def ReaderSavesUptoCardSaid : Prop := Claim7.holds Tryz.pinned (.plain (OpenSpec.upto readerSavesSpec)) readerSavesUptoCard

/-- THE SECOND FORM's CARD OF 'oubliettekeep.WireReads'. -/
def wireReadsUptoCard : Claim7 := { stood := { row := wireReadsUptoRow, standIns := [], harness := (true, "6153f3fa1cc52b6b58dbce7bdb2ac9c642be6865b64697f94b25b0d1b64803a5"), looks := true }, kinds := [], alts := [], laidByText := true, laidKinds := [.data, .handle, .data, .data, .pinned], laidTests := true, laidLooks := .later }
def WireReadsUptoCardSaid : Prop := Claim7.holds Tryz.pinned (.plain (OpenSpec.upto wireReadsSpec)) wireReadsUptoCard
end Rows
end Go.Proofs.YtkbaalenbpgheaaGreatDoor
