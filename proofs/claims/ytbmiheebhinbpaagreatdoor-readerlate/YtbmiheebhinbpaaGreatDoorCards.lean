/-
  DERIVED. GIVEN WITH THE SEED: THE CARDS: each row of YtbmiheebhinbpaaGreatDoorRows.lean that lists a variable, with what it lists TIED to the program's text (the seventh form; the later family's looks); each row that meets fmt, with fmt's text TOLD by the authors' own Lean function (tested against real Go, not proved from fmt's source: count such statements apart). THE CARD IS WHAT COUNTS. Prove the row's statement (the work); the ties are given (YtbmiheebhinbpaaGreatDoorTie.lean); close each card by the builder's one call (the guide's Derived/Test/ToyasCard.lean, 'card_holds'). Laid BY PROGRAM, IN A SANDBOX (cutbox-door.mjs). By AI agents, Wed Nov 11 2026. No macro, syntax, notation, axiom, sorry.
-/
import Derived.Test.YtbmiheebhinbpaaGreatDoorRows
import GoSem.ClaimSeven
namespace Go.Proofs.YtbmiheebhinbpaaGreatDoor
namespace Rows

/-- THE TIED CARD OF 'oubliettekeep.FeedBack'. -/
def feedBackCard : Claim7 := { stood := { row := feedBackRow, standIns := [], harness := (true, "8a85a5eee98c237e46004362c2271095f71e0d7e58ceece59f9257a0176131be"), looks := true }, kinds := [], alts := [], laidByText := true, laidKinds := [.data, .handle, .data, .data, .pinned], laidTests := true, laidLooks := .later }
def FeedBackCardSaid : Prop := Claim7.holds Tryz.pinned (.plain (OpenSpec.ofChange feedBackSpec)) feedBackCard

/-- THE TIED CARD OF 'oubliettekeep.FeedSame'. -/
def feedSameCard : Claim7 := { stood := { row := feedSameRow, standIns := [], harness := (true, "8a85a5eee98c237e46004362c2271095f71e0d7e58ceece59f9257a0176131be"), looks := true }, kinds := [], alts := [], laidByText := true, laidKinds := [.data, .handle, .data, .data, .pinned], laidTests := true, laidLooks := .later }
def FeedSameCardSaid : Prop := Claim7.holds Tryz.pinned (.plain (OpenSpec.ofChange feedSameSpec)) feedSameCard

/-- THE TIED CARD OF 'oubliettekeep.SourceAgain'. -/
def sourceAgainCard : Claim7 := { stood := { row := sourceAgainRow, standIns := [], harness := (true, "8a85a5eee98c237e46004362c2271095f71e0d7e58ceece59f9257a0176131be"), looks := true }, kinds := [], alts := [], laidByText := true, laidKinds := [.data, .handle, .data, .data, .pinned], laidTests := true, laidLooks := .later }
def SourceAgainCardSaid : Prop := Claim7.holds Tryz.pinned (.plain (OpenSpec.ofChange sourceAgainSpec)) sourceAgainCard

/-- THE TIED CARD OF 'oubliettekeep.SourceForgets'. -/
def sourceForgetsCard : Claim7 := { stood := { row := sourceForgetsRow, standIns := [], harness := (true, "8a85a5eee98c237e46004362c2271095f71e0d7e58ceece59f9257a0176131be"), looks := true }, kinds := [], alts := [], laidByText := true, laidKinds := [.data, .handle, .data, .data, .pinned], laidTests := true, laidLooks := .later }
def SourceForgetsCardSaid : Prop := Claim7.holds Tryz.pinned (.plain (OpenSpec.ofChange sourceForgetsSpec)) sourceForgetsCard

/-- THE TIED CARD OF 'oubliettekeep.SourceOwns'. -/
def sourceOwnsCard : Claim7 := { stood := { row := sourceOwnsRow, standIns := [], harness := (true, "8a85a5eee98c237e46004362c2271095f71e0d7e58ceece59f9257a0176131be"), looks := true }, kinds := [], alts := [], laidByText := true, laidKinds := [.data, .handle, .data, .data, .pinned], laidTests := true, laidLooks := .later }
def SourceOwnsCardSaid : Prop := Claim7.holds Tryz.pinned (.plain (OpenSpec.ofChange sourceOwnsSpec)) sourceOwnsCard

/-- THE TIED CARD OF 'oubliettekeep.ReaderSame'. -/
def readerSameCard : Claim7 := { stood := { row := readerSameRow, standIns := [], harness := (true, "8a85a5eee98c237e46004362c2271095f71e0d7e58ceece59f9257a0176131be"), looks := true }, kinds := [], alts := [], laidByText := true, laidKinds := [.data, .handle, .data, .data, .pinned], laidTests := true, laidLooks := .later }
def ReaderSameCardSaid : Prop := Claim7.holds Tryz.pinned (.plain (OpenSpec.ofChange readerSameSpec)) readerSameCard

/-- THE TIED CARD OF 'oubliettekeep.ReaderLate'. -/
def readerLateCard : Claim7 := { stood := { row := readerLateRow, standIns := [], harness := (true, "8a85a5eee98c237e46004362c2271095f71e0d7e58ceece59f9257a0176131be"), looks := true }, kinds := [], alts := [], laidByText := true, laidKinds := [.data, .handle, .data, .data, .pinned], laidTests := true, laidLooks := .later }
def ReaderLateCardSaid : Prop := Claim7.holds Tryz.pinned (.plain (OpenSpec.ofChange readerLateSpec)) readerLateCard

/-- THE TIED CARD OF 'oubliettekeep.ReaderAgain'. -/
def readerAgainCard : Claim7 := { stood := { row := readerAgainRow, standIns := [], harness := (true, "8a85a5eee98c237e46004362c2271095f71e0d7e58ceece59f9257a0176131be"), looks := true }, kinds := [], alts := [], laidByText := true, laidKinds := [.data, .handle, .data, .data, .pinned], laidTests := true, laidLooks := .later }
def ReaderAgainCardSaid : Prop := Claim7.holds Tryz.pinned (.plain (OpenSpec.ofChange readerAgainSpec)) readerAgainCard

/-- THE TIED CARD OF 'oubliettekeep.ReaderSaves'. -/
def readerSavesCard : Claim7 := { stood := { row := readerSavesRow, standIns := [], harness := (true, "8a85a5eee98c237e46004362c2271095f71e0d7e58ceece59f9257a0176131be"), looks := true }, kinds := [], alts := [], laidByText := true, laidKinds := [.data, .handle, .data, .data, .pinned], laidTests := true, laidLooks := .later }
def ReaderSavesCardSaid : Prop := Claim7.holds Tryz.pinned (.plain (OpenSpec.ofChange readerSavesSpec)) readerSavesCard

/-- THE SECOND FORM's CARD OF 'oubliettekeep.FeedBack'. -/
def feedBackUptoCard : Claim7 := { stood := { row := feedBackUptoRow, standIns := [], harness := (true, "8a85a5eee98c237e46004362c2271095f71e0d7e58ceece59f9257a0176131be"), looks := true }, kinds := [], alts := [], laidByText := true, laidKinds := [.data, .handle, .data, .data, .pinned], laidTests := true, laidLooks := .later }
def FeedBackUptoCardSaid : Prop := Claim7.holds Tryz.pinned (.plain (OpenSpec.upto feedBackSpec)) feedBackUptoCard

/-- THE SECOND FORM's CARD OF 'oubliettekeep.FeedSame'. -/
def feedSameUptoCard : Claim7 := { stood := { row := feedSameUptoRow, standIns := [], harness := (true, "8a85a5eee98c237e46004362c2271095f71e0d7e58ceece59f9257a0176131be"), looks := true }, kinds := [], alts := [], laidByText := true, laidKinds := [.data, .handle, .data, .data, .pinned], laidTests := true, laidLooks := .later }
def FeedSameUptoCardSaid : Prop := Claim7.holds Tryz.pinned (.plain (OpenSpec.upto feedSameSpec)) feedSameUptoCard

/-- THE SECOND FORM's CARD OF 'oubliettekeep.SourceAgain'. -/
def sourceAgainUptoCard : Claim7 := { stood := { row := sourceAgainUptoRow, standIns := [], harness := (true, "8a85a5eee98c237e46004362c2271095f71e0d7e58ceece59f9257a0176131be"), looks := true }, kinds := [], alts := [], laidByText := true, laidKinds := [.data, .handle, .data, .data, .pinned], laidTests := true, laidLooks := .later }
def SourceAgainUptoCardSaid : Prop := Claim7.holds Tryz.pinned (.plain (OpenSpec.upto sourceAgainSpec)) sourceAgainUptoCard

/-- THE SECOND FORM's CARD OF 'oubliettekeep.SourceForgets'. -/
def sourceForgetsUptoCard : Claim7 := { stood := { row := sourceForgetsUptoRow, standIns := [], harness := (true, "8a85a5eee98c237e46004362c2271095f71e0d7e58ceece59f9257a0176131be"), looks := true }, kinds := [], alts := [], laidByText := true, laidKinds := [.data, .handle, .data, .data, .pinned], laidTests := true, laidLooks := .later }
def SourceForgetsUptoCardSaid : Prop := Claim7.holds Tryz.pinned (.plain (OpenSpec.upto sourceForgetsSpec)) sourceForgetsUptoCard

/-- THE SECOND FORM's CARD OF 'oubliettekeep.SourceOwns'. -/
def sourceOwnsUptoCard : Claim7 := { stood := { row := sourceOwnsUptoRow, standIns := [], harness := (true, "8a85a5eee98c237e46004362c2271095f71e0d7e58ceece59f9257a0176131be"), looks := true }, kinds := [], alts := [], laidByText := true, laidKinds := [.data, .handle, .data, .data, .pinned], laidTests := true, laidLooks := .later }
def SourceOwnsUptoCardSaid : Prop := Claim7.holds Tryz.pinned (.plain (OpenSpec.upto sourceOwnsSpec)) sourceOwnsUptoCard

/-- THE SECOND FORM's CARD OF 'oubliettekeep.ReaderSame'. -/
def readerSameUptoCard : Claim7 := { stood := { row := readerSameUptoRow, standIns := [], harness := (true, "8a85a5eee98c237e46004362c2271095f71e0d7e58ceece59f9257a0176131be"), looks := true }, kinds := [], alts := [], laidByText := true, laidKinds := [.data, .handle, .data, .data, .pinned], laidTests := true, laidLooks := .later }
def ReaderSameUptoCardSaid : Prop := Claim7.holds Tryz.pinned (.plain (OpenSpec.upto readerSameSpec)) readerSameUptoCard

/-- THE SECOND FORM's CARD OF 'oubliettekeep.ReaderLate'. -/
def readerLateUptoCard : Claim7 := { stood := { row := readerLateUptoRow, standIns := [], harness := (true, "8a85a5eee98c237e46004362c2271095f71e0d7e58ceece59f9257a0176131be"), looks := true }, kinds := [], alts := [], laidByText := true, laidKinds := [.data, .handle, .data, .data, .pinned], laidTests := true, laidLooks := .later }
def ReaderLateUptoCardSaid : Prop := Claim7.holds Tryz.pinned (.plain (OpenSpec.upto readerLateSpec)) readerLateUptoCard

/-- THE SECOND FORM's CARD OF 'oubliettekeep.ReaderAgain'. -/
def readerAgainUptoCard : Claim7 := { stood := { row := readerAgainUptoRow, standIns := [], harness := (true, "8a85a5eee98c237e46004362c2271095f71e0d7e58ceece59f9257a0176131be"), looks := true }, kinds := [], alts := [], laidByText := true, laidKinds := [.data, .handle, .data, .data, .pinned], laidTests := true, laidLooks := .later }
def ReaderAgainUptoCardSaid : Prop := Claim7.holds Tryz.pinned (.plain (OpenSpec.upto readerAgainSpec)) readerAgainUptoCard

/-- THE SECOND FORM's CARD OF 'oubliettekeep.ReaderSaves'. -/
def readerSavesUptoCard : Claim7 := { stood := { row := readerSavesUptoRow, standIns := [], harness := (true, "8a85a5eee98c237e46004362c2271095f71e0d7e58ceece59f9257a0176131be"), looks := true }, kinds := [], alts := [], laidByText := true, laidKinds := [.data, .handle, .data, .data, .pinned], laidTests := true, laidLooks := .later }
def ReaderSavesUptoCardSaid : Prop := Claim7.holds Tryz.pinned (.plain (OpenSpec.upto readerSavesSpec)) readerSavesUptoCard
end Rows
end Go.Proofs.YtbmiheebhinbpaaGreatDoor
