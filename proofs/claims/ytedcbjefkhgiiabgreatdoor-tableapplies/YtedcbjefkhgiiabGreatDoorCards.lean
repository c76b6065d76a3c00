/-
  DERIVED. GIVEN WITH THE SEED: THE CARDS: each row of YtedcbjefkhgiiabGreatDoorRows.lean that lists a variable, with what it lists TIED to the program's text (the seventh form; the later family's looks); each row that meets fmt, with fmt's text TOLD by the authors' own Lean function (tested against real Go, not proved from fmt's source: count such statements apart). THE CARD IS WHAT COUNTS. Prove the row's statement (the work); the ties are given (YtedcbjefkhgiiabGreatDoorTie.lean); close each card by the builder's one call (the guide's Derived/Test/ToyasCard.lean, 'card_holds'). Laid BY PROGRAM, IN A SANDBOX (cutbox-door.mjs). By AI agents, Wed Nov 11 2026. No macro, syntax, notation, axiom, sorry.
-/
import Derived.Test.YtedcbjefkhgiiabGreatDoorRows
import GoSem.ClaimSeven
namespace Go.Proofs.YtedcbjefkhgiiabGreatDoor
namespace Rows

/-- THE TIED CARD OF 'oubliettelaw.TableApplies'. -/
def tableAppliesCard : Claim7 := { stood := { row := tableAppliesRow, standIns := [], harness := (true, "4a91ccbd2a5b6ac69681b05035e0f7e5143249012bf03657e97b5ba489971abe"), looks := true }, kinds := [], alts := [], laidByText := true, laidKinds := [.handle], laidTests := true, laidLooks := .later }
def TableAppliesCardSaid : Prop := Claim7.holds Tryz.pinned (.plain (OpenSpec.ofChange tableAppliesSpec)) tableAppliesCard

/-- THE TIED CARD OF 'oubliettekeep.FeedBack'. -/
def feedBackCard : Claim7 := { stood := { row := feedBackRow, standIns := [], harness := (true, "4a91ccbd2a5b6ac69681b05035e0f7e5143249012bf03657e97b5ba489971abe"), looks := true }, kinds := [], alts := [], laidByText := true, laidKinds := [.data, .handle, .data, .data, .pinned], laidTests := true, laidLooks := .later }
def FeedBackCardSaid : Prop := Claim7.holds Tryz.pinned (.plain (OpenSpec.ofChange feedBackSpec)) feedBackCard

/-- THE TIED CARD OF 'oubliettekeep.FeedSame'. -/
def feedSameCard : Claim7 := { stood := { row := feedSameRow, standIns := [], harness := (true, "4a91ccbd2a5b6ac69681b05035e0f7e5143249012bf03657e97b5ba489971abe"), looks := true }, kinds := [], alts := [], laidByText := true, laidKinds := [.data, .handle, .data, .data, .pinned], laidTests := true, laidLooks := .later }
def FeedSameCardSaid : Prop := Claim7.holds Tryz.pinned (.plain (OpenSpec.ofChange feedSameSpec)) feedSameCard

/-- THE TIED CARD OF 'oubliettekeep.SourceAgain'. -/
def sourceAgainCard : Claim7 := { stood := { row := sourceAgainRow, standIns := [], harness := (true, "4a91ccbd2a5b6ac69681b05035e0f7e5143249012bf03657e97b5ba489971abe"), looks := true }, kinds := [], alts := [], laidByText := true, laidKinds := [.data, .handle, .data, .data, .pinned], laidTests := true, laidLooks := .later }
def SourceAgainCardSaid : Prop := Claim7.holds Tryz.pinned (.plain (OpenSpec.ofChange sourceAgainSpec)) sourceAgainCard

/-- THE TIED CARD OF 'oubliettekeep.SourceForgets'. -/
def sourceForgetsCard : Claim7 := { stood := { row := sourceForgetsRow, standIns := [], harness := (true, "4a91ccbd2a5b6ac69681b05035e0f7e5143249012bf03657e97b5ba489971abe"), looks := true }, kinds := [], alts := [], laidByText := true, laidKinds := [.data, .handle, .data, .data, .pinned], laidTests := true, laidLooks := .later }
def SourceForgetsCardSaid : Prop := Claim7.holds Tryz.pinned (.plain (OpenSpec.ofChange sourceForgetsSpec)) sourceForgetsCard

/-- THE TIED CARD OF 'oubliettekeep.SourceOwns'. -/
def sourceOwnsCard : Claim7 := { stood := { row := sourceOwnsRow, standIns := [], harness := (true, "4a91ccbd2a5b6ac69681b05035e0f7e5143249012bf03657e97b5ba489971abe"), looks := true }, kinds := [], alts := [], laidByText := true, laidKinds := [.data, .handle, .data, .data, .pinned], laidTests := true, laidLooks := .later }
def SourceOwnsCardSaid : Prop := Claim7.holds Tryz.pinned (.plain (OpenSpec.ofChange sourceOwnsSpec)) sourceOwnsCard

/-- THE SECOND FORM's CARD OF 'oubliettelaw.TableApplies'. -/
def tableAppliesUptoCard : Claim7 := { stood := { row := tableAppliesUptoRow, standIns := [], harness := (true, "4a91ccbd2a5b6ac69681b05035e0f7e5143249012bf03657e97b5ba489971abe"), looks := true }, kinds := [], alts := [], laidByText := true, laidKinds := [.handle], laidTests := true, laidLooks := .later }
def TableAppliesUptoCardSaid : Prop := Claim7.holds Tryz.pinned (.plain (OpenSpec.upto tableAppliesSpec)) tableAppliesUptoCard

/-- THE SECOND FORM's CARD OF 'oubliettekeep.FeedBack'. -/
def feedBackUptoCard : Claim7 := { stood := { row := feedBackUptoRow, standIns := [], harness := (true, "4a91ccbd2a5b6ac69681b05035e0f7e5143249012bf03657e97b5ba489971abe"), looks := true }, kinds := [], alts := [], laidByText := true, laidKinds := [.data, .handle, .data, .data, .pinned], laidTests := true, laidLooks := .later }
def FeedBackUptoCardSaid : Prop := Claim7.holds Tryz.pinned (.plain (OpenSpec.upto feedBackSpec)) feedBackUptoCard

/-- THE SECOND FORM's CARD OF 'oubliettekeep.FeedSame'. -/
def feedSameUptoCard : Claim7 := { stood := { row := feedSameUptoRow, standIns := [], harness := (true, "4a91ccbd2a5b6ac69681b05035e0f7e5143249012bf03657e97b5ba489971abe"), looks := true }, kinds := [], alts := [], laidByText := true, laidKinds := [.data, .handle, .data, .data, .pinned], laidTests := true, laidLooks := .later }
def FeedSameUptoCardSaid : Prop := Claim7.holds Tryz.pinned (.plain (OpenSpec.upto feedSameSpec)) feedSameUptoCard

/-- THE SECOND FORM's CARD OF 'oubliettekeep.SourceAgain'. -/
def sourceAgainUptoCard : Claim7 := { stood := { row := sourceAgainUptoRow, standIns := [], harness := (true, "4a91ccbd2a5b6ac69681b05035e0f7e5143249012bf03657e97b5ba489971abe"), looks := true }, kinds := [], alts := [], laidByText := true, laidKinds := [.data, .handle, .data, .data, .pinned], laidTests := true, laidLooks := .later }
def SourceAgainUptoCardSaid : Prop := Claim7.holds Tryz.pinned (.plain (OpenSpec.upto sourceAgainSpec)) sourceAgainUptoCard

/-- THE SECOND FORM's CARD OF 'oubliettekeep.SourceForgets'. -/
def sourceForgetsUptoCard : Claim7 := { stood := { row := sourceForgetsUptoRow, standIns := [], harness := (true, "4a91ccbd2a5b6ac69681b05035e0f7e5143249012bf03657e97b5ba489971abe"), looks := true }, kinds := [], alts := [], laidByText := true, laidKinds := [.data, .handle, .data, .data, .pinned], laidTests := true, laidLooks := .later }
def SourceForgetsUptoCardSaid : Prop := Claim7.holds Tryz.pinned (.plain (OpenSpec.upto sourceForgetsSpec)) sourceForgetsUptoCard

/-- THE SECOND FORM's CARD OF 'oubliettekeep.SourceOwns'. -/
def sourceOwnsUptoCard : Claim7 := { stood := { row := sourceOwnsUptoRow, standIns := [], harness := (true, "4a91ccbd2a5b6ac69681b05035e0f7e5143249012bf03657e97b5ba489971abe"), looks := true }, kinds := [], alts := [], laidByText := true, laidKinds := [.data, .handle, .data, .data, .pinned], laidTests := true, laidLooks := .later }
def SourceOwnsUptoCardSaid : Prop := Claim7.holds Tryz.pinned (.plain (OpenSpec.upto sourceOwnsSpec)) sourceOwnsUptoCard
end Rows
end Go.Proofs.YtedcbjefkhgiiabGreatDoor
