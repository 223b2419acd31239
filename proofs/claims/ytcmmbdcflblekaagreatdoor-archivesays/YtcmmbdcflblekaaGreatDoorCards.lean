/-
  DERIVED. GIVEN WITH THE SEED: THE CARDS: each row of YtcmmbdcflblekaaGreatDoorRows.lean that lists a variable, with what it lists TIED to the program's text (the seventh form; the later family's looks); each row that meets fmt, with fmt's text TOLD by the authors' own Lean function (tested against real Go, not proved from fmt's source: count such statements apart). THE CARD IS WHAT COUNTS. Prove the row's statement (the work); the ties are given (YtcmmbdcflblekaaGreatDoorTie.lean); close each card by the builder's one call (the guide's Derived/Test/ToyasCard.lean, 'card_holds'). Laid BY PROGRAM, IN A SANDBOX (cutbox-door.mjs). By AI agents, Wed Nov 11 2026. No macro, syntax, notation, axiom, sorry.
-/
import Derived.Test.YtcmmbdcflblekaaGreatDoorRows
import GoSem.ClaimSeven
namespace Go.Proofs.YtcmmbdcflblekaaGreatDoor
namespace Rows

/-- THE TIED CARD OF 'cofferlaw17.ManifestApart'. -/
def manifestApartCard : Claim7 := { stood := { row := manifestApartRow, standIns := [], harness := (true, "174cb939c946b862ad4bee79610f5cc9a28cb76e5ed640566d33218b1984a5bd"), looks := true }, kinds := [], alts := [], laidByText := true, laidKinds := [.data, .data, .data, .sentinel, .sentinel, .data], laidTests := true, laidLooks := .later }
def ManifestApartCardSaid : Prop := Claim7.holds Tryz.pinned (.plain (OpenSpec.ofChange manifestApartSpec)) manifestApartCard

/-- THE TIED CARD OF 'cofferlaw18.ArchiveBack'. -/
def archiveBackCard : Claim7 := { stood := { row := archiveBackRow, standIns := [], harness := (true, "174cb939c946b862ad4bee79610f5cc9a28cb76e5ed640566d33218b1984a5bd"), looks := true }, kinds := [], alts := [], laidByText := true, laidKinds := [.data, .data, .data, .sentinel, .sentinel, .data], laidTests := true, laidLooks := .later }
def ArchiveBackCardSaid : Prop := Claim7.holds Tryz.pinned (.plain (OpenSpec.ofChange archiveBackSpec)) archiveBackCard

/-- THE TIED CARD OF 'cofferlaw18.ArchiveSays'. -/
def archiveSaysCard : Claim7 := { stood := { row := archiveSaysRow, standIns := [], harness := (true, "174cb939c946b862ad4bee79610f5cc9a28cb76e5ed640566d33218b1984a5bd"), looks := true }, kinds := [], alts := [], laidByText := true, laidKinds := [.data, .data, .data, .sentinel, .sentinel, .data], laidTests := true, laidLooks := .later }
def ArchiveSaysCardSaid : Prop := Claim7.holds Tryz.pinned (.plain (OpenSpec.ofChange archiveSaysSpec)) archiveSaysCard

/-- THE TIED CARD OF 'cofferlaw18.ArchiveApart'. -/
def archiveApartCard : Claim7 := { stood := { row := archiveApartRow, standIns := [], harness := (true, "174cb939c946b862ad4bee79610f5cc9a28cb76e5ed640566d33218b1984a5bd"), looks := true }, kinds := [], alts := [], laidByText := true, laidKinds := [.data, .data, .data, .sentinel, .sentinel, .data], laidTests := true, laidLooks := .later }
def ArchiveApartCardSaid : Prop := Claim7.holds Tryz.pinned (.plain (OpenSpec.ofChange archiveApartSpec)) archiveApartCard

/-- THE SECOND FORM's CARD OF 'cofferlaw17.ManifestApart'. -/
def manifestApartUptoCard : Claim7 := { stood := { row := manifestApartUptoRow, standIns := [], harness := (true, "174cb939c946b862ad4bee79610f5cc9a28cb76e5ed640566d33218b1984a5bd"), looks := true }, kinds := [], alts := [], laidByText := true, laidKinds := [.data, .data, .data, .sentinel, .sentinel, .data], laidTests := true, laidLooks := .later }
def ManifestApartUptoCardSaid : Prop := Claim7.holds Tryz.pinned (.plain (OpenSpec.upto manifestApartSpec)) manifestApartUptoCard

/-- THE SECOND FORM's CARD OF 'cofferlaw18.ArchiveBack'. -/
def archiveBackUptoCard : Claim7 := { stood := { row := archiveBackUptoRow, standIns := [], harness := (true, "174cb939c946b862ad4bee79610f5cc9a28cb76e5ed640566d33218b1984a5bd"), looks := true }, kinds := [], alts := [], laidByText := true, laidKinds := [.data, .data, .data, .sentinel, .sentinel, .data], laidTests := true, laidLooks := .later }
def ArchiveBackUptoCardSaid : Prop := Claim7.holds Tryz.pinned (.plain (OpenSpec.upto archiveBackSpec)) archiveBackUptoCard

/-- THE SECOND FORM's CARD OF 'cofferlaw18.ArchiveSays'. -/
def archiveSaysUptoCard : Claim7 := { stood := { row := archiveSaysUptoRow, standIns := [], harness := (true, "174cb939c946b862ad4bee79610f5cc9a28cb76e5ed640566d33218b1984a5bd"), looks := true }, kinds := [], alts := [], laidByText := true, laidKinds := [.data, .data, .data, .sentinel, .sentinel, .data], laidTests := true, laidLooks := .later }
def ArchiveSaysUptoCardSaid : Prop := Claim7.holds Tryz.pinned (.plain (OpenSpec.upto archiveSaysSpec)) archiveSaysUptoCard

/-- THE SECOND FORM's CARD OF 'cofferlaw18.ArchiveApart'. -/
def archiveApartUptoCard : Claim7 := { stood := { row := archiveApartUptoRow, standIns := [], harness := (true, "174cb939c946b862ad4bee79610f5cc9a28cb76e5ed640566d33218b1984a5bd"), looks := true }, kinds := [], alts := [], laidByText := true, laidKinds := [.data, .data, .data, .sentinel, .sentinel, .data], laidTests := true, laidLooks := .later }
def ArchiveApartUptoCardSaid : Prop := Claim7.holds Tryz.pinned (.plain (OpenSpec.upto archiveApartSpec)) archiveApartUptoCard
end Rows
end Go.Proofs.YtcmmbdcflblekaaGreatDoor
