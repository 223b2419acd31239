/-
  DERIVED. GIVEN WITH THE SEED: THE CARDS: each row of YtdnejpokcjiodaaGreatDoorRows.lean that lists a variable, with what it lists TIED to the program's text (the seventh form; the later family's looks); each row that meets fmt, with fmt's text TOLD by the authors' own Lean function (tested against real Go, not proved from fmt's source: count such statements apart). THE CARD IS WHAT COUNTS. Prove the row's statement (the work); the ties are given (YtdnejpokcjiodaaGreatDoorTie.lean); close each card by the builder's one call (the guide's Derived/Test/ToyasCard.lean, 'card_holds'). Laid BY PROGRAM, IN A SANDBOX (cutbox-door.mjs). By AI agents, Wed Nov 11 2026. No macro, syntax, notation, axiom, sorry.
-/
import Derived.Test.YtdnejpokcjiodaaGreatDoorRows
import GoSem.ClaimSeven
namespace Go.Proofs.YtdnejpokcjiodaaGreatDoor
namespace Rows

/-- THE TIED CARD OF 'cofferlaw17.ManifestApart'. -/
def manifestApartCard : Claim7 := { stood := { row := manifestApartRow, standIns := [], harness := (true, "a085a5494abc99c9dd481cd25d3bc66f9ea4e5059f2361669e3f2a128c2dec7f"), looks := true }, kinds := [], alts := [], laidByText := true, laidKinds := [.data, .data, .data, .sentinel, .sentinel, .data], laidTests := true, laidLooks := .later }
def ManifestApartCardSaid : Prop := Claim7.holds Tryz.pinned (.plain (OpenSpec.ofChange manifestApartSpec)) manifestApartCard

/-- THE TIED CARD OF 'cofferlaw17.ManifestReads'. -/
def manifestReadsCard : Claim7 := { stood := { row := manifestReadsRow, standIns := [], harness := (true, "a085a5494abc99c9dd481cd25d3bc66f9ea4e5059f2361669e3f2a128c2dec7f"), looks := true }, kinds := [], alts := [], laidByText := true, laidKinds := [.data, .data, .data, .sentinel, .sentinel, .data], laidTests := true, laidLooks := .later }
def ManifestReadsCardSaid : Prop := Claim7.holds Tryz.pinned (.plain (OpenSpec.ofChange manifestReadsSpec)) manifestReadsCard

/-- THE TIED CARD OF 'cofferlaw18.ArchiveBack'. -/
def archiveBackCard : Claim7 := { stood := { row := archiveBackRow, standIns := [], harness := (true, "a085a5494abc99c9dd481cd25d3bc66f9ea4e5059f2361669e3f2a128c2dec7f"), looks := true }, kinds := [], alts := [], laidByText := true, laidKinds := [.data, .data, .data, .sentinel, .sentinel, .data], laidTests := true, laidLooks := .later }
def ArchiveBackCardSaid : Prop := Claim7.holds Tryz.pinned (.plain (OpenSpec.ofChange archiveBackSpec)) archiveBackCard

/-- THE TIED CARD OF 'cofferlaw18.ArchiveSays'. -/
def archiveSaysCard : Claim7 := { stood := { row := archiveSaysRow, standIns := [], harness := (true, "a085a5494abc99c9dd481cd25d3bc66f9ea4e5059f2361669e3f2a128c2dec7f"), looks := true }, kinds := [], alts := [], laidByText := true, laidKinds := [.data, .data, .data, .sentinel, .sentinel, .data], laidTests := true, laidLooks := .later }
def ArchiveSaysCardSaid : Prop := Claim7.holds Tryz.pinned (.plain (OpenSpec.ofChange archiveSaysSpec)) archiveSaysCard

/-- THE TIED CARD OF 'cofferlaw18.ArchiveApart'. -/
def archiveApartCard : Claim7 := { stood := { row := archiveApartRow, standIns := [], harness := (true, "a085a5494abc99c9dd481cd25d3bc66f9ea4e5059f2361669e3f2a128c2dec7f"), looks := true }, kinds := [], alts := [], laidByText := true, laidKinds := [.data, .data, .data, .sentinel, .sentinel, .data], laidTests := true, laidLooks := .later }
def ArchiveApartCardSaid : Prop := Claim7.holds Tryz.pinned (.plain (OpenSpec.ofChange archiveApartSpec)) archiveApartCard

/-- THE TIED CARD OF 'cofferlaw18.ArchiveSpoilt'. -/
def archiveSpoiltCard : Claim7 := { stood := { row := archiveSpoiltRow, standIns := [], harness := (true, "a085a5494abc99c9dd481cd25d3bc66f9ea4e5059f2361669e3f2a128c2dec7f"), looks := true }, kinds := [], alts := [], laidByText := true, laidKinds := [.data, .data, .data, .sentinel, .sentinel, .data], laidTests := true, laidLooks := .later }
def ArchiveSpoiltCardSaid : Prop := Claim7.holds Tryz.pinned (.plain (OpenSpec.ofChange archiveSpoiltSpec)) archiveSpoiltCard

/-- THE SECOND FORM's CARD OF 'cofferlaw17.ManifestApart'. -/
def manifestApartUptoCard : Claim7 := { stood := { row := manifestApartUptoRow, standIns := [], harness := (true, "a085a5494abc99c9dd481cd25d3bc66f9ea4e5059f2361669e3f2a128c2dec7f"), looks := true }, kinds := [], alts := [], laidByText := true, laidKinds := [.data, .data, .data, .sentinel, .sentinel, .data], laidTests := true, laidLooks := .later }
def ManifestApartUptoCardSaid : Prop := Claim7.holds Tryz.pinned (.plain (OpenSpec.upto manifestApartSpec)) manifestApartUptoCard

/-- THE SECOND FORM's CARD OF 'cofferlaw17.ManifestReads'. -/
def manifestReadsUptoCard : Claim7 := { stood := { row := manifestReadsUptoRow, standIns := [], harness := (true, "a085a5494abc99c9dd481cd25d3bc66f9ea4e5059f2361669e3f2a128c2dec7f"), looks := true }, kinds := [], alts := [], laidByText := true, laidKinds := [.data, .data, .data, .sentinel, .sentinel, .data], laidTests := true, laidLooks := .later }
def ManifestReadsUptoCardSaid : Prop := Claim7.holds Tryz.pinned (.plain (OpenSpec.upto manifestReadsSpec)) manifestReadsUptoCard

/-- THE SECOND FORM's CARD OF 'cofferlaw18.ArchiveBack'. -/
def archiveBackUptoCard : Claim7 := { stood := { row := archiveBackUptoRow, standIns := [], harness := (true, "a085a5494abc99c9dd481cd25d3bc66f9ea4e5059f2361669e3f2a128c2dec7f"), looks := true }, kinds := [], alts := [], laidByText := true, laidKinds := [.data, .data, .data, .sentinel, .sentinel, .data], laidTests := true, laidLooks := .later }
def ArchiveBackUptoCardSaid : Prop := Claim7.holds Tryz.pinned (.plain (OpenSpec.upto archiveBackSpec)) archiveBackUptoCard

/-- THE SECOND FORM's CARD OF 'cofferlaw18.ArchiveSays'. -/
def archiveSaysUptoCard : Claim7 := { stood := { row := archiveSaysUptoRow, standIns := [], harness := (true, "a085a5494abc99c9dd481cd25d3bc66f9ea4e5059f2361669e3f2a128c2dec7f"), looks := true }, kinds := [], alts := [], laidByText := true, laidKinds := [.data, .data, .data, .sentinel, .sentinel, .data], laidTests := true, laidLooks := .later }
def ArchiveSaysUptoCardSaid : Prop := Claim7.holds Tryz.pinned (.plain (OpenSpec.upto archiveSaysSpec)) archiveSaysUptoCard

/-- THE SECOND FORM's CARD OF 'cofferlaw18.ArchiveApart'. -/
def archiveApartUptoCard : Claim7 := { stood := { row := archiveApartUptoRow, standIns := [], harness := (true, "a085a5494abc99c9dd481cd25d3bc66f9ea4e5059f2361669e3f2a128c2dec7f"), looks := true }, kinds := [], alts := [], laidByText := true, laidKinds := [.data, .data, .data, .sentinel, .sentinel, .data], laidTests := true, laidLooks := .later }
def ArchiveApartUptoCardSaid : Prop := Claim7.holds Tryz.pinned (.plain (OpenSpec.upto archiveApartSpec)) archiveApartUptoCard

/-- THE SECOND FORM's CARD OF 'cofferlaw18.ArchiveSpoilt'. -/
def archiveSpoiltUptoCard : Claim7 := { stood := { row := archiveSpoiltUptoRow, standIns := [], harness := (true, "a085a5494abc99c9dd481cd25d3bc66f9ea4e5059f2361669e3f2a128c2dec7f"), looks := true }, kinds := [], alts := [], laidByText := true, laidKinds := [.data, .data, .data, .sentinel, .sentinel, .data], laidTests := true, laidLooks := .later }
def ArchiveSpoiltUptoCardSaid : Prop := Claim7.holds Tryz.pinned (.plain (OpenSpec.upto archiveSpoiltSpec)) archiveSpoiltUptoCard
end Rows
end Go.Proofs.YtdnejpokcjiodaaGreatDoor
