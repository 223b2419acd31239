/-
  DERIVED. GIVEN WITH THE SEED: THE CARDS: each row of YtkoaojhldcacbaaGreatDoorRows.lean that lists a variable, with what it lists TIED to the program's text (the seventh form; the later family's looks); each row that meets fmt, with fmt's text TOLD by the authors' own Lean function (tested against real Go, not proved from fmt's source: count such statements apart). THE CARD IS WHAT COUNTS. Prove the row's statement (the work); the ties are given (YtkoaojhldcacbaaGreatDoorTie.lean); close each card by the builder's one call (the guide's Derived/Test/ToyasCard.lean, 'card_holds'). Laid BY PROGRAM, IN A SANDBOX (cutbox-door.mjs). By AI agents, Wed Nov 11 2026. No macro, syntax, notation, axiom, sorry.
-/
import Derived.Test.YtkoaojhldcacbaaGreatDoorRows
import GoSem.ClaimSeven
namespace Go.Proofs.YtkoaojhldcacbaaGreatDoor
namespace Rows

/-- THE TIED CARD OF 'cofferlaw18.ArchivePacks'. -/
def archivePacksCard : Claim7 := { stood := { row := archivePacksRow, standIns := [], harness := (true, "3c5e61d01ce1671c502fb6652680d18ab57ad06a871c0e6d7e69fa26da862df4"), looks := true }, kinds := [], alts := [], laidByText := true, laidKinds := [.data, .data, .data, .sentinel, .sentinel, .data], laidTests := true, laidLooks := .later }
def ArchivePacksCardSaid : Prop := Claim7.holds Tryz.pinned (.plain (OpenSpec.ofChange archivePacksSpec)) archivePacksCard

/-- THE TIED CARD OF 'cofferlaw18.ArchiveUnpacks'. -/
def archiveUnpacksCard : Claim7 := { stood := { row := archiveUnpacksRow, standIns := [], harness := (true, "3c5e61d01ce1671c502fb6652680d18ab57ad06a871c0e6d7e69fa26da862df4"), looks := true }, kinds := [], alts := [], laidByText := true, laidKinds := [.data, .data, .data, .sentinel, .sentinel, .data], laidTests := true, laidLooks := .later }
def ArchiveUnpacksCardSaid : Prop := Claim7.holds Tryz.pinned (.plain (OpenSpec.ofChange archiveUnpacksSpec)) archiveUnpacksCard

/-- THE TIED CARD OF 'cofferlaw19.DeltaOne'. -/
def deltaOneCard : Claim7 := { stood := { row := deltaOneRow, standIns := [], harness := (true, "3c5e61d01ce1671c502fb6652680d18ab57ad06a871c0e6d7e69fa26da862df4"), looks := true }, kinds := [], alts := [], laidByText := true, laidKinds := [.data, .data, .data, .sentinel, .sentinel, .data], laidTests := true, laidLooks := .later }
def DeltaOneCardSaid : Prop := Claim7.holds Tryz.pinned (.plain (OpenSpec.ofChange deltaOneSpec)) deltaOneCard

/-- THE TIED CARD OF 'cofferlaw19.DeltaCodes'. -/
def deltaCodesCard : Claim7 := { stood := { row := deltaCodesRow, standIns := [], harness := (true, "3c5e61d01ce1671c502fb6652680d18ab57ad06a871c0e6d7e69fa26da862df4"), looks := true }, kinds := [], alts := [], laidByText := true, laidKinds := [.data, .data, .data, .sentinel, .sentinel, .data], laidTests := true, laidLooks := .later }
def DeltaCodesCardSaid : Prop := Claim7.holds Tryz.pinned (.plain (OpenSpec.ofChange deltaCodesSpec)) deltaCodesCard

/-- THE SECOND FORM's CARD OF 'cofferlaw18.ArchivePacks'. -/
def archivePacksUptoCard : Claim7 := { stood := { row := archivePacksUptoRow, standIns := [], harness := (true, "3c5e61d01ce1671c502fb6652680d18ab57ad06a871c0e6d7e69fa26da862df4"), looks := true }, kinds := [], alts := [], laidByText := true, laidKinds := [.data, .data, .data, .sentinel, .sentinel, .data], laidTests := true, laidLooks := .later }
def ArchivePacksUptoCardSaid : Prop := Claim7.holds Tryz.pinned (.plain (OpenSpec.upto archivePacksSpec)) archivePacksUptoCard

/-- THE SECOND FORM's CARD OF 'cofferlaw18.ArchiveUnpacks'. -/
def archiveUnpacksUptoCard : Claim7 := { stood := { row := archiveUnpacksUptoRow, standIns := [], harness := (true, "3c5e61d01ce1671c502fb6652680d18ab57ad06a871c0e6d7e69fa26da862df4"), looks := true }, kinds := [], alts := [], laidByText := true, laidKinds := [.data, .data, .data, .sentinel, .sentinel, .data], laidTests := true, laidLooks := .later }
def ArchiveUnpacksUptoCardSaid : Prop := Claim7.holds Tryz.pinned (.plain (OpenSpec.upto archiveUnpacksSpec)) archiveUnpacksUptoCard

/-- THE SECOND FORM's CARD OF 'cofferlaw19.DeltaOne'. -/
def deltaOneUptoCard : Claim7 := { stood := { row := deltaOneUptoRow, standIns := [], harness := (true, "3c5e61d01ce1671c502fb6652680d18ab57ad06a871c0e6d7e69fa26da862df4"), looks := true }, kinds := [], alts := [], laidByText := true, laidKinds := [.data, .data, .data, .sentinel, .sentinel, .data], laidTests := true, laidLooks := .later }
def DeltaOneUptoCardSaid : Prop := Claim7.holds Tryz.pinned (.plain (OpenSpec.upto deltaOneSpec)) deltaOneUptoCard

/-- THE SECOND FORM's CARD OF 'cofferlaw19.DeltaCodes'. -/
def deltaCodesUptoCard : Claim7 := { stood := { row := deltaCodesUptoRow, standIns := [], harness := (true, "3c5e61d01ce1671c502fb6652680d18ab57ad06a871c0e6d7e69fa26da862df4"), looks := true }, kinds := [], alts := [], laidByText := true, laidKinds := [.data, .data, .data, .sentinel, .sentinel, .data], laidTests := true, laidLooks := .later }
def DeltaCodesUptoCardSaid : Prop := Claim7.holds Tryz.pinned (.plain (OpenSpec.upto deltaCodesSpec)) deltaCodesUptoCard
end Rows
end Go.Proofs.YtkoaojhldcacbaaGreatDoor
