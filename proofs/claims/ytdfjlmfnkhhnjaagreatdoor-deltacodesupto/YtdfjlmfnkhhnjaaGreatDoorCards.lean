/-
  DERIVED. GIVEN WITH THE SEED: THE CARDS: each row of YtdfjlmfnkhhnjaaGreatDoorRows.lean that lists a variable, with what it lists TIED to the program's text (the seventh form; the later family's looks); each row that meets fmt, with fmt's text TOLD by the authors' own Lean function (tested against real Go, not proved from fmt's source: count such statements apart). THE CARD IS WHAT COUNTS. Prove the row's statement (the work); the ties are given (YtdfjlmfnkhhnjaaGreatDoorTie.lean); close each card by the builder's one call (the guide's Derived/Test/ToyasCard.lean, 'card_holds'). Laid BY PROGRAM, IN A SANDBOX (cutbox-door.mjs). By AI agents, Wed Nov 11 2026. No macro, syntax, notation, axiom, sorry.
-/
import Derived.Test.YtdfjlmfnkhhnjaaGreatDoorRows
import GoSem.ClaimSeven
namespace Go.Proofs.YtdfjlmfnkhhnjaaGreatDoor
namespace Rows

/-- THE TIED CARD OF 'cofferlaw17.ManifestApart'. -/
def manifestApartCard : Claim7 := { stood := { row := manifestApartRow, standIns := [], harness := (true, "1f7bc10a3398bfafc9c3c34a537471f9313874a8fec548e5de881eec67be7add"), looks := true }, kinds := [], alts := [], laidByText := true, laidKinds := [.data, .data, .data, .sentinel, .sentinel, .data], laidTests := true, laidLooks := .later }
def ManifestApartCardSaid : Prop := Claim7.holds Tryz.pinned (.plain (OpenSpec.ofChange manifestApartSpec)) manifestApartCard

/-- THE TIED CARD OF 'cofferlaw19.DeltaOne'. -/
def deltaOneCard : Claim7 := { stood := { row := deltaOneRow, standIns := [], harness := (true, "1f7bc10a3398bfafc9c3c34a537471f9313874a8fec548e5de881eec67be7add"), looks := true }, kinds := [], alts := [], laidByText := true, laidKinds := [.data, .data, .data, .sentinel, .sentinel, .data], laidTests := true, laidLooks := .later }
def DeltaOneCardSaid : Prop := Claim7.holds Tryz.pinned (.plain (OpenSpec.ofChange deltaOneSpec)) deltaOneCard

/-- THE TIED CARD OF 'cofferlaw19.DeltaCodes'. -/
def deltaCodesCard : Claim7 := { stood := { row := deltaCodesRow, standIns := [], harness := (true, "1f7bc10a3398bfafc9c3c34a537471f9313874a8fec548e5de881eec67be7add"), looks := true }, kinds := [], alts := [], laidByText := true, laidKinds := [.data, .data, .data, .sentinel, .sentinel, .data], laidTests := true, laidLooks := .later }
def DeltaCodesCardSaid : Prop := Claim7.holds Tryz.pinned (.plain (OpenSpec.ofChange deltaCodesSpec)) deltaCodesCard

/-- THE SECOND FORM's CARD OF 'cofferlaw17.ManifestApart'. -/
def manifestApartUptoCard : Claim7 := { stood := { row := manifestApartUptoRow, standIns := [], harness := (true, "1f7bc10a3398bfafc9c3c34a537471f9313874a8fec548e5de881eec67be7add"), looks := true }, kinds := [], alts := [], laidByText := true, laidKinds := [.data, .data, .data, .sentinel, .sentinel, .data], laidTests := true, laidLooks := .later }
def ManifestApartUptoCardSaid : Prop := Claim7.holds Tryz.pinned (.plain (OpenSpec.upto manifestApartSpec)) manifestApartUptoCard

/-- THE SECOND FORM's CARD OF 'cofferlaw19.DeltaOne'. -/
def deltaOneUptoCard : Claim7 := { stood := { row := deltaOneUptoRow, standIns := [], harness := (true, "1f7bc10a3398bfafc9c3c34a537471f9313874a8fec548e5de881eec67be7add"), looks := true }, kinds := [], alts := [], laidByText := true, laidKinds := [.data, .data, .data, .sentinel, .sentinel, .data], laidTests := true, laidLooks := .later }
def DeltaOneUptoCardSaid : Prop := Claim7.holds Tryz.pinned (.plain (OpenSpec.upto deltaOneSpec)) deltaOneUptoCard

/-- THE SECOND FORM's CARD OF 'cofferlaw19.DeltaCodes'. -/
def deltaCodesUptoCard : Claim7 := { stood := { row := deltaCodesUptoRow, standIns := [], harness := (true, "1f7bc10a3398bfafc9c3c34a537471f9313874a8fec548e5de881eec67be7add"), looks := true }, kinds := [], alts := [], laidByText := true, laidKinds := [.data, .data, .data, .sentinel, .sentinel, .data], laidTests := true, laidLooks := .later }
def DeltaCodesUptoCardSaid : Prop := Claim7.holds Tryz.pinned (.plain (OpenSpec.upto deltaCodesSpec)) deltaCodesUptoCard
end Rows
end Go.Proofs.YtdfjlmfnkhhnjaaGreatDoor
