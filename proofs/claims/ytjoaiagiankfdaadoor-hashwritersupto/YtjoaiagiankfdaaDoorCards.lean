/-
  DERIVED. GIVEN WITH THE SEED: THE CARDS: each row of YtjoaiagiankfdaaDoorRows.lean that lists a variable, with what it lists TIED to the program's text (the seventh form; the later family's looks); each row that meets fmt, with fmt's text TOLD by the authors' own Lean function (tested against real Go, not proved from fmt's source: count such statements apart). THE CARD IS WHAT COUNTS. Prove the row's statement (the work); the ties are given (YtjoaiagiankfdaaDoorTie.lean); close each card by the builder's one call (the guide's Derived/Test/ToyasCard.lean, 'card_holds'). Laid BY PROGRAM, IN A SANDBOX (cutbox-door.mjs). By AI agents, Wed Nov 11 2026. No macro, syntax, notation, axiom, sorry.
-/
import Derived.Test.YtjoaiagiankfdaaDoorRows
import GoSem.ClaimSeven
namespace Go.Proofs.YtjoaiagiankfdaaDoor
namespace Rows

/-- THE TIED CARD OF 'cofferlaw02.HashBack'. -/
def hashBackCard : Claim7 := { stood := { row := hashBackRow, standIns := [], harness := (true, "0faf704b421a3bfb61ae8aab87bfb717a25f9c206630b02b54ca05421e9be05e"), looks := false }, kinds := [], alts := [], laidByText := true, laidKinds := [.data], laidTests := true, laidLooks := .later }
def HashBackCardSaid : Prop := Claim7.holds Tryd.pinned (.plain (OpenSpec.ofChange hashBackSpec)) hashBackCard

/-- THE TIED CARD OF 'cofferlaw02.HashKnown'. -/
def hashKnownCard : Claim7 := { stood := { row := hashKnownRow, standIns := [], harness := (true, "0faf704b421a3bfb61ae8aab87bfb717a25f9c206630b02b54ca05421e9be05e"), looks := false }, kinds := [], alts := [], laidByText := true, laidKinds := [.data], laidTests := true, laidLooks := .later }
def HashKnownCardSaid : Prop := Claim7.holds Tryd.pinned (.plain (OpenSpec.ofChange hashKnownSpec)) hashKnownCard

/-- THE TIED CARD OF 'cofferlaw02.HashPieces'. -/
def hashPiecesCard : Claim7 := { stood := { row := hashPiecesRow, standIns := [], harness := (true, "0faf704b421a3bfb61ae8aab87bfb717a25f9c206630b02b54ca05421e9be05e"), looks := false }, kinds := [], alts := [], laidByText := true, laidKinds := [.data], laidTests := true, laidLooks := .later }
def HashPiecesCardSaid : Prop := Claim7.holds Tryd.pinned (.plain (OpenSpec.ofChange hashPiecesSpec)) hashPiecesCard

/-- THE TIED CARD OF 'cofferlaw02.HashDigits'. -/
def hashDigitsCard : Claim7 := { stood := { row := hashDigitsRow, standIns := [], harness := (true, "0faf704b421a3bfb61ae8aab87bfb717a25f9c206630b02b54ca05421e9be05e"), looks := false }, kinds := [], alts := [], laidByText := true, laidKinds := [.data], laidTests := true, laidLooks := .later }
def HashDigitsCardSaid : Prop := Claim7.holds Tryd.pinned (.plain (OpenSpec.ofChange hashDigitsSpec)) hashDigitsCard

/-- THE TIED CARD OF 'cofferlaw02.HashSums'. -/
def hashSumsCard : Claim7 := { stood := { row := hashSumsRow, standIns := [], harness := (true, "0faf704b421a3bfb61ae8aab87bfb717a25f9c206630b02b54ca05421e9be05e"), looks := false }, kinds := [], alts := [], laidByText := true, laidKinds := [.data], laidTests := true, laidLooks := .later }
def HashSumsCardSaid : Prop := Claim7.holds Tryd.pinned (.plain (OpenSpec.ofChange hashSumsSpec)) hashSumsCard

/-- THE TIED CARD OF 'cofferlaw02.HashWriters'. -/
def hashWritersCard : Claim7 := { stood := { row := hashWritersRow, standIns := [], harness := (true, "0faf704b421a3bfb61ae8aab87bfb717a25f9c206630b02b54ca05421e9be05e"), looks := false }, kinds := [], alts := [], laidByText := true, laidKinds := [.data], laidTests := true, laidLooks := .later }
def HashWritersCardSaid : Prop := Claim7.holds Tryd.pinned (.plain (OpenSpec.ofChange hashWritersSpec)) hashWritersCard

/-- THE SECOND FORM's CARD OF 'cofferlaw02.HashBack'. -/
def hashBackUptoCard : Claim7 := { stood := { row := hashBackUptoRow, standIns := [], harness := (true, "0faf704b421a3bfb61ae8aab87bfb717a25f9c206630b02b54ca05421e9be05e"), looks := false }, kinds := [], alts := [], laidByText := true, laidKinds := [.data], laidTests := true, laidLooks := .later }
def HashBackUptoCardSaid : Prop := Claim7.holds Tryd.pinned (.plain (OpenSpec.upto hashBackSpec)) hashBackUptoCard

/-- THE SECOND FORM's CARD OF 'cofferlaw02.HashKnown'. -/
def hashKnownUptoCard : Claim7 := { stood := { row := hashKnownUptoRow, standIns := [], harness := (true, "0faf704b421a3bfb61ae8aab87bfb717a25f9c206630b02b54ca05421e9be05e"), looks := false }, kinds := [], alts := [], laidByText := true, laidKinds := [.data], laidTests := true, laidLooks := .later }
def HashKnownUptoCardSaid : Prop := Claim7.holds Tryd.pinned (.plain (OpenSpec.upto hashKnownSpec)) hashKnownUptoCard

/-- THE SECOND FORM's CARD OF 'cofferlaw02.HashPieces'. -/
def hashPiecesUptoCard : Claim7 := { stood := { row := hashPiecesUptoRow, standIns := [], harness := (true, "0faf704b421a3bfb61ae8aab87bfb717a25f9c206630b02b54ca05421e9be05e"), looks := false }, kinds := [], alts := [], laidByText := true, laidKinds := [.data], laidTests := true, laidLooks := .later }
def HashPiecesUptoCardSaid : Prop := Claim7.holds Tryd.pinned (.plain (OpenSpec.upto hashPiecesSpec)) hashPiecesUptoCard

/-- THE SECOND FORM's CARD OF 'cofferlaw02.HashDigits'. -/
def hashDigitsUptoCard : Claim7 := { stood := { row := hashDigitsUptoRow, standIns := [], harness := (true, "0faf704b421a3bfb61ae8aab87bfb717a25f9c206630b02b54ca05421e9be05e"), looks := false }, kinds := [], alts := [], laidByText := true, laidKinds := [.data], laidTests := true, laidLooks := .later }
def HashDigitsUptoCardSaid : Prop := Claim7.holds Tryd.pinned (.plain (OpenSpec.upto hashDigitsSpec)) hashDigitsUptoCard

/-- THE SECOND FORM's CARD OF 'cofferlaw02.HashSums'. -/
def hashSumsUptoCard : Claim7 := { stood := { row := hashSumsUptoRow, standIns := [], harness := (true, "0faf704b421a3bfb61ae8aab87bfb717a25f9c206630b02b54ca05421e9be05e"), looks := false }, kinds := [], alts := [], laidByText := true, laidKinds := [.data], laidTests := true, laidLooks := .later }
def HashSumsUptoCardSaid : Prop := Claim7.holds Tryd.pinned (.plain (OpenSpec.upto hashSumsSpec)) hashSumsUptoCard

/-- THE SECOND FORM's CARD OF 'cofferlaw02.HashWriters'. -/
def hashWritersUptoCard : Claim7 := { stood := { row := hashWritersUptoRow, standIns := [], harness := (true, "0faf704b421a3bfb61ae8aab87bfb717a25f9c206630b02b54ca05421e9be05e"), looks := false }, kinds := [], alts := [], laidByText := true, laidKinds := [.data], laidTests := true, laidLooks := .later }
def HashWritersUptoCardSaid : Prop := Claim7.holds Tryd.pinned (.plain (OpenSpec.upto hashWritersSpec)) hashWritersUptoCard
end Rows
end Go.Proofs.YtjoaiagiankfdaaDoor
