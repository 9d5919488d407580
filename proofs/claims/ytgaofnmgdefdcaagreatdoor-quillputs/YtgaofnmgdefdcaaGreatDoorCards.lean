/-
  DERIVED. GIVEN WITH THE SEED: THE CARDS: each row of YtgaofnmgdefdcaaGreatDoorRows.lean that lists a variable, with what it lists TIED to the program's text (the seventh form; the later family's looks); each row that meets fmt, with fmt's text TOLD by the authors' own Lean function (tested against real Go, not proved from fmt's source: count such statements apart). THE CARD IS WHAT COUNTS. Prove the row's statement (the work); the ties are given (YtgaofnmgdefdcaaGreatDoorTie.lean); close each card by the builder's one call (the guide's Derived/Test/ToyasCard.lean, 'card_holds'). Laid BY PROGRAM, IN A SANDBOX (cutbox-door.mjs). By AI agents, Wed Nov 11 2026. No macro, syntax, notation, axiom, sorry.
-/
import Derived.Test.YtgaofnmgdefdcaaGreatDoorRows
import GoSem.ClaimSeven
namespace Go.Proofs.YtgaofnmgdefdcaaGreatDoor
namespace Rows

/-- THE TIED CARD OF 'scriptoriumlaw10.QuillPuts'. -/
def quillPutsCard : Claim7 := { stood := { row := quillPutsRow, standIns := [], harness := (true, "c509e5a3588d1c0172cb8ba5d4acbebb2c2cecae6b40abe70424d5f5d3e82fb4"), looks := false }, kinds := [], alts := [], laidByText := true, laidKinds := [.data, .data, .data], laidTests := true, laidLooks := .later }
def QuillPutsCardSaid : Prop := Claim7.holds Tryz.pinned (.plain (OpenSpec.ofChange quillPutsSpec)) quillPutsCard

/-- THE TIED CARD OF 'scriptoriumlaw11.LensBack'. -/
def lensBackCard : Claim7 := { stood := { row := lensBackRow, standIns := [], harness := (true, "c509e5a3588d1c0172cb8ba5d4acbebb2c2cecae6b40abe70424d5f5d3e82fb4"), looks := false }, kinds := [], alts := [], laidByText := true, laidKinds := [.data, .data, .data], laidTests := true, laidLooks := .later }
def LensBackCardSaid : Prop := Claim7.holds Tryz.pinned (.plain (OpenSpec.ofChange lensBackSpec)) lensBackCard

/-- THE TIED CARD OF 'scriptoriumlaw11.LensAny'. -/
def lensAnyCard : Claim7 := { stood := { row := lensAnyRow, standIns := [], harness := (true, "c509e5a3588d1c0172cb8ba5d4acbebb2c2cecae6b40abe70424d5f5d3e82fb4"), looks := false }, kinds := [], alts := [], laidByText := true, laidKinds := [.data, .data, .data], laidTests := true, laidLooks := .later }
def LensAnyCardSaid : Prop := Claim7.holds Tryz.pinned (.plain (OpenSpec.ofChange lensAnySpec)) lensAnyCard

/-- THE TIED CARD OF 'scriptoriumlaw11.LensEnds'. -/
def lensEndsCard : Claim7 := { stood := { row := lensEndsRow, standIns := [], harness := (true, "c509e5a3588d1c0172cb8ba5d4acbebb2c2cecae6b40abe70424d5f5d3e82fb4"), looks := false }, kinds := [], alts := [], laidByText := true, laidKinds := [.data, .data, .data], laidTests := true, laidLooks := .later }
def LensEndsCardSaid : Prop := Claim7.holds Tryz.pinned (.plain (OpenSpec.ofChange lensEndsSpec)) lensEndsCard

/-- THE TIED CARD OF 'scriptoriumlaw11.LensShort'. -/
def lensShortCard : Claim7 := { stood := { row := lensShortRow, standIns := [], harness := (true, "c509e5a3588d1c0172cb8ba5d4acbebb2c2cecae6b40abe70424d5f5d3e82fb4"), looks := false }, kinds := [], alts := [], laidByText := true, laidKinds := [.data, .data, .data], laidTests := true, laidLooks := .later }
def LensShortCardSaid : Prop := Claim7.holds Tryz.pinned (.plain (OpenSpec.ofChange lensShortSpec)) lensShortCard

/-- THE SECOND FORM's CARD OF 'scriptoriumlaw10.QuillPuts'. -/
def quillPutsUptoCard : Claim7 := { stood := { row := quillPutsUptoRow, standIns := [], harness := (true, "c509e5a3588d1c0172cb8ba5d4acbebb2c2cecae6b40abe70424d5f5d3e82fb4"), looks := false }, kinds := [], alts := [], laidByText := true, laidKinds := [.data, .data, .data], laidTests := true, laidLooks := .later }
def QuillPutsUptoCardSaid : Prop := Claim7.holds Tryz.pinned (.plain (OpenSpec.upto quillPutsSpec)) quillPutsUptoCard

/-- THE SECOND FORM's CARD OF 'scriptoriumlaw11.LensBack'. -/
def lensBackUptoCard : Claim7 := { stood := { row := lensBackUptoRow, standIns := [], harness := (true, "c509e5a3588d1c0172cb8ba5d4acbebb2c2cecae6b40abe70424d5f5d3e82fb4"), looks := false }, kinds := [], alts := [], laidByText := true, laidKinds := [.data, .data, .data], laidTests := true, laidLooks := .later }
def LensBackUptoCardSaid : Prop := Claim7.holds Tryz.pinned (.plain (OpenSpec.upto lensBackSpec)) lensBackUptoCard

/-- THE SECOND FORM's CARD OF 'scriptoriumlaw11.LensAny'. -/
def lensAnyUptoCard : Claim7 := { stood := { row := lensAnyUptoRow, standIns := [], harness := (true, "c509e5a3588d1c0172cb8ba5d4acbebb2c2cecae6b40abe70424d5f5d3e82fb4"), looks := false }, kinds := [], alts := [], laidByText := true, laidKinds := [.data, .data, .data], laidTests := true, laidLooks := .later }
def LensAnyUptoCardSaid : Prop := Claim7.holds Tryz.pinned (.plain (OpenSpec.upto lensAnySpec)) lensAnyUptoCard

/-- THE SECOND FORM's CARD OF 'scriptoriumlaw11.LensEnds'. -/
def lensEndsUptoCard : Claim7 := { stood := { row := lensEndsUptoRow, standIns := [], harness := (true, "c509e5a3588d1c0172cb8ba5d4acbebb2c2cecae6b40abe70424d5f5d3e82fb4"), looks := false }, kinds := [], alts := [], laidByText := true, laidKinds := [.data, .data, .data], laidTests := true, laidLooks := .later }
def LensEndsUptoCardSaid : Prop := Claim7.holds Tryz.pinned (.plain (OpenSpec.upto lensEndsSpec)) lensEndsUptoCard

/-- THE SECOND FORM's CARD OF 'scriptoriumlaw11.LensShort'. -/
def lensShortUptoCard : Claim7 := { stood := { row := lensShortUptoRow, standIns := [], harness := (true, "c509e5a3588d1c0172cb8ba5d4acbebb2c2cecae6b40abe70424d5f5d3e82fb4"), looks := false }, kinds := [], alts := [], laidByText := true, laidKinds := [.data, .data, .data], laidTests := true, laidLooks := .later }
def LensShortUptoCardSaid : Prop := Claim7.holds Tryz.pinned (.plain (OpenSpec.upto lensShortSpec)) lensShortUptoCard
end Rows
end Go.Proofs.YtgaofnmgdefdcaaGreatDoor
