/-
  DERIVED. GIVEN WITH THE SEED: THE CARDS: each row of YtgaofnmgdefdcaaDoorRows.lean that lists a variable, with what it lists TIED to the program's text (the seventh form; the later family's looks); each row that meets fmt, with fmt's text TOLD by the authors' own Lean function (tested against real Go, not proved from fmt's source: count such statements apart). THE CARD IS WHAT COUNTS. Prove the row's statement (the work); the ties are given (YtgaofnmgdefdcaaDoorTie.lean); close each card by the builder's one call (the guide's Derived/Test/ToyasCard.lean, 'card_holds'). Laid BY PROGRAM, IN A SANDBOX (cutbox-door.mjs). By AI agents, Wed Nov 11 2026. No macro, syntax, notation, axiom, sorry.
-/
import Derived.Test.YtgaofnmgdefdcaaDoorRows
import GoSem.ClaimSeven
namespace Go.Proofs.YtgaofnmgdefdcaaDoor
namespace Rows

/-- THE TIED CARD OF 'scriptoriumlaw10.QuillErrors'. -/
def quillErrorsCard : Claim7 := { stood := { row := quillErrorsRow, standIns := [], harness := (true, "afb144acc21641e025df51513eec9d2056aed34cd548fc7f1906341ac402bc0a"), looks := false }, kinds := [], alts := [], laidByText := true, laidKinds := [.data, .data, .data], laidTests := true, laidLooks := .later }
def QuillErrorsCardSaid : Prop := Claim7.holds Tryd.pinned (.plain (OpenSpec.ofChange quillErrorsSpec)) quillErrorsCard

/-- THE TIED CARD OF 'scriptoriumlaw10.QuillApart'. -/
def quillApartCard : Claim7 := { stood := { row := quillApartRow, standIns := [], harness := (true, "afb144acc21641e025df51513eec9d2056aed34cd548fc7f1906341ac402bc0a"), looks := false }, kinds := [], alts := [], laidByText := true, laidKinds := [.data, .data, .data], laidTests := true, laidLooks := .later }
def QuillApartCardSaid : Prop := Claim7.holds Tryd.pinned (.plain (OpenSpec.ofChange quillApartSpec)) quillApartCard

/-- THE SECOND FORM's CARD OF 'scriptoriumlaw10.QuillErrors'. -/
def quillErrorsUptoCard : Claim7 := { stood := { row := quillErrorsUptoRow, standIns := [], harness := (true, "afb144acc21641e025df51513eec9d2056aed34cd548fc7f1906341ac402bc0a"), looks := false }, kinds := [], alts := [], laidByText := true, laidKinds := [.data, .data, .data], laidTests := true, laidLooks := .later }
def QuillErrorsUptoCardSaid : Prop := Claim7.holds Tryd.pinned (.plain (OpenSpec.upto quillErrorsSpec)) quillErrorsUptoCard

/-- THE SECOND FORM's CARD OF 'scriptoriumlaw10.QuillApart'. -/
def quillApartUptoCard : Claim7 := { stood := { row := quillApartUptoRow, standIns := [], harness := (true, "afb144acc21641e025df51513eec9d2056aed34cd548fc7f1906341ac402bc0a"), looks := false }, kinds := [], alts := [], laidByText := true, laidKinds := [.data, .data, .data], laidTests := true, laidLooks := .later }
def QuillApartUptoCardSaid : Prop := Claim7.holds Tryd.pinned (.plain (OpenSpec.upto quillApartSpec)) quillApartUptoCard
end Rows
end Go.Proofs.YtgaofnmgdefdcaaDoor
