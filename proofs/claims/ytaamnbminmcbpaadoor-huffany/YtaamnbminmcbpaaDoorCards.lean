/-
  DERIVED. GIVEN WITH THE SEED: THE CARDS: each row of YtaamnbminmcbpaaDoorRows.lean that lists a variable, with what it lists TIED to the program's text (the seventh form; the later family's looks); each row that meets fmt, with fmt's text TOLD by the authors' own Lean function (tested against real Go, not proved from fmt's source: count such statements apart). THE CARD IS WHAT COUNTS. Prove the row's statement (the work); the ties are given (YtaamnbminmcbpaaDoorTie.lean); close each card by the builder's one call (the guide's Derived/Test/ToyasCard.lean, 'card_holds'). Laid BY PROGRAM, IN A SANDBOX (cutbox-door.mjs). By AI agents, Wed Nov 11 2026. No macro, syntax, notation, axiom, sorry.
-/
import Derived.Test.YtaamnbminmcbpaaDoorRows
import GoSem.ClaimSeven
namespace Go.Proofs.YtaamnbminmcbpaaDoor
namespace Rows

/-- THE TIED CARD OF 'scriptoriumlaw05.HuffAny'. -/
def huffAnyCard : Claim7 := { stood := { row := huffAnyRow, standIns := [], harness := (true, "1ea957f80614704996baf8b322bedf5cb34489381dff86b4325422e7ea9d95f1"), looks := false }, kinds := [], alts := [], laidByText := true, laidKinds := [.data, .data, .data], laidTests := true, laidLooks := .later }
def HuffAnyCardSaid : Prop := Claim7.holds Tryd.pinned (.plain (OpenSpec.ofChange huffAnySpec)) huffAnyCard

/-- THE SECOND FORM's CARD OF 'scriptoriumlaw05.HuffAny'. -/
def huffAnyUptoCard : Claim7 := { stood := { row := huffAnyUptoRow, standIns := [], harness := (true, "1ea957f80614704996baf8b322bedf5cb34489381dff86b4325422e7ea9d95f1"), looks := false }, kinds := [], alts := [], laidByText := true, laidKinds := [.data, .data, .data], laidTests := true, laidLooks := .later }
def HuffAnyUptoCardSaid : Prop := Claim7.holds Tryd.pinned (.plain (OpenSpec.upto huffAnySpec)) huffAnyUptoCard
end Rows
end Go.Proofs.YtaamnbminmcbpaaDoor
