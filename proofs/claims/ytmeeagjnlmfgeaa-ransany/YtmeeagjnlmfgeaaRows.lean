/-
  No cell of these rows narrows 'for every input' (looked for: loops, veiled, ifaces, maps, wideKeys, modest, calm, conditions, laid).
  DERIVED. THE GIVEN ROWS OF THIS SEAT. 4 by the template 'for every input the law returns true; each argument reads behind the call as it read before'; 0 by the template 'total and deterministic' (their statements: YtmeeagjnlmfgeaaTotals.lean).
  GIVEN WITH THE SEED: the statements are not yours to turn. If you find one false, say at which input.
  Laid BY PROGRAM, IN A SANDBOX (cutbox-rows.mjs): the forced cells as the released guide's own fill.sh prints them over the translation 129122c767701ced… (all of the seat's roots in one cut). By AI agents, Wed Nov 11 2026. No macro, syntax, notation, axiom, sorry.
-/
import Derived.Test.YtmeeagjnlmfgeaaChecked
import GoSem.Claim
import GoSem.ClaimJoined
import GoSem.ClaimMapViews
import Derived.JoinedTies
import Derived.KernelRfl
namespace Go.Proofs.Ytmeeagjnlmfgeaa
/- THE CELL 'sum', in the pinned program and in every row, IS THE sha256 OF THE DUMP (.gsa) THAT YtmeeagjnlmfgeaaProg.lean LOADS. Nothing in Lean hashes anything: it is a label: what it is worth is what the hold of that sum in a sandbox is worth. -/
noncomputable def Try.pinned : Pinned := { name := "ytmeeagjnlmfgeaa", sum := "129122c767701ced1475fab3d0ba8614f947b05f47f5b99a35dec579a67e9d37", checked := Try.checked }
namespace Rows
def none {H : Type} : Left H := { results := [], args := [] }

/-- 'scriptoriumlaw07.RansAny': WHATEVER THE INPUT: true; the input reads as it did. -/
def ransAnySpec : ChangeSpec := { name := "ransAny", fn := fun _ => fun
  | [d1, d2, d3, d4, d5] => { results := [.lit (.bool true)], args := [d1, d2, d3, d4, d5] }
  | _ => none }
def ransAnyRow : OpenClaim := { program := "ytmeeagjnlmfgeaa", sum := "129122c767701ced1475fab3d0ba8614f947b05f47f5b99a35dec579a67e9d37", func := "scriptorium/scriptoriumlaw07.RansAny", spec := "ransAny", apart := false }
def RansAnySaid : Prop := ransAnyRow.holds Try.pinned (OpenSpec.ofChange ransAnySpec)

/-- ITS FALSE NEIGHBOUR: 'it returns false'. Refute it at one input. -/
def ransAnyWrong : ChangeSpec := { name := "ransAny", fn := fun _ => fun
  | [d1, d2, d3, d4, d5] => { results := [.lit (.bool false)], args := [d1, d2, d3, d4, d5] }
  | _ => none }
def RansAnyWrongFalsely : Prop := ransAnyRow.holds Try.pinned (OpenSpec.ofChange ransAnyWrong)

/-- 'scriptoriumlaw07.RansStates': WHATEVER THE INPUT: true; the input reads as it did. -/
def ransStatesSpec : ChangeSpec := { name := "ransStates", fn := fun _ => fun
  | [d1, d2, d3] => { results := [.lit (.bool true)], args := [d1, d2, d3] }
  | _ => none }
def ransStatesRow : OpenClaim := { program := "ytmeeagjnlmfgeaa", sum := "129122c767701ced1475fab3d0ba8614f947b05f47f5b99a35dec579a67e9d37", func := "scriptorium/scriptoriumlaw07.RansStates", spec := "ransStates", apart := false }
def RansStatesSaid : Prop := ransStatesRow.holds Try.pinned (OpenSpec.ofChange ransStatesSpec)

/-- ITS FALSE NEIGHBOUR: 'it returns false'. Refute it at one input. -/
def ransStatesWrong : ChangeSpec := { name := "ransStates", fn := fun _ => fun
  | [d1, d2, d3] => { results := [.lit (.bool false)], args := [d1, d2, d3] }
  | _ => none }
def RansStatesWrongFalsely : Prop := ransStatesRow.holds Try.pinned (OpenSpec.ofChange ransStatesWrong)

/-- 'scriptoriumlaw07.RansStarts': WHATEVER THE INPUT: true; the input reads as it did. -/
def ransStartsSpec : ChangeSpec := { name := "ransStarts", fn := fun _ => fun
  | [d1, d2] => { results := [.lit (.bool true)], args := [d1, d2] }
  | _ => none }
def ransStartsRow : OpenClaim := { program := "ytmeeagjnlmfgeaa", sum := "129122c767701ced1475fab3d0ba8614f947b05f47f5b99a35dec579a67e9d37", func := "scriptorium/scriptoriumlaw07.RansStarts", spec := "ransStarts", apart := false }
def RansStartsSaid : Prop := ransStartsRow.holds Try.pinned (OpenSpec.ofChange ransStartsSpec)

/-- ITS FALSE NEIGHBOUR: 'it returns false'. Refute it at one input. -/
def ransStartsWrong : ChangeSpec := { name := "ransStarts", fn := fun _ => fun
  | [d1, d2] => { results := [.lit (.bool false)], args := [d1, d2] }
  | _ => none }
def RansStartsWrongFalsely : Prop := ransStartsRow.holds Try.pinned (OpenSpec.ofChange ransStartsWrong)

/-- 'scriptoriumlaw07.RansShort': WHATEVER THE INPUT: true; the input reads as it did. -/
def ransShortSpec : ChangeSpec := { name := "ransShort", fn := fun _ => fun
  | [d1, d2] => { results := [.lit (.bool true)], args := [d1, d2] }
  | _ => none }
def ransShortRow : OpenClaim := { program := "ytmeeagjnlmfgeaa", sum := "129122c767701ced1475fab3d0ba8614f947b05f47f5b99a35dec579a67e9d37", func := "scriptorium/scriptoriumlaw07.RansShort", spec := "ransShort", apart := false }
def RansShortSaid : Prop := ransShortRow.holds Try.pinned (OpenSpec.ofChange ransShortSpec)

/-- ITS FALSE NEIGHBOUR: 'it returns false'. Refute it at one input. -/
def ransShortWrong : ChangeSpec := { name := "ransShort", fn := fun _ => fun
  | [d1, d2] => { results := [.lit (.bool false)], args := [d1, d2] }
  | _ => none }
def RansShortWrongFalsely : Prop := ransShortRow.holds Try.pinned (OpenSpec.ofChange ransShortWrong)

/- THE SECOND FORM. 'bulk': how many values and letters a reading holds, each counted each time it is reached (what is shared counts as often as it is met; a slice's spare places count too). A statement '..UptoSaid' is the law's where the arguments, and the package variables that the reading takes, are together of bulk at most 1048576: NARROWER than '..Said'. Prove '..Said' where nothing that the law and all that it calls make is longer than what came in: it says more and counts as full. Else prove '..UptoSaid'. A law counts once. -/
mutual
def uptoBulk {H : Type} : DataW H → Nat
  | .lit (.string bytes) => bytes.length + 1
  | .lit _ => 1
  | .nil => 1
  | .ptr d => uptoBulk d + 1
  | .slice elems spare => uptoBulkAll elems + uptoBulkAll spare + 1
  | .agg parts => uptoBulkAll parts + 1
  | .iface _ d => uptoBulk d + 1
  | .map entries => uptoBulkEntries entries + 1
  | .held _ => 1
def uptoBulkAll {H : Type} : List (DataW H) → Nat
  | [] => 0
  | d :: r => uptoBulk d + uptoBulkAll r
def uptoBulkEntries {H : Type} : List (Lit × DataW H) → Nat
  | [] => 0
  | x :: r => uptoBulkEntry x + uptoBulkEntries r
def uptoBulkEntry {H : Type} : Lit × DataW H → Nat
  | (.string bytes, d) => bytes.length + uptoBulk d + 1
  | (_, d) => uptoBulk d + 1
 end
def uptoSmall : (H : Type) → List (DataW H) → Bool := fun _ ds => decide (uptoBulkAll ds ≤ 1048576)
def OpenSpec.upto (s : _root_.Go.ChangeSpec) : _root_.Go.OpenSpec := { _root_.Go.OpenSpec.ofChange s with cond := some uptoSmall }

/-- 'scriptoriumlaw07.RansAny', WHERE WHAT IT READS IS OF BULK AT MOST 1048576: true; the input reads as it did. -/
def ransAnyUptoRow : OpenClaim := { program := "ytmeeagjnlmfgeaa", sum := "129122c767701ced1475fab3d0ba8614f947b05f47f5b99a35dec579a67e9d37", func := "scriptorium/scriptoriumlaw07.RansAny", spec := "ransAny", apart := false, narrowed := true }
def RansAnyUptoSaid : Prop := ransAnyUptoRow.holds Try.pinned (OpenSpec.upto ransAnySpec)

/-- 'scriptoriumlaw07.RansStates', WHERE WHAT IT READS IS OF BULK AT MOST 1048576: true; the input reads as it did. -/
def ransStatesUptoRow : OpenClaim := { program := "ytmeeagjnlmfgeaa", sum := "129122c767701ced1475fab3d0ba8614f947b05f47f5b99a35dec579a67e9d37", func := "scriptorium/scriptoriumlaw07.RansStates", spec := "ransStates", apart := false, narrowed := true }
def RansStatesUptoSaid : Prop := ransStatesUptoRow.holds Try.pinned (OpenSpec.upto ransStatesSpec)

/-- 'scriptoriumlaw07.RansStarts', WHERE WHAT IT READS IS OF BULK AT MOST 1048576: true; the input reads as it did. -/
def ransStartsUptoRow : OpenClaim := { program := "ytmeeagjnlmfgeaa", sum := "129122c767701ced1475fab3d0ba8614f947b05f47f5b99a35dec579a67e9d37", func := "scriptorium/scriptoriumlaw07.RansStarts", spec := "ransStarts", apart := false, narrowed := true }
def RansStartsUptoSaid : Prop := ransStartsUptoRow.holds Try.pinned (OpenSpec.upto ransStartsSpec)

/-- 'scriptoriumlaw07.RansShort', WHERE WHAT IT READS IS OF BULK AT MOST 1048576: true; the input reads as it did. -/
def ransShortUptoRow : OpenClaim := { program := "ytmeeagjnlmfgeaa", sum := "129122c767701ced1475fab3d0ba8614f947b05f47f5b99a35dec579a67e9d37", func := "scriptorium/scriptoriumlaw07.RansShort", spec := "ransShort", apart := false, narrowed := true }
def RansShortUptoSaid : Prop := ransShortUptoRow.holds Try.pinned (OpenSpec.upto ransShortSpec)

end Rows
end Go.Proofs.Ytmeeagjnlmfgeaa
