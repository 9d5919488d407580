/-
  No cell of these rows narrows 'for every input' (looked for: loops, veiled, ifaces, maps, wideKeys, modest, calm, conditions, laid).
  DERIVED. THE GIVEN ROWS OF THIS SEAT. 5 by the template 'for every input the law returns true; each argument reads behind the call as it read before'; 0 by the template 'total and deterministic' (their statements: YtjidgiobnlolpaaTotals.lean).
  GIVEN WITH THE SEED: the statements are not yours to turn. If you find one false, say at which input.
  Laid BY PROGRAM, IN A SANDBOX (cutbox-rows.mjs): the forced cells as the released guide's own fill.sh prints them over the translation fdaca9b78ec223d0… (all of the seat's roots in one cut). By AI agents, Wed Nov 11 2026. No macro, syntax, notation, axiom, sorry.
-/
import Derived.Test.YtjidgiobnlolpaaChecked
import GoSem.Claim
import GoSem.ClaimJoined
import GoSem.ClaimMapViews
import Derived.JoinedTies
import Derived.KernelRfl
namespace Go.Proofs.Ytjidgiobnlolpaa
/- THE CELL 'sum', in the pinned program and in every row, IS THE sha256 OF THE DUMP (.gsa) THAT YtjidgiobnlolpaaProg.lean LOADS. Nothing in Lean hashes anything: it is a label: what it is worth is what the hold of that sum in a sandbox is worth. -/
noncomputable def Try.pinned : Pinned := { name := "ytjidgiobnlolpaa", sum := "fdaca9b78ec223d04000ead04d98bf569796305d20c8c088fb0f5f43208e1e44", checked := Try.checked }
namespace Rows
def none {H : Type} : Left H := { results := [], args := [] }

/-- 'scriptoriumlaw06.FreqScales': WHATEVER THE INPUT: true; the input reads as it did. -/
def freqScalesSpec : ChangeSpec := { name := "freqScales", fn := fun _ => fun
  | [d1, d2, d3] => { results := [.lit (.bool true)], args := [d1, d2, d3] }
  | _ => none }
def freqScalesRow : OpenClaim := { program := "ytjidgiobnlolpaa", sum := "fdaca9b78ec223d04000ead04d98bf569796305d20c8c088fb0f5f43208e1e44", func := "scriptorium/scriptoriumlaw06.FreqScales", spec := "freqScales", apart := false }
def FreqScalesSaid : Prop := freqScalesRow.holds Try.pinned (OpenSpec.ofChange freqScalesSpec)

/-- ITS FALSE NEIGHBOUR: 'it returns false'. Refute it at one input. -/
def freqScalesWrong : ChangeSpec := { name := "freqScales", fn := fun _ => fun
  | [d1, d2, d3] => { results := [.lit (.bool false)], args := [d1, d2, d3] }
  | _ => none }
def FreqScalesWrongFalsely : Prop := freqScalesRow.holds Try.pinned (OpenSpec.ofChange freqScalesWrong)

/-- 'scriptoriumlaw06.FreqBack': WHATEVER THE INPUT: true; the input reads as it did. -/
def freqBackSpec : ChangeSpec := { name := "freqBack", fn := fun _ => fun
  | [d1, d2] => { results := [.lit (.bool true)], args := [d1, d2] }
  | _ => none }
def freqBackRow : OpenClaim := { program := "ytjidgiobnlolpaa", sum := "fdaca9b78ec223d04000ead04d98bf569796305d20c8c088fb0f5f43208e1e44", func := "scriptorium/scriptoriumlaw06.FreqBack", spec := "freqBack", apart := false }
def FreqBackSaid : Prop := freqBackRow.holds Try.pinned (OpenSpec.ofChange freqBackSpec)

/-- ITS FALSE NEIGHBOUR: 'it returns false'. Refute it at one input. -/
def freqBackWrong : ChangeSpec := { name := "freqBack", fn := fun _ => fun
  | [d1, d2] => { results := [.lit (.bool false)], args := [d1, d2] }
  | _ => none }
def FreqBackWrongFalsely : Prop := freqBackRow.holds Try.pinned (OpenSpec.ofChange freqBackWrong)

/-- 'scriptoriumlaw06.FreqAny': WHATEVER THE INPUT: true; the input reads as it did. -/
def freqAnySpec : ChangeSpec := { name := "freqAny", fn := fun _ => fun
  | [d1, d2, d3] => { results := [.lit (.bool true)], args := [d1, d2, d3] }
  | _ => none }
def freqAnyRow : OpenClaim := { program := "ytjidgiobnlolpaa", sum := "fdaca9b78ec223d04000ead04d98bf569796305d20c8c088fb0f5f43208e1e44", func := "scriptorium/scriptoriumlaw06.FreqAny", spec := "freqAny", apart := false }
def FreqAnySaid : Prop := freqAnyRow.holds Try.pinned (OpenSpec.ofChange freqAnySpec)

/-- ITS FALSE NEIGHBOUR: 'it returns false'. Refute it at one input. -/
def freqAnyWrong : ChangeSpec := { name := "freqAny", fn := fun _ => fun
  | [d1, d2, d3] => { results := [.lit (.bool false)], args := [d1, d2, d3] }
  | _ => none }
def FreqAnyWrongFalsely : Prop := freqAnyRow.holds Try.pinned (OpenSpec.ofChange freqAnyWrong)

/-- 'scriptoriumlaw06.FreqFinds': WHATEVER THE INPUT: true; the input reads as it did. -/
def freqFindsSpec : ChangeSpec := { name := "freqFinds", fn := fun _ => fun
  | [d1, d2, d3] => { results := [.lit (.bool true)], args := [d1, d2, d3] }
  | _ => none }
def freqFindsRow : OpenClaim := { program := "ytjidgiobnlolpaa", sum := "fdaca9b78ec223d04000ead04d98bf569796305d20c8c088fb0f5f43208e1e44", func := "scriptorium/scriptoriumlaw06.FreqFinds", spec := "freqFinds", apart := false }
def FreqFindsSaid : Prop := freqFindsRow.holds Try.pinned (OpenSpec.ofChange freqFindsSpec)

/-- ITS FALSE NEIGHBOUR: 'it returns false'. Refute it at one input. -/
def freqFindsWrong : ChangeSpec := { name := "freqFinds", fn := fun _ => fun
  | [d1, d2, d3] => { results := [.lit (.bool false)], args := [d1, d2, d3] }
  | _ => none }
def FreqFindsWrongFalsely : Prop := freqFindsRow.holds Try.pinned (OpenSpec.ofChange freqFindsWrong)

/-- 'scriptoriumlaw06.FreqOnes': WHATEVER THE INPUT: true; the input reads as it did. -/
def freqOnesSpec : ChangeSpec := { name := "freqOnes", fn := fun _ => fun
  | [d1, d2] => { results := [.lit (.bool true)], args := [d1, d2] }
  | _ => none }
def freqOnesRow : OpenClaim := { program := "ytjidgiobnlolpaa", sum := "fdaca9b78ec223d04000ead04d98bf569796305d20c8c088fb0f5f43208e1e44", func := "scriptorium/scriptoriumlaw06.FreqOnes", spec := "freqOnes", apart := false }
def FreqOnesSaid : Prop := freqOnesRow.holds Try.pinned (OpenSpec.ofChange freqOnesSpec)

/-- ITS FALSE NEIGHBOUR: 'it returns false'. Refute it at one input. -/
def freqOnesWrong : ChangeSpec := { name := "freqOnes", fn := fun _ => fun
  | [d1, d2] => { results := [.lit (.bool false)], args := [d1, d2] }
  | _ => none }
def FreqOnesWrongFalsely : Prop := freqOnesRow.holds Try.pinned (OpenSpec.ofChange freqOnesWrong)

/- THE SECOND FORM. 'bulk': how many values and letters a reading holds, each counted each time it is reached (what is shared counts as often as it is met; a slice's spare places count too). A statement '..UptoSaid' is the law's where the arguments, and the package variables that the reading takes, are together of bulk at most 1048576: NARROWER than '..Said'. Prove '..Said' where nothing that the law and all that it calls make is longer than what came in: it says more and counts as full. Else prove '..UptoSaid'. A law counts once. -/
mutual
def uptoBulk {H : Type} : DataW H → Nat
  | .lit (.string bytes) => bytes.length + 1
  | .lit _ => 1
  | .nil => 1
  | .ptr d => uptoBulk d + 1
  | .slice elems spare => uptoBulkAll elems + uptoBulkAll spare + 1
  | .agg parts => uptoBulkAll parts + 1
  | .iface _ d => uptoBulk d + 1
  | .map entries => uptoBulkEntries entries + 1
  | .held _ => 1
def uptoBulkAll {H : Type} : List (DataW H) → Nat
  | [] => 0
  | d :: r => uptoBulk d + uptoBulkAll r
def uptoBulkEntries {H : Type} : List (Lit × DataW H) → Nat
  | [] => 0
  | x :: r => uptoBulkEntry x + uptoBulkEntries r
def uptoBulkEntry {H : Type} : Lit × DataW H → Nat
  | (.string bytes, d) => bytes.length + uptoBulk d + 1
  | (_, d) => uptoBulk d + 1
 end
def uptoSmall : (H : Type) → List (DataW H) → Bool := fun _ ds => decide (uptoBulkAll ds ≤ 1048576)
def OpenSpec.upto (s : _root_.Go.ChangeSpec) : _root_.Go.OpenSpec := { _root_.Go.OpenSpec.ofChange s with cond := some uptoSmall }

/-- 'scriptoriumlaw06.FreqScales', WHERE WHAT IT READS IS OF BULK AT MOST 1048576: true; the input reads as it did. -/
def freqScalesUptoRow : OpenClaim := { program := "ytjidgiobnlolpaa", sum := "fdaca9b78ec223d04000ead04d98bf569796305d20c8c088fb0f5f43208e1e44", func := "scriptorium/scriptoriumlaw06.FreqScales", spec := "freqScales", apart := false, narrowed := true }
def FreqScalesUptoSaid : Prop := freqScalesUptoRow.holds Try.pinned (OpenSpec.upto freqScalesSpec)

/-- 'scriptoriumlaw06.FreqBack', WHERE WHAT IT READS IS OF BULK AT MOST 1048576: true; the input reads as it did. -/
def freqBackUptoRow : OpenClaim := { program := "ytjidgiobnlolpaa", sum := "fdaca9b78ec223d04000ead04d98bf569796305d20c8c088fb0f5f43208e1e44", func := "scriptorium/scriptoriumlaw06.FreqBack", spec := "freqBack", apart := false, narrowed := true }
def FreqBackUptoSaid : Prop := freqBackUptoRow.holds Try.pinned (OpenSpec.upto freqBackSpec)

/-- 'scriptoriumlaw06.FreqAny', WHERE WHAT IT READS IS OF BULK AT MOST 1048576: true; the input reads as it did. -/
def freqAnyUptoRow : OpenClaim := { program := "ytjidgiobnlolpaa", sum := "fdaca9b78ec223d04000ead04d98bf569796305d20c8c088fb0f5f43208e1e44", func := "scriptorium/scriptoriumlaw06.FreqAny", spec := "freqAny", apart := false, narrowed := true }
def FreqAnyUptoSaid : Prop := freqAnyUptoRow.holds Try.pinned (OpenSpec.upto freqAnySpec)

/-- 'scriptoriumlaw06.FreqFinds', WHERE WHAT IT READS IS OF BULK AT MOST 1048576: true; the input reads as it did. -/
def freqFindsUptoRow : OpenClaim := { program := "ytjidgiobnlolpaa", sum := "fdaca9b78ec223d04000ead04d98bf569796305d20c8c088fb0f5f43208e1e44", func := "scriptorium/scriptoriumlaw06.FreqFinds", spec := "freqFinds", apart := false, narrowed := true }
def FreqFindsUptoSaid : Prop := freqFindsUptoRow.holds Try.pinned (OpenSpec.upto freqFindsSpec)

/-- 'scriptoriumlaw06.FreqOnes', WHERE WHAT IT READS IS OF BULK AT MOST 1048576: true; the input reads as it did. -/
def freqOnesUptoRow : OpenClaim := { program := "ytjidgiobnlolpaa", sum := "fdaca9b78ec223d04000ead04d98bf569796305d20c8c088fb0f5f43208e1e44", func := "scriptorium/scriptoriumlaw06.FreqOnes", spec := "freqOnes", apart := false, narrowed := true }
def FreqOnesUptoSaid : Prop := freqOnesUptoRow.holds Try.pinned (OpenSpec.upto freqOnesSpec)

end Rows
end Go.Proofs.Ytjidgiobnlolpaa
