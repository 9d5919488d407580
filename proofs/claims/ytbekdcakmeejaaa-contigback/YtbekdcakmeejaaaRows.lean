/-
  No cell of these rows narrows 'for every input' (looked for: loops, veiled, ifaces, maps, wideKeys, modest, calm, conditions, laid).
  DERIVED. THE GIVEN ROWS OF THIS SEAT. 5 by the template 'for every input the law returns true; each argument reads behind the call as it read before'; 0 by the template 'total and deterministic' (their statements: YtbekdcakmeejaaaTotals.lean).
  GIVEN WITH THE SEED: the statements are not yours to turn. If you find one false, say at which input.
  Laid BY PROGRAM, IN A SANDBOX (cutbox-rows.mjs): the forced cells as the released guide's own fill.sh prints them over the translation 35de0dffd9fecdca… (all of the seat's roots in one cut). By AI agents, Wed Nov 11 2026. No macro, syntax, notation, axiom, sorry.
-/
import Derived.Test.YtbekdcakmeejaaaChecked
import GoSem.Claim
import GoSem.ClaimJoined
import GoSem.ClaimMapViews
import Derived.JoinedTies
import Derived.KernelRfl
namespace Go.Proofs.Ytbekdcakmeejaaa
/- THE CELL 'sum', in the pinned program and in every row, IS THE sha256 OF THE DUMP (.gsa) THAT YtbekdcakmeejaaaProg.lean LOADS. Nothing in Lean hashes anything: it is a label: what it is worth is what the hold of that sum in a sandbox is worth. -/
noncomputable def Try.pinned : Pinned := { name := "ytbekdcakmeejaaa", sum := "35de0dffd9fecdca8e55cfe13dddac6d03d95ee07bd15b83e06129c9455cea0c", checked := Try.checked }
namespace Rows
def none {H : Type} : Left H := { results := [], args := [] }

/-- 'scriptoriumlaw12.ContigBack': WHATEVER THE INPUT: true; the input reads as it did. -/
def contigBackSpec : ChangeSpec := { name := "contigBack", fn := fun _ => fun
  | [d1, d2, d3, d4] => { results := [.lit (.bool true)], args := [d1, d2, d3, d4] }
  | _ => none }
def contigBackRow : OpenClaim := { program := "ytbekdcakmeejaaa", sum := "35de0dffd9fecdca8e55cfe13dddac6d03d95ee07bd15b83e06129c9455cea0c", func := "scriptorium/scriptoriumlaw12.ContigBack", spec := "contigBack", inPlace := ["internal/bytealg.IndexByte", "internal/bytealg.Index"], named := ["internal/bytealg.MaxLen"], apart := false }
def ContigBackSaid : Prop := contigBackRow.holds Try.pinned (OpenSpec.ofChange contigBackSpec)

/-- ITS FALSE NEIGHBOUR: 'it returns false'. Refute it at one input. -/
def contigBackWrong : ChangeSpec := { name := "contigBack", fn := fun _ => fun
  | [d1, d2, d3, d4] => { results := [.lit (.bool false)], args := [d1, d2, d3, d4] }
  | _ => none }
def ContigBackWrongFalsely : Prop := contigBackRow.holds Try.pinned (OpenSpec.ofChange contigBackWrong)

/-- 'scriptoriumlaw12.ContigNames': WHATEVER THE INPUT: true; the input reads as it did. -/
def contigNamesSpec : ChangeSpec := { name := "contigNames", fn := fun _ => fun
  | [d1, d2, d3] => { results := [.lit (.bool true)], args := [d1, d2, d3] }
  | _ => none }
def contigNamesRow : OpenClaim := { program := "ytbekdcakmeejaaa", sum := "35de0dffd9fecdca8e55cfe13dddac6d03d95ee07bd15b83e06129c9455cea0c", func := "scriptorium/scriptoriumlaw12.ContigNames", spec := "contigNames", inPlace := ["internal/bytealg.IndexByte", "internal/bytealg.Index"], named := ["internal/bytealg.MaxLen"], apart := false }
def ContigNamesSaid : Prop := contigNamesRow.holds Try.pinned (OpenSpec.ofChange contigNamesSpec)

/-- ITS FALSE NEIGHBOUR: 'it returns false'. Refute it at one input. -/
def contigNamesWrong : ChangeSpec := { name := "contigNames", fn := fun _ => fun
  | [d1, d2, d3] => { results := [.lit (.bool false)], args := [d1, d2, d3] }
  | _ => none }
def ContigNamesWrongFalsely : Prop := contigNamesRow.holds Try.pinned (OpenSpec.ofChange contigNamesWrong)

/-- 'scriptoriumlaw12.ContigAny': WHATEVER THE INPUT: true; the input reads as it did. -/
def contigAnySpec : ChangeSpec := { name := "contigAny", fn := fun _ => fun
  | [d1, d2, d3, d4] => { results := [.lit (.bool true)], args := [d1, d2, d3, d4] }
  | _ => none }
def contigAnyRow : OpenClaim := { program := "ytbekdcakmeejaaa", sum := "35de0dffd9fecdca8e55cfe13dddac6d03d95ee07bd15b83e06129c9455cea0c", func := "scriptorium/scriptoriumlaw12.ContigAny", spec := "contigAny", inPlace := ["internal/bytealg.IndexByte", "internal/bytealg.Index"], named := ["internal/bytealg.MaxLen"], apart := false }
def ContigAnySaid : Prop := contigAnyRow.holds Try.pinned (OpenSpec.ofChange contigAnySpec)

/-- ITS FALSE NEIGHBOUR: 'it returns false'. Refute it at one input. -/
def contigAnyWrong : ChangeSpec := { name := "contigAny", fn := fun _ => fun
  | [d1, d2, d3, d4] => { results := [.lit (.bool false)], args := [d1, d2, d3, d4] }
  | _ => none }
def ContigAnyWrongFalsely : Prop := contigAnyRow.holds Try.pinned (OpenSpec.ofChange contigAnyWrong)

/-- 'scriptoriumlaw12.ContigSame': WHATEVER THE INPUT: true; the input reads as it did. -/
def contigSameSpec : ChangeSpec := { name := "contigSame", fn := fun _ => fun
  | [d1, d2, d3, d4] => { results := [.lit (.bool true)], args := [d1, d2, d3, d4] }
  | _ => none }
def contigSameRow : OpenClaim := { program := "ytbekdcakmeejaaa", sum := "35de0dffd9fecdca8e55cfe13dddac6d03d95ee07bd15b83e06129c9455cea0c", func := "scriptorium/scriptoriumlaw12.ContigSame", spec := "contigSame", inPlace := ["internal/bytealg.IndexByte", "internal/bytealg.Index"], named := ["internal/bytealg.MaxLen"], apart := false }
def ContigSameSaid : Prop := contigSameRow.holds Try.pinned (OpenSpec.ofChange contigSameSpec)

/-- ITS FALSE NEIGHBOUR: 'it returns false'. Refute it at one input. -/
def contigSameWrong : ChangeSpec := { name := "contigSame", fn := fun _ => fun
  | [d1, d2, d3, d4] => { results := [.lit (.bool false)], args := [d1, d2, d3, d4] }
  | _ => none }
def ContigSameWrongFalsely : Prop := contigSameRow.holds Try.pinned (OpenSpec.ofChange contigSameWrong)

/-- 'scriptoriumlaw12.ContigJoins': WHATEVER THE INPUT: true; the input reads as it did. -/
def contigJoinsSpec : ChangeSpec := { name := "contigJoins", fn := fun _ => fun
  | [d1, d2, d3] => { results := [.lit (.bool true)], args := [d1, d2, d3] }
  | _ => none }
def contigJoinsRow : OpenClaim := { program := "ytbekdcakmeejaaa", sum := "35de0dffd9fecdca8e55cfe13dddac6d03d95ee07bd15b83e06129c9455cea0c", func := "scriptorium/scriptoriumlaw12.ContigJoins", spec := "contigJoins", inPlace := ["internal/bytealg.IndexByte", "internal/bytealg.Index"], named := ["internal/bytealg.MaxLen"], apart := false }
def ContigJoinsSaid : Prop := contigJoinsRow.holds Try.pinned (OpenSpec.ofChange contigJoinsSpec)

/-- ITS FALSE NEIGHBOUR: 'it returns false'. Refute it at one input. -/
def contigJoinsWrong : ChangeSpec := { name := "contigJoins", fn := fun _ => fun
  | [d1, d2, d3] => { results := [.lit (.bool false)], args := [d1, d2, d3] }
  | _ => none }
def ContigJoinsWrongFalsely : Prop := contigJoinsRow.holds Try.pinned (OpenSpec.ofChange contigJoinsWrong)

/- THE SECOND FORM. 'bulk': how many values and letters a reading holds, each counted each time it is reached (what is shared counts as often as it is met; a slice's spare places count too). A statement '..UptoSaid' is the law's where the arguments, and the package variables that the reading takes, are together of bulk at most 1048576: NARROWER than '..Said'. Prove '..Said' where nothing that the law and all that it calls make is longer than what came in: it says more and counts as full. Else prove '..UptoSaid'. A law counts once. -/
mutual
def uptoBulk {H : Type} : DataW H → Nat
  | .lit (.string bytes) => bytes.length + 1
  | .lit _ => 1
  | .nil => 1
  | .ptr d => uptoBulk d + 1
  | .slice elems spare => uptoBulkAll elems + uptoBulkAll spare + 1
  | .agg parts => uptoBulkAll parts + 1
  | .iface _ d => uptoBulk d + 1
  | .map entries => uptoBulkEntries entries + 1
  | .held _ => 1
def uptoBulkAll {H : Type} : List (DataW H) → Nat
  | [] => 0
  | d :: r => uptoBulk d + uptoBulkAll r
def uptoBulkEntries {H : Type} : List (Lit × DataW H) → Nat
  | [] => 0
  | x :: r => uptoBulkEntry x + uptoBulkEntries r
def uptoBulkEntry {H : Type} : Lit × DataW H → Nat
  | (.string bytes, d) => bytes.length + uptoBulk d + 1
  | (_, d) => uptoBulk d + 1
 end
def uptoSmall : (H : Type) → List (DataW H) → Bool := fun _ ds => decide (uptoBulkAll ds ≤ 1048576)
def OpenSpec.upto (s : _root_.Go.ChangeSpec) : _root_.Go.OpenSpec := { _root_.Go.OpenSpec.ofChange s with cond := some uptoSmall }

/-- 'scriptoriumlaw12.ContigBack', WHERE WHAT IT READS IS OF BULK AT MOST 1048576: true; the input reads as it did. -/
def contigBackUptoRow : OpenClaim := { program := "ytbekdcakmeejaaa", sum := "35de0dffd9fecdca8e55cfe13dddac6d03d95ee07bd15b83e06129c9455cea0c", func := "scriptorium/scriptoriumlaw12.ContigBack", spec := "contigBack", inPlace := ["internal/bytealg.IndexByte", "internal/bytealg.Index"], named := ["internal/bytealg.MaxLen"], apart := false, narrowed := true }
def ContigBackUptoSaid : Prop := contigBackUptoRow.holds Try.pinned (OpenSpec.upto contigBackSpec)

/-- 'scriptoriumlaw12.ContigNames', WHERE WHAT IT READS IS OF BULK AT MOST 1048576: true; the input reads as it did. -/
def contigNamesUptoRow : OpenClaim := { program := "ytbekdcakmeejaaa", sum := "35de0dffd9fecdca8e55cfe13dddac6d03d95ee07bd15b83e06129c9455cea0c", func := "scriptorium/scriptoriumlaw12.ContigNames", spec := "contigNames", inPlace := ["internal/bytealg.IndexByte", "internal/bytealg.Index"], named := ["internal/bytealg.MaxLen"], apart := false, narrowed := true }
def ContigNamesUptoSaid : Prop := contigNamesUptoRow.holds Try.pinned (OpenSpec.upto contigNamesSpec)

/-- 'scriptoriumlaw12.ContigAny', WHERE WHAT IT READS IS OF BULK AT MOST 1048576: true; the input reads as it did. -/
def contigAnyUptoRow : OpenClaim := { program := "ytbekdcakmeejaaa", sum := "35de0dffd9fecdca8e55cfe13dddac6d03d95ee07bd15b83e06129c9455cea0c", func := "scriptorium/scriptoriumlaw12.ContigAny", spec := "contigAny", inPlace := ["internal/bytealg.IndexByte", "internal/bytealg.Index"], named := ["internal/bytealg.MaxLen"], apart := false, narrowed := true }
def ContigAnyUptoSaid : Prop := contigAnyUptoRow.holds Try.pinned (OpenSpec.upto contigAnySpec)

/-- 'scriptoriumlaw12.ContigSame', WHERE WHAT IT READS IS OF BULK AT MOST 1048576: true; the input reads as it did. -/
def contigSameUptoRow : OpenClaim := { program := "ytbekdcakmeejaaa", sum := "35de0dffd9fecdca8e55cfe13dddac6d03d95ee07bd15b83e06129c9455cea0c", func := "scriptorium/scriptoriumlaw12.ContigSame", spec := "contigSame", inPlace := ["internal/bytealg.IndexByte", "internal/bytealg.Index"], named := ["internal/bytealg.MaxLen"], apart := false, narrowed := true }
def ContigSameUptoSaid : Prop := contigSameUptoRow.holds Try.pinned (OpenSpec.upto contigSameSpec)

/-- 'scriptoriumlaw12.ContigJoins', WHERE WHAT IT READS IS OF BULK AT MOST 1048576: true; the input reads as it did. -/
def contigJoinsUptoRow : OpenClaim := { program := "ytbekdcakmeejaaa", sum := "35de0dffd9fecdca8e55cfe13dddac6d03d95ee07bd15b83e06129c9455cea0c", func := "scriptorium/scriptoriumlaw12.ContigJoins", spec := "contigJoins", inPlace := ["internal/bytealg.IndexByte", "internal/bytealg.Index"], named := ["internal/bytealg.MaxLen"], apart := false, narrowed := true }
def ContigJoinsUptoSaid : Prop := contigJoinsUptoRow.holds Try.pinned (OpenSpec.upto contigJoinsSpec)

end Rows
end Go.Proofs.Ytbekdcakmeejaaa
