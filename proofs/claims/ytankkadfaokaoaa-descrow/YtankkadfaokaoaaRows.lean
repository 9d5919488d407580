/-
  No cell of these rows narrows 'for every input' (looked for: loops, veiled, ifaces, maps, wideKeys, modest, calm, conditions, laid).
  DERIVED. THE GIVEN ROWS OF THIS SEAT. 5 by the template 'for every input the law returns true; each argument reads behind the call as it read before'; 0 by the template 'total and deterministic' (their statements: YtankkadfaokaoaaTotals.lean).
  GIVEN WITH THE SEED: the statements are not yours to turn. If you find one false, say at which input.
  Laid BY PROGRAM, IN A SANDBOX (cutbox-rows.mjs): the forced cells as the released guide's own fill.sh prints them over the translation dc2e138b014057ef… (all of the seat's roots in one cut). By AI agents, Wed Nov 11 2026. No macro, syntax, notation, axiom, sorry.
-/
import Derived.Test.YtankkadfaokaoaaChecked
import GoSem.Claim
import GoSem.ClaimJoined
import GoSem.ClaimMapViews
import Derived.JoinedTies
import Derived.KernelRfl
namespace Go.Proofs.Ytankkadfaokaoaa
/- THE CELL 'sum', in the pinned program and in every row, IS THE sha256 OF THE DUMP (.gsa) THAT YtankkadfaokaoaaProg.lean LOADS. Nothing in Lean hashes anything: it is a label: what it is worth is what the hold of that sum in a sandbox is worth. -/
noncomputable def Try.pinned : Pinned := { name := "ytankkadfaokaoaa", sum := "dc2e138b014057ef5014a9a4df89bb646ea6e12d29ff7d5ccd4a75ab3a7e95c8", checked := Try.checked }
namespace Rows
def none {H : Type} : Left H := { results := [], args := [] }

/-- 'scriptoriumlaw09.DescBack': WHATEVER THE INPUT: true; the input reads as it did. -/
def descBackSpec : ChangeSpec := { name := "descBack", fn := fun _ => fun
  | [d] => { results := [.lit (.bool true)], args := [d] }
  | _ => none }
def descBackRow : OpenClaim := { program := "ytankkadfaokaoaa", sum := "dc2e138b014057ef5014a9a4df89bb646ea6e12d29ff7d5ccd4a75ab3a7e95c8", func := "scriptorium/scriptoriumlaw09.DescBack", spec := "descBack", unfollowed := true, recurses := true, plainKeys := false, apart := false }
def DescBackSaid : Prop := descBackRow.holds Try.pinned (OpenSpec.ofChange descBackSpec)

/-- ITS FALSE NEIGHBOUR: 'it returns false'. Refute it at one input. -/
def descBackWrong : ChangeSpec := { name := "descBack", fn := fun _ => fun
  | [d] => { results := [.lit (.bool false)], args := [d] }
  | _ => none }
def DescBackWrongFalsely : Prop := descBackRow.holds Try.pinned (OpenSpec.ofChange descBackWrong)

/-- 'scriptoriumlaw09.DescChecks': WHATEVER THE INPUT: true; the input reads as it did. -/
def descChecksSpec : ChangeSpec := { name := "descChecks", fn := fun _ => fun
  | [d1, d2] => { results := [.lit (.bool true)], args := [d1, d2] }
  | _ => none }
def descChecksRow : OpenClaim := { program := "ytankkadfaokaoaa", sum := "dc2e138b014057ef5014a9a4df89bb646ea6e12d29ff7d5ccd4a75ab3a7e95c8", func := "scriptorium/scriptoriumlaw09.DescChecks", spec := "descChecks", unfollowed := true, recurses := true, plainKeys := false, apart := false }
def DescChecksSaid : Prop := descChecksRow.holds Try.pinned (OpenSpec.ofChange descChecksSpec)

/-- ITS FALSE NEIGHBOUR: 'it returns false'. Refute it at one input. -/
def descChecksWrong : ChangeSpec := { name := "descChecks", fn := fun _ => fun
  | [d1, d2] => { results := [.lit (.bool false)], args := [d1, d2] }
  | _ => none }
def DescChecksWrongFalsely : Prop := descChecksRow.holds Try.pinned (OpenSpec.ofChange descChecksWrong)

/-- 'scriptoriumlaw09.DescAny': WHATEVER THE INPUT: true; the input reads as it did. -/
def descAnySpec : ChangeSpec := { name := "descAny", fn := fun _ => fun
  | [d1, d2] => { results := [.lit (.bool true)], args := [d1, d2] }
  | _ => none }
def descAnyRow : OpenClaim := { program := "ytankkadfaokaoaa", sum := "dc2e138b014057ef5014a9a4df89bb646ea6e12d29ff7d5ccd4a75ab3a7e95c8", func := "scriptorium/scriptoriumlaw09.DescAny", spec := "descAny", unfollowed := true, recurses := true, plainKeys := false, apart := false }
def DescAnySaid : Prop := descAnyRow.holds Try.pinned (OpenSpec.ofChange descAnySpec)

/-- ITS FALSE NEIGHBOUR: 'it returns false'. Refute it at one input. -/
def descAnyWrong : ChangeSpec := { name := "descAny", fn := fun _ => fun
  | [d1, d2] => { results := [.lit (.bool false)], args := [d1, d2] }
  | _ => none }
def DescAnyWrongFalsely : Prop := descAnyRow.holds Try.pinned (OpenSpec.ofChange descAnyWrong)

/-- 'scriptoriumlaw09.DescSame': WHATEVER THE INPUT: true; the input reads as it did. -/
def descSameSpec : ChangeSpec := { name := "descSame", fn := fun _ => fun
  | [d1, d2, d3] => { results := [.lit (.bool true)], args := [d1, d2, d3] }
  | _ => none }
def descSameRow : OpenClaim := { program := "ytankkadfaokaoaa", sum := "dc2e138b014057ef5014a9a4df89bb646ea6e12d29ff7d5ccd4a75ab3a7e95c8", func := "scriptorium/scriptoriumlaw09.DescSame", spec := "descSame", unfollowed := true, recurses := true, plainKeys := false, apart := false }
def DescSameSaid : Prop := descSameRow.holds Try.pinned (OpenSpec.ofChange descSameSpec)

/-- ITS FALSE NEIGHBOUR: 'it returns false'. Refute it at one input. -/
def descSameWrong : ChangeSpec := { name := "descSame", fn := fun _ => fun
  | [d1, d2, d3] => { results := [.lit (.bool false)], args := [d1, d2, d3] }
  | _ => none }
def DescSameWrongFalsely : Prop := descSameRow.holds Try.pinned (OpenSpec.ofChange descSameWrong)

/-- 'scriptoriumlaw09.DescRow': WHATEVER THE INPUT: true; the input reads as it did. -/
def descRowSpec : ChangeSpec := { name := "descRow", fn := fun _ => fun
  | [d] => { results := [.lit (.bool true)], args := [d] }
  | _ => none }
def descRowRow : OpenClaim := { program := "ytankkadfaokaoaa", sum := "dc2e138b014057ef5014a9a4df89bb646ea6e12d29ff7d5ccd4a75ab3a7e95c8", func := "scriptorium/scriptoriumlaw09.DescRow", spec := "descRow", unfollowed := true, recurses := true, plainKeys := false, apart := false }
def DescRowSaid : Prop := descRowRow.holds Try.pinned (OpenSpec.ofChange descRowSpec)

/-- ITS FALSE NEIGHBOUR: 'it returns false'. Refute it at one input. -/
def descRowWrong : ChangeSpec := { name := "descRow", fn := fun _ => fun
  | [d] => { results := [.lit (.bool false)], args := [d] }
  | _ => none }
def DescRowWrongFalsely : Prop := descRowRow.holds Try.pinned (OpenSpec.ofChange descRowWrong)

/- THE SECOND FORM. 'bulk': how many values and letters a reading holds, each counted each time it is reached (what is shared counts as often as it is met; a slice's spare places count too). A statement '..UptoSaid' is the law's where the arguments, and the package variables that the reading takes, are together of bulk at most 1048576: NARROWER than '..Said'. Prove '..Said' where nothing that the law and all that it calls make is longer than what came in: it says more and counts as full. Else prove '..UptoSaid'. A law counts once. -/
mutual
def uptoBulk {H : Type} : DataW H → Nat
  | .lit (.string bytes) => bytes.length + 1
  | .lit _ => 1
  | .nil => 1
  | .ptr d => uptoBulk d + 1
  | .slice elems spare => uptoBulkAll elems + uptoBulkAll spare + 1
  | .agg parts => uptoBulkAll parts + 1
  | .iface _ d => uptoBulk d + 1
  | .map entries => uptoBulkEntries entries + 1
  | .held _ => 1
def uptoBulkAll {H : Type} : List (DataW H) → Nat
  | [] => 0
  | d :: r => uptoBulk d + uptoBulkAll r
def uptoBulkEntries {H : Type} : List (Lit × DataW H) → Nat
  | [] => 0
  | x :: r => uptoBulkEntry x + uptoBulkEntries r
def uptoBulkEntry {H : Type} : Lit × DataW H → Nat
  | (.string bytes, d) => bytes.length + uptoBulk d + 1
  | (_, d) => uptoBulk d + 1
 end
def uptoSmall : (H : Type) → List (DataW H) → Bool := fun _ ds => decide (uptoBulkAll ds ≤ 1048576)
def OpenSpec.upto (s : _root_.Go.ChangeSpec) : _root_.Go.OpenSpec := { _root_.Go.OpenSpec.ofChange s with cond := some uptoSmall }

/-- 'scriptoriumlaw09.DescBack', WHERE WHAT IT READS IS OF BULK AT MOST 1048576: true; the input reads as it did. -/
def descBackUptoRow : OpenClaim := { program := "ytankkadfaokaoaa", sum := "dc2e138b014057ef5014a9a4df89bb646ea6e12d29ff7d5ccd4a75ab3a7e95c8", func := "scriptorium/scriptoriumlaw09.DescBack", spec := "descBack", unfollowed := true, recurses := true, plainKeys := false, apart := false, narrowed := true }
def DescBackUptoSaid : Prop := descBackUptoRow.holds Try.pinned (OpenSpec.upto descBackSpec)

/-- 'scriptoriumlaw09.DescChecks', WHERE WHAT IT READS IS OF BULK AT MOST 1048576: true; the input reads as it did. -/
def descChecksUptoRow : OpenClaim := { program := "ytankkadfaokaoaa", sum := "dc2e138b014057ef5014a9a4df89bb646ea6e12d29ff7d5ccd4a75ab3a7e95c8", func := "scriptorium/scriptoriumlaw09.DescChecks", spec := "descChecks", unfollowed := true, recurses := true, plainKeys := false, apart := false, narrowed := true }
def DescChecksUptoSaid : Prop := descChecksUptoRow.holds Try.pinned (OpenSpec.upto descChecksSpec)

/-- 'scriptoriumlaw09.DescAny', WHERE WHAT IT READS IS OF BULK AT MOST 1048576: true; the input reads as it did. -/
def descAnyUptoRow : OpenClaim := { program := "ytankkadfaokaoaa", sum := "dc2e138b014057ef5014a9a4df89bb646ea6e12d29ff7d5ccd4a75ab3a7e95c8", func := "scriptorium/scriptoriumlaw09.DescAny", spec := "descAny", unfollowed := true, recurses := true, plainKeys := false, apart := false, narrowed := true }
def DescAnyUptoSaid : Prop := descAnyUptoRow.holds Try.pinned (OpenSpec.upto descAnySpec)

/-- 'scriptoriumlaw09.DescSame', WHERE WHAT IT READS IS OF BULK AT MOST 1048576: true; the input reads as it did. -/
def descSameUptoRow : OpenClaim := { program := "ytankkadfaokaoaa", sum := "dc2e138b014057ef5014a9a4df89bb646ea6e12d29ff7d5ccd4a75ab3a7e95c8", func := "scriptorium/scriptoriumlaw09.DescSame", spec := "descSame", unfollowed := true, recurses := true, plainKeys := false, apart := false, narrowed := true }
def DescSameUptoSaid : Prop := descSameUptoRow.holds Try.pinned (OpenSpec.upto descSameSpec)

/-- 'scriptoriumlaw09.DescRow', WHERE WHAT IT READS IS OF BULK AT MOST 1048576: true; the input reads as it did. -/
def descRowUptoRow : OpenClaim := { program := "ytankkadfaokaoaa", sum := "dc2e138b014057ef5014a9a4df89bb646ea6e12d29ff7d5ccd4a75ab3a7e95c8", func := "scriptorium/scriptoriumlaw09.DescRow", spec := "descRow", unfollowed := true, recurses := true, plainKeys := false, apart := false, narrowed := true }
def DescRowUptoSaid : Prop := descRowUptoRow.holds Try.pinned (OpenSpec.upto descRowSpec)

end Rows
end Go.Proofs.Ytankkadfaokaoaa
