/-
  No cell of these rows narrows 'for every input' (looked for: loops, veiled, ifaces, maps, wideKeys, modest, calm, conditions, laid).
  DERIVED. THE GIVEN ROWS OF THIS SEAT. 6 by the template 'for every input the law returns true; each argument reads behind the call as it read before'; 0 by the template 'total and deterministic' (their statements: YtnbgcepejhggnaaTotals.lean).
  GIVEN WITH THE SEED: the statements are not yours to turn. If you find one false, say at which input.
  Laid BY PROGRAM, IN A SANDBOX (cutbox-rows.mjs): the forced cells as the released guide's own fill.sh prints them over the translation ff8bbcef9ef0b63f… (all of the seat's roots in one cut). By AI agents, Wed Nov 11 2026. No macro, syntax, notation, axiom, sorry.
-/
import Derived.Test.YtnbgcepejhggnaaChecked
import GoSem.Claim
import GoSem.ClaimJoined
import GoSem.ClaimMapViews
import Derived.JoinedTies
import Derived.KernelRfl
namespace Go.Proofs.Ytnbgcepejhggnaa
/- THE CELL 'sum', in the pinned program and in every row, IS THE sha256 OF THE DUMP (.gsa) THAT YtnbgcepejhggnaaProg.lean LOADS. Nothing in Lean hashes anything: it is a label: what it is worth is what the hold of that sum in a sandbox is worth. -/
noncomputable def Try.pinned : Pinned := { name := "ytnbgcepejhggnaa", sum := "ff8bbcef9ef0b63f1c913821216a88a34f5b561b7b5d3222e819ec872eb075cc", checked := Try.checked }
namespace Rows
def none {H : Type} : Left H := { results := [], args := [] }

/-- 'scriptoriumlaw02.ItfInts': WHATEVER THE INPUT: true; the input reads as it did. -/
def itfIntsSpec : ChangeSpec := { name := "itfInts", fn := fun _ => fun
  | [d1, d2] => { results := [.lit (.bool true)], args := [d1, d2] }
  | _ => none }
def itfIntsRow : OpenClaim := { program := "ytnbgcepejhggnaa", sum := "ff8bbcef9ef0b63f1c913821216a88a34f5b561b7b5d3222e819ec872eb075cc", func := "scriptorium/scriptoriumlaw02.ItfInts", spec := "itfInts", apart := false }
def ItfIntsSaid : Prop := itfIntsRow.holds Try.pinned (OpenSpec.ofChange itfIntsSpec)

/-- ITS FALSE NEIGHBOUR: 'it returns false'. Refute it at one input. -/
def itfIntsWrong : ChangeSpec := { name := "itfInts", fn := fun _ => fun
  | [d1, d2] => { results := [.lit (.bool false)], args := [d1, d2] }
  | _ => none }
def ItfIntsWrongFalsely : Prop := itfIntsRow.holds Try.pinned (OpenSpec.ofChange itfIntsWrong)

/-- 'scriptoriumlaw02.ItfLongs': WHATEVER THE INPUT: true; the input reads as it did. -/
def itfLongsSpec : ChangeSpec := { name := "itfLongs", fn := fun _ => fun
  | [d] => { results := [.lit (.bool true)], args := [d] }
  | _ => none }
def itfLongsRow : OpenClaim := { program := "ytnbgcepejhggnaa", sum := "ff8bbcef9ef0b63f1c913821216a88a34f5b561b7b5d3222e819ec872eb075cc", func := "scriptorium/scriptoriumlaw02.ItfLongs", spec := "itfLongs", apart := false }
def ItfLongsSaid : Prop := itfLongsRow.holds Try.pinned (OpenSpec.ofChange itfLongsSpec)

/-- ITS FALSE NEIGHBOUR: 'it returns false'. Refute it at one input. -/
def itfLongsWrong : ChangeSpec := { name := "itfLongs", fn := fun _ => fun
  | [d] => { results := [.lit (.bool false)], args := [d] }
  | _ => none }
def ItfLongsWrongFalsely : Prop := itfLongsRow.holds Try.pinned (OpenSpec.ofChange itfLongsWrong)

/-- 'scriptoriumlaw02.ItfAny': WHATEVER THE INPUT: true; the input reads as it did. -/
def itfAnySpec : ChangeSpec := { name := "itfAny", fn := fun _ => fun
  | [d1, d2] => { results := [.lit (.bool true)], args := [d1, d2] }
  | _ => none }
def itfAnyRow : OpenClaim := { program := "ytnbgcepejhggnaa", sum := "ff8bbcef9ef0b63f1c913821216a88a34f5b561b7b5d3222e819ec872eb075cc", func := "scriptorium/scriptoriumlaw02.ItfAny", spec := "itfAny", apart := false }
def ItfAnySaid : Prop := itfAnyRow.holds Try.pinned (OpenSpec.ofChange itfAnySpec)

/-- ITS FALSE NEIGHBOUR: 'it returns false'. Refute it at one input. -/
def itfAnyWrong : ChangeSpec := { name := "itfAny", fn := fun _ => fun
  | [d1, d2] => { results := [.lit (.bool false)], args := [d1, d2] }
  | _ => none }
def ItfAnyWrongFalsely : Prop := itfAnyRow.holds Try.pinned (OpenSpec.ofChange itfAnyWrong)

/-- 'scriptoriumlaw02.ItfCounts': WHATEVER THE INPUT: true; the input reads as it did. -/
def itfCountsSpec : ChangeSpec := { name := "itfCounts", fn := fun _ => fun
  | [d1, d2] => { results := [.lit (.bool true)], args := [d1, d2] }
  | _ => none }
def itfCountsRow : OpenClaim := { program := "ytnbgcepejhggnaa", sum := "ff8bbcef9ef0b63f1c913821216a88a34f5b561b7b5d3222e819ec872eb075cc", func := "scriptorium/scriptoriumlaw02.ItfCounts", spec := "itfCounts", apart := false }
def ItfCountsSaid : Prop := itfCountsRow.holds Try.pinned (OpenSpec.ofChange itfCountsSpec)

/-- ITS FALSE NEIGHBOUR: 'it returns false'. Refute it at one input. -/
def itfCountsWrong : ChangeSpec := { name := "itfCounts", fn := fun _ => fun
  | [d1, d2] => { results := [.lit (.bool false)], args := [d1, d2] }
  | _ => none }
def ItfCountsWrongFalsely : Prop := itfCountsRow.holds Try.pinned (OpenSpec.ofChange itfCountsWrong)

/-- 'scriptoriumlaw02.ItfGrows': WHATEVER THE INPUT: true; the input reads as it did. -/
def itfGrowsSpec : ChangeSpec := { name := "itfGrows", fn := fun _ => fun
  | [d1, d2, d3, d4] => { results := [.lit (.bool true)], args := [d1, d2, d3, d4] }
  | _ => none }
def itfGrowsRow : OpenClaim := { program := "ytnbgcepejhggnaa", sum := "ff8bbcef9ef0b63f1c913821216a88a34f5b561b7b5d3222e819ec872eb075cc", func := "scriptorium/scriptoriumlaw02.ItfGrows", spec := "itfGrows", unfollowed := true, recurses := true, apart := false }
def ItfGrowsSaid : Prop := itfGrowsRow.holds Try.pinned (OpenSpec.ofChange itfGrowsSpec)

/-- ITS FALSE NEIGHBOUR: 'it returns false'. Refute it at one input. -/
def itfGrowsWrong : ChangeSpec := { name := "itfGrows", fn := fun _ => fun
  | [d1, d2, d3, d4] => { results := [.lit (.bool false)], args := [d1, d2, d3, d4] }
  | _ => none }
def ItfGrowsWrongFalsely : Prop := itfGrowsRow.holds Try.pinned (OpenSpec.ofChange itfGrowsWrong)

/-- 'scriptoriumlaw02.ItfMixes': WHATEVER THE INPUT: true; the input reads as it did. -/
def itfMixesSpec : ChangeSpec := { name := "itfMixes", fn := fun _ => fun
  | [d1, d2] => { results := [.lit (.bool true)], args := [d1, d2] }
  | _ => none }
def itfMixesRow : OpenClaim := { program := "ytnbgcepejhggnaa", sum := "ff8bbcef9ef0b63f1c913821216a88a34f5b561b7b5d3222e819ec872eb075cc", func := "scriptorium/scriptoriumlaw02.ItfMixes", spec := "itfMixes", apart := false }
def ItfMixesSaid : Prop := itfMixesRow.holds Try.pinned (OpenSpec.ofChange itfMixesSpec)

/-- ITS FALSE NEIGHBOUR: 'it returns false'. Refute it at one input. -/
def itfMixesWrong : ChangeSpec := { name := "itfMixes", fn := fun _ => fun
  | [d1, d2] => { results := [.lit (.bool false)], args := [d1, d2] }
  | _ => none }
def ItfMixesWrongFalsely : Prop := itfMixesRow.holds Try.pinned (OpenSpec.ofChange itfMixesWrong)

/- THE SECOND FORM. 'bulk': how many values and letters a reading holds, each counted each time it is reached (what is shared counts as often as it is met; a slice's spare places count too). A statement '..UptoSaid' is the law's where the arguments, and the package variables that the reading takes, are together of bulk at most 1048576: NARROWER than '..Said'. Prove '..Said' where nothing that the law and all that it calls make is longer than what came in: it says more and counts as full. Else prove '..UptoSaid'. A law counts once. -/
mutual
def uptoBulk {H : Type} : DataW H → Nat
  | .lit (.string bytes) => bytes.length + 1
  | .lit _ => 1
  | .nil => 1
  | .ptr d => uptoBulk d + 1
  | .slice elems spare => uptoBulkAll elems + uptoBulkAll spare + 1
  | .agg parts => uptoBulkAll parts + 1
  | .iface _ d => uptoBulk d + 1
  | .map entries => uptoBulkEntries entries + 1
  | .held _ => 1
def uptoBulkAll {H : Type} : List (DataW H) → Nat
  | [] => 0
  | d :: r => uptoBulk d + uptoBulkAll r
def uptoBulkEntries {H : Type} : List (Lit × DataW H) → Nat
  | [] => 0
  | x :: r => uptoBulkEntry x + uptoBulkEntries r
def uptoBulkEntry {H : Type} : Lit × DataW H → Nat
  | (.string bytes, d) => bytes.length + uptoBulk d + 1
  | (_, d) => uptoBulk d + 1
 end
def uptoSmall : (H : Type) → List (DataW H) → Bool := fun _ ds => decide (uptoBulkAll ds ≤ 1048576)
def OpenSpec.upto (s : _root_.Go.ChangeSpec) : _root_.Go.OpenSpec := { _root_.Go.OpenSpec.ofChange s with cond := some uptoSmall }

/-- 'scriptoriumlaw02.ItfInts', WHERE WHAT IT READS IS OF BULK AT MOST 1048576: true; the input reads as it did. -/
def itfIntsUptoRow : OpenClaim := { program := "ytnbgcepejhggnaa", sum := "ff8bbcef9ef0b63f1c913821216a88a34f5b561b7b5d3222e819ec872eb075cc", func := "scriptorium/scriptoriumlaw02.ItfInts", spec := "itfInts", apart := false, narrowed := true }
def ItfIntsUptoSaid : Prop := itfIntsUptoRow.holds Try.pinned (OpenSpec.upto itfIntsSpec)

/-- 'scriptoriumlaw02.ItfLongs', WHERE WHAT IT READS IS OF BULK AT MOST 1048576: true; the input reads as it did. -/
def itfLongsUptoRow : OpenClaim := { program := "ytnbgcepejhggnaa", sum := "ff8bbcef9ef0b63f1c913821216a88a34f5b561b7b5d3222e819ec872eb075cc", func := "scriptorium/scriptoriumlaw02.ItfLongs", spec := "itfLongs", apart := false, narrowed := true }
def ItfLongsUptoSaid : Prop := itfLongsUptoRow.holds Try.pinned (OpenSpec.upto itfLongsSpec)

/-- 'scriptoriumlaw02.ItfAny', WHERE WHAT IT READS IS OF BULK AT MOST 1048576: true; the input reads as it did. -/
def itfAnyUptoRow : OpenClaim := { program := "ytnbgcepejhggnaa", sum := "ff8bbcef9ef0b63f1c913821216a88a34f5b561b7b5d3222e819ec872eb075cc", func := "scriptorium/scriptoriumlaw02.ItfAny", spec := "itfAny", apart := false, narrowed := true }
def ItfAnyUptoSaid : Prop := itfAnyUptoRow.holds Try.pinned (OpenSpec.upto itfAnySpec)

/-- 'scriptoriumlaw02.ItfCounts', WHERE WHAT IT READS IS OF BULK AT MOST 1048576: true; the input reads as it did. -/
def itfCountsUptoRow : OpenClaim := { program := "ytnbgcepejhggnaa", sum := "ff8bbcef9ef0b63f1c913821216a88a34f5b561b7b5d3222e819ec872eb075cc", func := "scriptorium/scriptoriumlaw02.ItfCounts", spec := "itfCounts", apart := false, narrowed := true }
def ItfCountsUptoSaid : Prop := itfCountsUptoRow.holds Try.pinned (OpenSpec.upto itfCountsSpec)

/-- 'scriptoriumlaw02.ItfGrows', WHERE WHAT IT READS IS OF BULK AT MOST 1048576: true; the input reads as it did. -/
def itfGrowsUptoRow : OpenClaim := { program := "ytnbgcepejhggnaa", sum := "ff8bbcef9ef0b63f1c913821216a88a34f5b561b7b5d3222e819ec872eb075cc", func := "scriptorium/scriptoriumlaw02.ItfGrows", spec := "itfGrows", unfollowed := true, recurses := true, apart := false, narrowed := true }
def ItfGrowsUptoSaid : Prop := itfGrowsUptoRow.holds Try.pinned (OpenSpec.upto itfGrowsSpec)

/-- 'scriptoriumlaw02.ItfMixes', WHERE WHAT IT READS IS OF BULK AT MOST 1048576: true; the input reads as it did. -/
def itfMixesUptoRow : OpenClaim := { program := "ytnbgcepejhggnaa", sum := "ff8bbcef9ef0b63f1c913821216a88a34f5b561b7b5d3222e819ec872eb075cc", func := "scriptorium/scriptoriumlaw02.ItfMixes", spec := "itfMixes", apart := false, narrowed := true }
def ItfMixesUptoSaid : Prop := itfMixesUptoRow.holds Try.pinned (OpenSpec.upto itfMixesSpec)

end Rows
end Go.Proofs.Ytnbgcepejhggnaa
