/- Counts as parts of 4096: what freq.Scaled answers, whatever the counts. -/
import Derived.Test.YtgaofnmgdefdcaaGreatDoorJFrqRowFrqPl
import Derived.Laws.ResultCell
namespace Go.Proofs.YtgaofnmgdefdcaaGreatDoor.Fq
open Go.RowKit Go.Proofs.YtgaofnmgdefdcaaGreatDoor.Gen
set_option maxRecDepth 100000

section
variable {S : Nat → Prop} {w w1 : World} {g k : Nat} {t : TypeId} {cs : Array Value}
theorem Blk.setRow (h : Blk w g t cs) (cs' : Array Value) : Blk (w.setRow g cs') g t cs' := setRow_heap w g cs cs' t (0, 0) h
theorem Blk.setRowFar (h : Blk w g t cs) (hne : g ≠ k) (cs' : Array Value) : Blk (w.setRow k cs') g t cs := (setRow_other w k g cs' hne).trans h
theorem Keeps.setRow (h : Keeps S w w1) (hp : S g ∨ w.heap.size ≤ g) (cs : Array Value) : Keeps S w (w1.setRow g cs) :=
  ⟨h.os, h.tape, h.output, by simpa using h.size, fun k hk hn => (setRow_other w1 g k cs (fun e => by subst e; rcases hp with hp | hp; exact hn hp; omega)).trans (h.block k hk hn)⟩
end
def zs : List Int := List.replicate 256 0
theorem zs_len : zs.length = 256 := List.length_replicate
theorem run_maxi {P : Program} (ts : Array TypeId) (t : TypeId) (a b m : Int) (h : max a b = m) (w : World) : (Builtin.max_ ts t #[.int .i64 a, .int .i64 b]).run P w = .ok (.int .i64 m) w := by
  rw [run_max_int2, ← h]
  congr 2
  split <;> omega
/-- Counts' table, or none. -/
def ScalAns (c : List Int) (w : World) (r : Ending) (w' : World) : Prop :=
  r = .returned (.tuple #[.agg (vs (if InR c ∧ c.sum ≠ 0 then scal c else zs)), .bool (decide (InR c ∧ c.sum ≠ 0))]) ∧ Keeps (fun _ => False) w w'

end Go.Proofs.YtgaofnmgdefdcaaGreatDoor.Fq
