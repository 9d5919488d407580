/- Two arrays of numbers are the same if their numbers are. -/
import Derived.Test.YtnanmenoemajfaaFrqSc
import Derived.ChangeKeysEq
namespace Go.Proofs.Ytnanmenoemajfaa.Fq
open Go.RowKit Go.Proofs.Ytnanmenoemajfaa.Gen

section
variable {S : Nat → Prop} {w w1 : World} {g : Nat} {t t' : TypeId} {old cs cs' : Array Value}
/-- A new variable, and what is stored into it. -/
theorem new_put : Blk ((w1.alloc (.cells old t)).setRow w1.heap.size cs) w1.heap.size t cs := Blk.setRow (Blk.new _ _ _) _
theorem Blk.put_new (h : Blk w1 g t' cs') : Blk ((w1.alloc (.cells old t)).setRow w1.heap.size cs) g t' cs' := Blk.setRowFar (h.alloc _) (by have := h.lt; omega) _
theorem Keeps.put_new (h : Keeps S w w1) : Keeps S w ((w1.alloc (.cells old t)).setRow w1.heap.size cs) := Keeps.setRow (h.alloc _) (.inr h.size) _
end
theorem run_part (l : List Int) {i : Nat} (h : i < l.length) (w : World) : (part 3 (vs l) i).run Try.prog w = .ok (.int .i64 (l.getD i 0)) w := by
  have hag : (isAgg 3).run Try.prog w = .ok false w := by simp [isAgg, Try.underlying3, go_sem]
  simp [part, hag, vs_get h]
theorem run_items (d : Nat) (a b : List Int) (w : World) : ∀ (is : List Nat), (∀ i ∈ is, i < a.length ∧ i < b.length) →
    (Op.eqItems (d + 1) 3 1 (vs a) (vs b) is).run Try.prog w = .ok (is.all fun i => a.getD i 0 == b.getD i 0) w
  | [], _ => by simp [Op.eqItems]
  | i :: is, h => by
    have h1 := h i (by simp)
    have ih := run_items d a b w is fun j hj => h j (by simp [hj])
    simp only [Op.eqItems, Nat.mul_one, Sem.run_bind, run_part a h1.1, run_part b h1.2, Result.andThen_ok]
    rw [run_equalIn_int w d 3 .i64 .i64 _ _ Try.underlying3]
    simp only [Result.andThen_ok, List.all_cons]
    cases he : (a.getD i 0 == b.getD i 0)
    · simp
    · simp only [Bool.not_true, Bool.false_eq_true, if_false, Bool.true_and]
      exact ih
theorem all_same {a b : List Int} {n : Nat} (ha : a.length = n) (hb : b.length = n) : ((List.range n).all fun i => a.getD i 0 == b.getD i 0) = decide (a = b) := by
  by_cases h : a = b
  · subst h; simp
  · rw [decide_eq_false h]
    rw [Bool.eq_false_iff]
    intro hall
    apply h
    simp only [List.all_eq_true, List.mem_range, beq_iff_eq] at hall
    apply List.ext_getElem (by omega)
    intro i h1 h2
    have := hall i (by omega)
    rw [List.getD, List.getD, List.getElem?_eq_getElem h1, List.getElem?_eq_getElem h2] at this
    exact this
theorem run_eq (t : TypeId) (ht : Try.prog.underlying t = some (.array 256 3)) (a b : List Int) (v u : Array Value) (r : Bool) (hv : vs a = v) (hu : vs b = u) (ha : a.length = 256) (hb : b.length = 256) (hr : decide (a = b) = r) (w : World) :
    (Op.equalIn 10000 t (.agg v) (.agg u)).run Try.prog w = .ok r w := by
  have hc : Try.prog.cellsOf 3 = 1 := by kernel_rfl
  obtain ⟨i, hi⟩ : ∃ i, Try.prog.info? 3 = some i := Option.isSome_iff_exists.1 (by kernel_rfl)
  rw [← hv, ← hu, run_equalIn_array w 9999 _ _ ht hi, hc, run_items 9998 a b w _ (fun i hi => by simp only [List.mem_range] at hi; omega), all_same ha hb, hr]
end Go.Proofs.Ytnanmenoemajfaa.Fq
