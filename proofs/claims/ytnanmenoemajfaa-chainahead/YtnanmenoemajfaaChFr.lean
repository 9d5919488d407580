/- Four states in memory, and what went out of them: small laws for chain's texts. -/
import Derived.Test.YtnanmenoemajfaaRnFour
import Derived.Test.YtnanmenoemajfaaRnHav
namespace Go.Proofs.Ytnanmenoemajfaa.Rs
open Go.RowKit Go.Proofs.Ytnanmenoemajfaa.Gen Go.Proofs.Ytnanmenoemajfaa.Wr Go.Proofs.Ytnanmenoemajfaa.It Go.Proofs.Ytnanmenoemajfaa.Ir Go.Proofs.Ytnanmenoemajfaa.Ib Go.Proofs.Ytnanmenoemajfaa.Fq Go.Proofs.Ytnanmenoemajfaa.Fb Go.Proofs.Ytnanmenoemajfaa.Rp

theorem own_none (w : World) : (w.alloc (.cells #[] 5)).ownsRow w.heap.size 5 1 (.slice (some ⟨w.heap.size, 0, none⟩) 0 0) 0 (bv []) := by
  refine ⟨by simp [bv], .inr ⟨w.heap.size, 0, _, rfl, Nat.le_refl _, heap_alloc_new w _, Nat.le_refl _, by simp only [maxLen]; omega, ?_, ?_⟩⟩
  · simp
  · simp [bv]
/-- Four states stored, one behind the other. -/
theorem put4 {w : World} {R : Nat} (h : Blk w R 44 (us no4)) (a b c d : Nat) : Blk ((((w.setCell ⟨R, 0, none⟩ (.int .u32 (a : Int))).setCell ⟨R, 1, none⟩ (.int .u32 (b : Int))).setCell ⟨R, 2, none⟩ (.int .u32 (c : Int))).setCell ⟨R, 3, none⟩ (.int .u32 (d : Int))) R 44 (us [a, b, c, d]) := by
  have := (((h.setCell 0 (.int .u32 (a : Int))).setCell 1 (.int .u32 (b : Int))).setCell 2 (.int .u32 (c : Int))).setCell 3 (.int .u32 (d : Int))
  rw [us_set, us_set, us_set, us_set] at this
  exact this
theorem keeps4 (w : World) (R : Nat) (a b c d : Value) : Keeps (· = R) w ((((w.setCell ⟨R, 0, none⟩ a).setCell ⟨R, 1, none⟩ b).setCell ⟨R, 2, none⟩ c).setCell ⟨R, 3, none⟩ d) :=
  ((((Keeps.refl (· = R) w).setOwn 0 a).setOwn 1 b).setOwn 2 c).setOwn 3 d
theorem ret_pk {fn : Func} (h : fn.results = #[.cell 4 44, .tmp 5]) (tmps : Array Value) (w : World) (g : Nat) (v : Array Value) (x : Value) (hi : (Try.prog.info? 44).map (·.size) = some v.size)
    (hp : tmps.getD 4 undef = .pointer (some ⟨g, 0, none⟩)) (hq : tmps.getD 5 undef = x) (hb : Blk w g 44 v) :
    (results fn tmps).run Try.prog w = .ok (.tuple #[.agg v, x]) w := by
  rw [results_cell_tmp h, hp, hq]
  simp only [asAddr, Result.andThen, Sem.run_pure]
  rw [run_loadVar_row w g 44 44 v (0, 0) _ hb Try.underlying44 rfl hi]
/-- What packed answers: the states, and what went out, the first first. -/
def PkAns (E : List Nat × List Int) (w : World) (r : Ending) (w' : World) : Prop :=
  ∃ A c n, r = .returned (.tuple #[.agg (us E.1), .slice A n c]) ∧ E.2.length = n ∧ (A = none → c = 0) ∧ (∀ b o, A = some ⟨b, o, none⟩ → w.heap.size ≤ b) ∧ Lies w' A E.2.reverse ∧ Keeps (fun _ => False) w w'
end Go.Proofs.Ytnanmenoemajfaa.Rs
