/- Entries as cells: a number, and how many bits its word has. No program is named here. -/
import Derived.Test.YtbicieflcgifdaaHufRow
namespace Go.Proofs.Ytbicieflcgifdaa.Hz
open Go.RowKit Go.Proofs.Ytbicieflcgifdaa.Gen Go.Proofs.Ytbicieflcgifdaa.Hr Go.Proofs.Ytbicieflcgifdaa.Hp

/-- An entry's cells. -/
def ev (x : Int × Nat) : List Value := [.int .i64 x.1, .int .i64 (x.2 : Int)]
def evs (l : List (Int × Nat)) : List Value := l.flatMap ev
theorem evs_len (l : List (Int × Nat)) : (evs l).length = l.length * 2 := by
  induction l with
  | nil => rfl
  | cons a l ih => simp only [evs, List.flatMap_cons, List.length_append, List.length_cons] at ih ⊢; rw [ih]; simp [ev]; omega
theorem evs_get0 : ∀ (l : List (Int × Nat)) (j : Nat), j < l.length → (evs l)[j * 2]? = some (.int .i64 (l.getD j (0, 0)).1)
  | [], j, h => by simp at h
  | a :: l, 0, _ => by simp [evs, ev]
  | a :: l, j + 1, h => by
    have := evs_get0 l j (by simpa using h)
    simp only [evs, List.flatMap_cons] at this ⊢
    rw [show (j + 1) * 2 = j * 2 + 1 + 1 by omega]
    simpa [ev] using this
theorem evs_get1 : ∀ (l : List (Int × Nat)) (j : Nat), j < l.length → (evs l)[j * 2 + 1]? = some (.int .i64 ((l.getD j (0, 0)).2 : Int))
  | [], j, h => by simp at h
  | a :: l, 0, _ => by simp [evs, ev]
  | a :: l, j + 1, h => by
    have := evs_get1 l j (by simpa using h)
    simp only [evs, List.flatMap_cons] at this ⊢
    rw [show (j + 1) * 2 + 1 = j * 2 + 1 + 1 + 1 by omega]
    simpa [ev] using this
theorem evs_set : ∀ (l : List (Int × Nat)) (j : Nat) (x : Int × Nat), ((evs l).set (j * 2) (.int .i64 x.1)).set (j * 2 + 1) (.int .i64 (x.2 : Int)) = evs (l.set j x)
  | [], j, x => by simp [evs]
  | a :: l, 0, x => by simp [evs, ev]
  | a :: l, j + 1, x => by
    have := evs_set l j x
    simp only [evs, List.flatMap_cons, List.set_cons_succ] at this ⊢
    rw [← this, show (j + 1) * 2 = j * 2 + 1 + 1 by omega]
    simp [ev]
end Go.Proofs.Ytbicieflcgifdaa.Hz
