/- Rows of cells of any make; rows of items; how many of them are singles. No conditions beyond those that each law names. -/
/- Entries as cells: a number, and how many bits its word has. No program is named here. -/
import Derived.Test.YtgaofnmgdefdcaaGreatDoorJGenBitPlain
import Derived.Test.YtgaofnmgdefdcaaGreatDoorProg
import Derived.WalkKit
import Derived.WalkSpells
import Derived.WalkLawsBesides
import Derived.Lib.Hide
import Derived.Maps.AppendAt
import Derived.BigQuiet
import Derived.Outline
import Derived.Deep.WholeRow
import Derived.Deep.CutRange
import Derived.Deep.RegionHeld3
import Derived.Deep.AppendLies

namespace Go.Proofs.YtgaofnmgdefdcaaGreatDoor.Hr
open Go.RowKit Go.Proofs.YtgaofnmgdefdcaaGreatDoor.Gen Go.Proofs.YtgaofnmgdefdcaaGreatDoor.Hp

/-- At this address these cells lie, in a block that is there; of no cells nothing is said. -/
def RowAt (w : World) (A : Option Addr) (cs : List Value) : Prop :=
  cs = [] ∨ ∃ b o, A = some ⟨b, o, none⟩ ∧ b < w.heap.size ∧ ∀ i, i < cs.length → w.cell? ⟨b, o + i, none⟩ = cs[i]?
theorem RowAt.keeps {S : Nat → Prop} {w w1 : World} {A : Option Addr} {cs : List Value} (h : RowAt w A cs) (k : Keeps S w w1) (hn : ∀ b o, A = some ⟨b, o, none⟩ → ¬ S b) : RowAt w1 A cs := by
  rcases h with h | ⟨b, o, rfl, hb, hc⟩
  · exact .inl h
  · exact .inr ⟨b, o, rfl, Nat.lt_of_lt_of_le hb k.size, fun i hi => (k.cell (p := ⟨b, o + i, none⟩) hb (hn b o rfl)).trans (hc i hi)⟩
theorem RowAt.take {w : World} {A : Option Addr} {cs : List Value} (h : RowAt w A cs) (k : Nat) : RowAt w A (cs.take k) := by
  rcases h with rfl | ⟨b, o, rfl, hb, hc⟩
  · exact .inl (by simp)
  · refine .inr ⟨b, o, rfl, hb, fun i hi => ?_⟩
    simp only [List.length_take] at hi
    rw [hc i (by omega), List.getElem?_take_of_lt (by omega)]
theorem RowAt.of_own {w : World} {base : Nat} {e : TypeId} {sz : Nat} {A : Option Addr} {n c : Nat} {xs : List Value} (h : w.ownsRow base e sz (.slice A n c) n xs) : RowAt w A xs := by
  rcases h.2 with ⟨hv, hn⟩ | ⟨g, cap, cur, hv, _, hh, _⟩
  · subst hn
    exact .inl (List.eq_nil_of_length_eq_zero (by simpa using h.1))
  · injection hv with hA
    subst hA
    refine .inr ⟨g, 0, rfl, (Array.getElem?_eq_some_iff.1 hh).1, fun i hi => ?_⟩
    have := h.cells (g := g) rfl i _ (List.getElem?_eq_getElem hi)
    rw [add_none] at this
    rw [this, List.getElem?_eq_getElem hi]

/-- An item's cells. -/
def ic (x : It) : List Value := [.int .i64 (x.1 : Int), .bool x.2]
def ics (l : List It) : List Value := l.flatMap ic
theorem ics_len (l : List It) : (ics l).length = 2 * l.length := by
  induction l with
  | nil => rfl
  | cons a l ih => simp only [ics, List.flatMap_cons, List.length_append, List.length_cons] at ih ⊢; rw [ih]; simp [ic]; omega
theorem ics_app (a b : List It) : ics (a ++ b) = ics a ++ ics b := by simp [ics]
theorem ics_take : ∀ (l : List It) (k : Nat), ics (l.take k) = (ics l).take (2 * k)
  | l, 0 => by simp [ics]
  | [], k + 1 => by simp [ics]
  | a :: l, k + 1 => by
    have := ics_take l k
    simp only [ics, List.take_succ_cons, List.flatMap_cons] at this ⊢
    rw [this, show 2 * (k + 1) = 2 * k + 1 + 1 by omega]
    simp [ic]
theorem ics_drop : ∀ (l : List It) (k : Nat), ics (l.drop k) = (ics l).drop (2 * k)
  | l, 0 => by simp
  | [], k + 1 => by simp [ics]
  | a :: l, k + 1 => by
    have := ics_drop l k
    simp only [ics, List.drop_succ_cons, List.flatMap_cons] at this ⊢
    rw [this, show 2 * (k + 1) = 2 * k + 1 + 1 by omega]
    simp [ic]
theorem ics_get0 : ∀ (l : List It) (j : Nat), j < l.length → (ics l)[2 * j]? = some (.int .i64 ((l.getD j (0, false)).1 : Int))
  | [], j, h => by simp at h
  | a :: l, 0, _ => by simp [ics, ic]
  | a :: l, j + 1, h => by
    have := ics_get0 l j (by simpa using h)
    simp only [ics, List.flatMap_cons] at this ⊢
    rw [show 2 * (j + 1) = 2 * j + 1 + 1 by omega]
    simpa [ic] using this
theorem ics_get1 : ∀ (l : List It) (j : Nat), j < l.length → (ics l)[2 * j + 1]? = some (.bool (l.getD j (0, false)).2)
  | [], j, h => by simp at h
  | a :: l, 0, _ => by simp [ics, ic]
  | a :: l, j + 1, h => by
    have := ics_get1 l j (by simpa using h)
    simp only [ics, List.flatMap_cons] at this ⊢
    rw [show 2 * (j + 1) + 1 = 2 * j + 1 + 1 + 1 by omega]
    simpa [ic] using this
/-- The j-th item's cells. -/
theorem RowAt.item {w : World} {A : Option Addr} {l : List It} (h : RowAt w A (ics l)) {j : Nat} (hj : j < l.length) :
    ∃ b o, A = some ⟨b, o, none⟩ ∧ b < w.heap.size ∧ w.cell? ⟨b, o + j * 2, none⟩ = some (.int .i64 ((l.getD j (0, false)).1 : Int)) ∧ w.cell? ⟨b, o + j * 2 + 1, none⟩ = some (.bool (l.getD j (0, false)).2) := by
  have hl := ics_len l
  rcases h with h | ⟨b, o, rfl, hb, hc⟩
  · rw [h] at hl; simp at hl; omega
  · refine ⟨b, o, rfl, hb, ?_, ?_⟩
    · rw [Nat.mul_comm, hc _ (by omega), ics_get0 l j hj]
    · rw [Nat.mul_comm, Nat.add_assoc, hc _ (by omega), ics_get1 l j hj]
theorem sg_more {l : List It} {d : Nat} (h : d < l.length) : sg (l.take (d + 1)) = sg (l.take d) + (if (l.getD d (0, false)).2 then 1 else 0) := by
  rw [List.take_add_one, sg_append, List.getElem?_eq_getElem h]
  simp [List.getD_eq_getElem?_getD, List.getElem?_eq_getElem h, sg]
theorem sg_le (l : List It) : sg l ≤ l.length := List.countP_le_length

end Go.Proofs.YtgaofnmgdefdcaaGreatDoor.Hr

namespace Go.Proofs.YtgaofnmgdefdcaaGreatDoor.Hz
open Go.RowKit Go.Proofs.YtgaofnmgdefdcaaGreatDoor.Gen Go.Proofs.YtgaofnmgdefdcaaGreatDoor.Hr Go.Proofs.YtgaofnmgdefdcaaGreatDoor.Hp

/-- An entry's cells. -/
def ev (x : Int × Nat) : List Value := [.int .i64 x.1, .int .i64 (x.2 : Int)]
def evs (l : List (Int × Nat)) : List Value := l.flatMap ev
theorem evs_len (l : List (Int × Nat)) : (evs l).length = l.length * 2 := by
  induction l with
  | nil => rfl
  | cons a l ih => simp only [evs, List.flatMap_cons, List.length_append, List.length_cons] at ih ⊢; rw [ih]; simp [ev]; omega
theorem evs_get0 : ∀ (l : List (Int × Nat)) (j : Nat), j < l.length → (evs l)[j * 2]? = some (.int .i64 (l.getD j (0, 0)).1)
  | [], j, h => by simp at h
  | a :: l, 0, _ => by simp [evs, ev]
  | a :: l, j + 1, h => by
    have := evs_get0 l j (by simpa using h)
    simp only [evs, List.flatMap_cons] at this ⊢
    rw [show (j + 1) * 2 = j * 2 + 1 + 1 by omega]
    simpa [ev] using this
theorem evs_get1 : ∀ (l : List (Int × Nat)) (j : Nat), j < l.length → (evs l)[j * 2 + 1]? = some (.int .i64 ((l.getD j (0, 0)).2 : Int))
  | [], j, h => by simp at h
  | a :: l, 0, _ => by simp [evs, ev]
  | a :: l, j + 1, h => by
    have := evs_get1 l j (by simpa using h)
    simp only [evs, List.flatMap_cons] at this ⊢
    rw [show (j + 1) * 2 + 1 = j * 2 + 1 + 1 + 1 by omega]
    simpa [ev] using this
theorem evs_set : ∀ (l : List (Int × Nat)) (j : Nat) (x : Int × Nat), ((evs l).set (j * 2) (.int .i64 x.1)).set (j * 2 + 1) (.int .i64 (x.2 : Int)) = evs (l.set j x)
  | [], j, x => by simp [evs]
  | a :: l, 0, x => by simp [evs, ev]
  | a :: l, j + 1, x => by
    have := evs_set l j x
    simp only [evs, List.flatMap_cons, List.set_cons_succ] at this ⊢
    rw [← this, show (j + 1) * 2 = j * 2 + 1 + 1 by omega]
    simp [ev]
end Go.Proofs.YtgaofnmgdefdcaaGreatDoor.Hz
