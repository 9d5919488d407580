/- Counts as parts of 4096: what freq.Scaled answers, whatever the counts. -/
/- Entries and kinds taken from a Reader (desc's takeEntries, takeKind): any bytes. -/
import Derived.Test.YtgaofnmgdefdcaaGreatDoorJFrqRowFrqPl
import Derived.Laws.ResultCell
import Derived.Test.YtgaofnmgdefdcaaGreatDoorJDsTkPDsPutA

namespace Go.Proofs.YtgaofnmgdefdcaaGreatDoor.Fq
open Go.RowKit Go.Proofs.YtgaofnmgdefdcaaGreatDoor.Gen
set_option maxRecDepth 100000

section
variable {S : Nat → Prop} {w w1 : World} {g k : Nat} {t : TypeId} {cs : Array Value}
theorem Blk.setRow (h : Blk w g t cs) (cs' : Array Value) : Blk (w.setRow g cs') g t cs' := setRow_heap w g cs cs' t (0, 0) h
theorem Blk.setRowFar (h : Blk w g t cs) (hne : g ≠ k) (cs' : Array Value) : Blk (w.setRow k cs') g t cs := (setRow_other w k g cs' hne).trans h
theorem Keeps.setRow (h : Keeps S w w1) (hp : S g ∨ w.heap.size ≤ g) (cs : Array Value) : Keeps S w (w1.setRow g cs) :=
  ⟨h.os, h.tape, h.output, by simpa using h.size, fun k hk hn => (setRow_other w1 g k cs (fun e => by subst e; rcases hp with hp | hp; exact hn hp; omega)).trans (h.block k hk hn)⟩
end
def zs : List Int := List.replicate 256 0
theorem zs_len : zs.length = 256 := List.length_replicate
theorem run_maxi {P : Program} (ts : Array TypeId) (t : TypeId) (a b m : Int) (h : max a b = m) (w : World) : (Builtin.max_ ts t #[.int .i64 a, .int .i64 b]).run P w = .ok (.int .i64 m) w := by
  rw [run_max_int2, ← h]
  congr 2
  split <;> omega
/-- Counts' table, or none. -/
def ScalAns (c : List Int) (w : World) (r : Ending) (w' : World) : Prop :=
  r = .returned (.tuple #[.agg (vs (if InR c ∧ c.sum ≠ 0 then scal c else zs)), .bool (decide (InR c ∧ c.sum ≠ 0))]) ∧ Keeps (fun _ => False) w w'

end Go.Proofs.YtgaofnmgdefdcaaGreatDoor.Fq

namespace Go.Proofs.YtgaofnmgdefdcaaGreatDoor.Ds
open Go.RowKit Go.Proofs.YtgaofnmgdefdcaaGreatDoor.Gen Go.Proofs.YtgaofnmgdefdcaaGreatDoor.Wr Go.Proofs.YtgaofnmgdefdcaaGreatDoor.It Go.Proofs.YtgaofnmgdefdcaaGreatDoor.Ir Go.Proofs.YtgaofnmgdefdcaaGreatDoor.Ib Go.Proofs.YtgaofnmgdefdcaaGreatDoor.Tw Go.Proofs.YtgaofnmgdefdcaaGreatDoor.Hr Go.Proofs.YtgaofnmgdefdcaaGreatDoor.Hz Go.Proofs.YtgaofnmgdefdcaaGreatDoor.Hn Go.Proofs.YtgaofnmgdefdcaaGreatDoor.Hk Go.Proofs.YtgaofnmgdefdcaaGreatDoor.Ln

def gc (L : List G) : Array Value := (gvs L).toArray
theorem gvs_set0 : ∀ (L : List G) (j : Nat) (x : Int), j < L.length → (gvs L).set (j * 2) (.int .i64 x) = gvs (L.set j (x, (L.getD j (0, 0)).2))
  | [], j, x, h => by simp at h
  | a :: l, 0, x, _ => by simp [gvs]
  | a :: l, j + 1, x, h => by
    have := gvs_set0 l j x (by simpa using h)
    simp only [gvs, List.flatMap_cons, List.set_cons_succ] at this ⊢
    rw [show (j + 1) * 2 = j * 2 + 1 + 1 by omega]
    simp [this]
theorem gvs_set1 : ∀ (L : List G) (j : Nat) (x : Int), j < L.length → (gvs L).set (j * 2 + 1) (.int .i64 x) = gvs (L.set j ((L.getD j (0, 0)).1, x))
  | [], j, x, h => by simp at h
  | a :: l, 0, x, _ => by simp [gvs]
  | a :: l, j + 1, x, h => by
    have := gvs_set1 l j x (by simpa using h)
    simp only [gvs, List.flatMap_cons, List.set_cons_succ] at this ⊢
    rw [show (j + 1) * 2 + 1 = j * 2 + 1 + 1 + 1 by omega]
    simp [this]
theorem gc_set0 {L : List G} {j : Nat} {x : Int} (h : j < L.length) : (gc L).setIfInBounds (j * 2) (.int .i64 x) = gc (L.set j (x, (L.getD j (0, 0)).2)) := by
  unfold gc
  rw [← gvs_set0 L j x h]
  simp
theorem gc_set1 {L : List G} {j : Nat} {x : Int} (h : j < L.length) : (gc L).setIfInBounds (j * 2 + 1) (.int .i64 x) = gc (L.set j ((L.getD j (0, 0)).1, x)) := by
  unfold gc
  rw [← gvs_set1 L j x h]
  simp
theorem ents_of {w : World} {g n : Nat} {L : List G} (h : Blk w g 87 (gc L)) (hn : L.length = n) (hl : n ≤ 1000) : Ents w (some ⟨g, 0, none⟩) n L :=
  ⟨.inr ⟨g, 0, rfl, h.lt, fun i _ => by rw [Nat.zero_add, h.cell, gc, List.getElem?_toArray]⟩, hn, hl⟩
theorem make_ents (t : Nat) (ht : t ≤ 1000000) (w : World) : (Instr.makeSlice 41 (.int .i64 (t : Int)) (.int .i64 (t : Int))).run Tryz.prog w = .ok (.slice (some ⟨w.heap.size, 0, none⟩) t t) (w.alloc (.cells (gc (List.replicate t (0, 0))) 87)) := by
  obtain ⟨i0, hi0, hz0, hz1, hz2⟩ := info_parts ent_info
  have h := run_make (P := Tryz.prog) w 41 87 i0 _ Tryz.underlying41 hi0 hz0 .i64 .i64 (t : Int) (t : Int) (by omega) (by omega) (by rw [hz2]; omega) (by omega)
  rw [hz1, Int.toNat_natCast] at h
  have e : madeCells (Value.agg #[.int .i64 0, .int .i64 0]).cells (t * 2) = gc (List.replicate t (0, 0)) := by
    apply Array.toList_inj.1
    rw [made_ents, gc]
    have := gvs_ints (List.replicate t ((0 : Int), (0 : Nat)))
    simp only [ints, List.map_replicate] at this
    simpa using this.symm
  rw [e] at h
  exact h
theorem set_at {l : List Int} {n j : Nat} {x : Int} (hl : l.length = j) (hj : j < n) : (l ++ List.replicate (n - j) 0).set j x = (l ++ [x]) ++ List.replicate (n - (j + 1)) 0 := by
  rw [List.set_append_right _ _ (by omega), hl, Nat.sub_self, show n - j = (n - (j + 1)) + 1 by omega, List.replicate_succ, List.set_cons_zero]
  simp
theorem set_fst {M : List G} {j : Nat} {x : Int} : (M.set j (x, (M.getD j (0, 0)).2)).map (·.1) = (M.map (·.1)).set j x ∧ (M.set j (x, (M.getD j (0, 0)).2)).map (·.2) = M.map (·.2) := by
  constructor
  · rw [List.map_set]
  · rw [List.map_set]
    apply List.ext_getElem?
    intro i
    rw [List.getElem?_set]
    split
    · rename_i h
      subst h
      split
      · rename_i h
        rw [List.length_map] at h
        simp [List.getD_eq_getElem?_getD, List.getElem?_eq_getElem h]
      · rename_i h
        rw [List.getElem?_eq_none (by omega)]
    · rfl
theorem set_snd {M : List G} {j : Nat} {x : Int} : (M.set j ((M.getD j (0, 0)).1, x)).map (·.2) = (M.map (·.2)).set j x ∧ (M.set j ((M.getD j (0, 0)).1, x)).map (·.1) = M.map (·.1) := by
  constructor
  · rw [List.map_set]
  · rw [List.map_set]
    apply List.ext_getElem?
    intro i
    rw [List.getElem?_set]
    split
    · rename_i h
      subst h
      split
      · rename_i h
        rw [List.length_map] at h
        simp [List.getD_eq_getElem?_getD, List.getElem?_eq_getElem h]
      · rename_i h
        rw [List.getElem?_eq_none (by omega)]
    · rfl

/-- The blocks of a taking of entries: the Reader's variable, the row. -/
structure Tks (base g B : Nat) (M : List G) (s : RS) (w wr : World) : Prop where
  box : Box w g wr
  row : Blk wr B 87 (gc M)
  rd : IsRd base g s wr
theorem Tks.next {base g B : Nat} {M : List G} {s s1 : RS} {w wr w1 : World} (h : Tks base g B M s w wr) (hB : w.heap.size < B) (hr : IsRd base g s1 w1) (k : Keeps (· = g) wr w1) : Tks base g B M s1 w w1 :=
  ⟨h.box.next k, h.row.keeps k (fun e => by have := h.box.2.2; omega), hr⟩
theorem Tks.set {base g B i : Nat} {M M' : List G} {s : RS} {w wr : World} {u : Value} (h : Tks base g B M s w wr) (hB : w.heap.size < B) (he : (gc M).setIfInBounds i u = gc M') : Tks base g B M' s w (wr.setCell ⟨B, i, none⟩ u) := by
  have k : Keeps (· = B) wr (wr.setCell ⟨B, i, none⟩ u) := (Keeps.refl _ _).setOwn i _
  refine ⟨⟨h.box.1.keeps k (by omega), h.box.2.1.setCell (p := ⟨B, i, none⟩) (.inr (by show w.heap.size ≤ B; omega)) _, h.box.2.2⟩, ?_, h.rd.low k (fun b _ hb e => by have := h.box.2.2; omega)⟩
  rw [← he]
  exact h.row.setCell i u

end Go.Proofs.YtgaofnmgdefdcaaGreatDoor.Ds
