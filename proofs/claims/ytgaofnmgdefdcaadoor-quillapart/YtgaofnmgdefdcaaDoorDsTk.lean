/- Entries and kinds taken from a Reader (desc's takeEntries, takeKind): any bytes. -/
import Derived.Test.YtgaofnmgdefdcaaDoorJDsTkPDsPutA
namespace Go.Proofs.YtgaofnmgdefdcaaDoor.Ds
open Go.RowKit Go.Proofs.YtgaofnmgdefdcaaDoor.Gen Go.Proofs.YtgaofnmgdefdcaaDoor.Wr Go.Proofs.YtgaofnmgdefdcaaDoor.It Go.Proofs.YtgaofnmgdefdcaaDoor.Ir Go.Proofs.YtgaofnmgdefdcaaDoor.Ib Go.Proofs.YtgaofnmgdefdcaaDoor.Tw Go.Proofs.YtgaofnmgdefdcaaDoor.Hr Go.Proofs.YtgaofnmgdefdcaaDoor.Hz Go.Proofs.YtgaofnmgdefdcaaDoor.Hn Go.Proofs.YtgaofnmgdefdcaaDoor.Hk Go.Proofs.YtgaofnmgdefdcaaDoor.Ln

def gc (L : List G) : Array Value := (gvs L).toArray
theorem gvs_set0 : ∀ (L : List G) (j : Nat) (x : Int), j < L.length → (gvs L).set (j * 2) (.int .i64 x) = gvs (L.set j (x, (L.getD j (0, 0)).2))
  | [], j, x, h => by simp at h
  | a :: l, 0, x, _ => by simp [gvs]
  | a :: l, j + 1, x, h => by
    have := gvs_set0 l j x (by simpa using h)
    simp only [gvs, List.flatMap_cons, List.set_cons_succ] at this ⊢
    rw [show (j + 1) * 2 = j * 2 + 1 + 1 by omega]
    simp [this]
theorem gvs_set1 : ∀ (L : List G) (j : Nat) (x : Int), j < L.length → (gvs L).set (j * 2 + 1) (.int .i64 x) = gvs (L.set j ((L.getD j (0, 0)).1, x))
  | [], j, x, h => by simp at h
  | a :: l, 0, x, _ => by simp [gvs]
  | a :: l, j + 1, x, h => by
    have := gvs_set1 l j x (by simpa using h)
    simp only [gvs, List.flatMap_cons, List.set_cons_succ] at this ⊢
    rw [show (j + 1) * 2 + 1 = j * 2 + 1 + 1 + 1 by omega]
    simp [this]
theorem gc_set0 {L : List G} {j : Nat} {x : Int} (h : j < L.length) : (gc L).setIfInBounds (j * 2) (.int .i64 x) = gc (L.set j (x, (L.getD j (0, 0)).2)) := by
  unfold gc
  rw [← gvs_set0 L j x h]
  simp
theorem gc_set1 {L : List G} {j : Nat} {x : Int} (h : j < L.length) : (gc L).setIfInBounds (j * 2 + 1) (.int .i64 x) = gc (L.set j ((L.getD j (0, 0)).1, x)) := by
  unfold gc
  rw [← gvs_set1 L j x h]
  simp
theorem ents_of {w : World} {g n : Nat} {L : List G} (h : Blk w g 88 (gc L)) (hn : L.length = n) (hl : n ≤ 1000) : Ents w (some ⟨g, 0, none⟩) n L :=
  ⟨.inr ⟨g, 0, rfl, h.lt, fun i _ => by rw [Nat.zero_add, h.cell, gc, List.getElem?_toArray]⟩, hn, hl⟩
theorem make_ents (t : Nat) (ht : t ≤ 1000000) (w : World) : (Instr.makeSlice 23 (.int .i64 (t : Int)) (.int .i64 (t : Int))).run Tryd.prog w = .ok (.slice (some ⟨w.heap.size, 0, none⟩) t t) (w.alloc (.cells (gc (List.replicate t (0, 0))) 88)) := by
  obtain ⟨i0, hi0, hz0, hz1, hz2⟩ := info_parts ent_info
  have h := run_make (P := Tryd.prog) w 23 88 i0 _ Tryd.underlying23 hi0 hz0 .i64 .i64 (t : Int) (t : Int) (by omega) (by omega) (by rw [hz2]; omega) (by omega)
  rw [hz1, Int.toNat_natCast] at h
  have e : madeCells (Value.agg #[.int .i64 0, .int .i64 0]).cells (t * 2) = gc (List.replicate t (0, 0)) := by
    apply Array.toList_inj.1
    rw [made_ents, gc]
    have := gvs_ints (List.replicate t ((0 : Int), (0 : Nat)))
    simp only [ints, List.map_replicate] at this
    simpa using this.symm
  rw [e] at h
  exact h
theorem set_at {l : List Int} {n j : Nat} {x : Int} (hl : l.length = j) (hj : j < n) : (l ++ List.replicate (n - j) 0).set j x = (l ++ [x]) ++ List.replicate (n - (j + 1)) 0 := by
  rw [List.set_append_right _ _ (by omega), hl, Nat.sub_self, show n - j = (n - (j + 1)) + 1 by omega, List.replicate_succ, List.set_cons_zero]
  simp
theorem set_fst {M : List G} {j : Nat} {x : Int} : (M.set j (x, (M.getD j (0, 0)).2)).map (·.1) = (M.map (·.1)).set j x ∧ (M.set j (x, (M.getD j (0, 0)).2)).map (·.2) = M.map (·.2) := by
  constructor
  · rw [List.map_set]
  · rw [List.map_set]
    apply List.ext_getElem?
    intro i
    rw [List.getElem?_set]
    split
    · rename_i h
      subst h
      split
      · rename_i h
        rw [List.length_map] at h
        simp [List.getD_eq_getElem?_getD, List.getElem?_eq_getElem h]
      · rename_i h
        rw [List.getElem?_eq_none (by omega)]
    · rfl
theorem set_snd {M : List G} {j : Nat} {x : Int} : (M.set j ((M.getD j (0, 0)).1, x)).map (·.2) = (M.map (·.2)).set j x ∧ (M.set j ((M.getD j (0, 0)).1, x)).map (·.1) = M.map (·.1) := by
  constructor
  · rw [List.map_set]
  · rw [List.map_set]
    apply List.ext_getElem?
    intro i
    rw [List.getElem?_set]
    split
    · rename_i h
      subst h
      split
      · rename_i h
        rw [List.length_map] at h
        simp [List.getD_eq_getElem?_getD, List.getElem?_eq_getElem h]
      · rename_i h
        rw [List.getElem?_eq_none (by omega)]
    · rfl

end Go.Proofs.YtgaofnmgdefdcaaDoor.Ds
