/- Nodes (weight, how deep) as cells; a row of them of one's own; the two lightest found and merged. -/
import Derived.Test.YtaamnbminmcbpaaHufBk
namespace Go.Proofs.Ytaamnbminmcbpaa.Nd
open Go.RowKit Go.Proofs.Ytaamnbminmcbpaa.Gen Go.Proofs.Ytaamnbminmcbpaa.Hr Go.Proofs.Ytaamnbminmcbpaa.Hp Go.Proofs.Ytaamnbminmcbpaa.Hz

abbrev Node := Nat × Nat
def nds (N : List Node) : List Value := evs (N.map fun p => ((p.1 : Int), p.2))
theorem nds_len (N : List Node) : (nds N).length = N.length * 2 := by rw [nds, evs_len, List.length_map]
theorem nds_app (a b : List Node) : nds (a ++ b) = nds a ++ nds b := by simp [nds, evs]
theorem cast_get (N : List Node) (j : Nat) : (N.map fun p => ((p.1 : Int), p.2)).getD j (0, 0) = (((N.getD j (0, 0)).1 : Int), (N.getD j (0, 0)).2) := by
  simp only [List.getD_eq_getElem?_getD, List.getElem?_map]
  cases N[j]? with
  | none => rfl
  | some p => rfl
theorem nds_get0 (N : List Node) {j : Nat} (h : j < N.length) : (nds N)[j * 2]? = some (.int .i64 ((N.getD j (0, 0)).1 : Int)) := by
  rw [nds, evs_get0 _ _ (by simpa using h), cast_get]
theorem nds_get1 (N : List Node) {j : Nat} (h : j < N.length) : (nds N)[j * 2 + 1]? = some (.int .i64 ((N.getD j (0, 0)).2 : Int)) := by
  rw [nds, evs_get1 _ _ (by simpa using h), cast_get]
theorem nds_set (N : List Node) (j : Nat) (x : Node) : ((nds N).set (j * 2) (.int .i64 (x.1 : Int))).set (j * 2 + 1) (.int .i64 (x.2 : Int)) = nds (N.set j x) := by
  have := evs_set (N.map fun p => ((p.1 : Int), p.2)) j ((x.1 : Int), x.2)
  rw [nds, this, nds, List.map_set]
theorem nds_take (N : List Node) (k : Nat) : (nds N).take (k * 2) = nds (N.take k) := by
  rcases Nat.lt_or_ge k N.length with h | h
  · conv => lhs; rw [← List.take_append_drop k N, nds_app]
    rw [List.take_append_of_le_length (by rw [nds_len, List.length_take]; omega), List.take_of_length_le (by rw [nds_len, List.length_take]; omega)]
  · rw [List.take_of_length_le (by rw [nds_len]; omega), List.take_of_length_le h]
theorem nds_one (N : List Node) : ∀ u ∈ nds N, u.oneCell' = true := by
  intro u hu
  simp only [nds, evs, List.mem_flatMap] at hu
  obtain ⟨x, _, hx⟩ := hu
  simp [ev] at hx
  rcases hx with rfl | rfl <;> rfl
section
variable {w : World} {base g n c j : Nat} {e : TypeId} {N : List Node}
theorem own_at (h : w.ownsRow base e 2 (.slice (some ⟨g, 0, none⟩) n c) n (nds N)) (hj : j < n) : w.cell? ⟨g, j * 2, none⟩ = some (.int .i64 ((N.getD j (0, 0)).1 : Int)) ∧ w.cell? ⟨g, j * 2 + 1, none⟩ = some (.int .i64 ((N.getD j (0, 0)).2 : Int)) ∧ w.frozen? ⟨g, j * 2, none⟩ = false ∧ w.frozen? ⟨g, j * 2 + 1, none⟩ = false := by
  have hl := h.1
  rw [nds_len] at hl
  have h0 := h.cells (g := g) rfl _ _ (nds_get0 N (j := j) (by omega))
  have h1 := h.cells (g := g) rfl _ _ (nds_get1 N (j := j) (by omega))
  rw [add_none, Nat.zero_add] at h0 h1
  refine ⟨h0, h1, ?_⟩
  rcases h.2 with ⟨hv, _⟩ | ⟨g', cap, cur, hv, _, hh, _⟩
  · cases hv
  · injection hv with hv
    injection hv with hv
    injection hv with hv
    subst hv
    exact ⟨by simp [World.frozen?, hh], by simp [World.frozen?, hh]⟩
theorem own_set2 (h : w.ownsRow base e 2 (.slice (some ⟨g, 0, none⟩) n c) n (nds N)) (hj : j < n) (x : Node) : ((w.setCell ⟨g, j * 2, none⟩ (.int .i64 (x.1 : Int))).setCell ⟨g, j * 2 + 1, none⟩ (.int .i64 (x.2 : Int))).ownsRow base e 2 (.slice (some ⟨g, 0, none⟩) n c) n (nds (N.set j x)) := by
  have hl := h.1
  rw [nds_len] at hl
  refine ⟨by rw [nds_len, List.length_set]; exact hl, ?_⟩
  rcases h.2 with ⟨hv, _⟩ | ⟨g', cap, cur, hv, hb, hh, h1, h2, h3, h4⟩
  · cases hv
  · injection hv with hv _ hc
    injection hv with hv
    injection hv with hv
    subst hv
    subst hc
    refine .inr ⟨g, c, (cur.setIfInBounds (j * 2) (.int .i64 (x.1 : Int))).setIfInBounds (j * 2 + 1) (.int .i64 (x.2 : Int)), rfl, hb, ?_, h1, h2, by simpa using h3, ?_⟩
    · exact ((show Blk w g e cur from hh).setCell (j * 2) _).setCell (j * 2 + 1) _
    · rw [Array.toList_setIfInBounds, Array.toList_setIfInBounds, List.take_set, List.take_set, h4, nds_set]
theorem own_prefix {k : Nat} (h : w.ownsRow base e 2 (.slice (some ⟨g, 0, none⟩) n c) n (nds N)) (hk : k ≤ n) : w.ownsRow base e 2 (.slice (some ⟨g, 0, none⟩) k c) k (nds (N.take k)) := by
  have hl := h.1
  rw [nds_len] at hl
  refine ⟨by rw [nds_len, List.length_take]; omega, ?_⟩
  rcases h.2 with ⟨hv, _⟩ | ⟨g', cap, cur, hv, hb, hh, h1, h2, h3, h4⟩
  · cases hv
  · injection hv with hv _ hc
    injection hv with hv
    injection hv with hv
    subst hv
    subst hc
    refine .inr ⟨g, c, cur, rfl, hb, hh, by omega, h2, h3, ?_⟩
    rw [← nds_take, ← h4, List.take_take, Nat.min_eq_left (by omega)]
end
/-- The first i looked at: none yet; the lightest; the two lightest. -/
def Two (N : List Node) (i : Nat) (a b : Int) : Prop :=
  (i = 0 ∧ a = -1 ∧ b = -1) ∨
  ∃ ja : Nat, a = (ja : Int) ∧ ja < i ∧ (∀ j, j < i → (N.getD ja (0, 0)).1 ≤ (N.getD j (0, 0)).1) ∧
    ((i = 1 ∧ b = -1) ∨ ∃ jb : Nat, b = (jb : Int) ∧ jb < i ∧ jb ≠ ja ∧ ∀ j, j < i → j ≠ ja → (N.getD jb (0, 0)).1 ≤ (N.getD j (0, 0)).1)
theorem Two.first {N : List Node} : Two N 1 0 (-1) := by
  refine .inr ⟨0, rfl, by omega, fun j hj => ?_, .inl ⟨rfl, rfl⟩⟩
  obtain rfl : j = 0 := by omega
  exact Nat.le_refl _
theorem Two.less {N : List Node} {i ja : Nat} {b : Int} (h : Two N i (ja : Int) b) (hl : (N.getD i (0, 0)).1 < (N.getD ja (0, 0)).1) : Two N (i + 1) (i : Int) (ja : Int) := by
  rcases h with ⟨_, h, _⟩ | ⟨ja', e, h1, h2, _⟩
  · omega
  · obtain rfl : ja = ja' := by omega
    refine .inr ⟨i, rfl, by omega, fun j hj => ?_, .inr ⟨ja, rfl, by omega, by omega, fun j hj hne => ?_⟩⟩
    · rcases Nat.lt_or_ge j i with h3 | h3
      · have := h2 j h3
        omega
      · obtain rfl : j = i := by omega
        exact Nat.le_refl _
    · exact h2 j (by omega)
theorem Two.second {N : List Node} {i ja : Nat} (h : Two N i (ja : Int) (-1)) (hl : ¬ (N.getD i (0, 0)).1 < (N.getD ja (0, 0)).1) : Two N (i + 1) (ja : Int) (i : Int) := by
  rcases h with ⟨_, h, _⟩ | ⟨ja', e, h1, h2, h3⟩
  · omega
  · obtain rfl : ja = ja' := by omega
    rcases h3 with ⟨rfl, _⟩ | ⟨jb, h3, _⟩
    · refine .inr ⟨ja, rfl, by omega, fun j hj => ?_, .inr ⟨1, rfl, by omega, by omega, fun j hj hne => ?_⟩⟩
      · rcases Nat.lt_or_ge j 1 with h3 | h3
        · exact h2 j h3
        · obtain rfl : j = 1 := by omega
          omega
      · obtain rfl : j = 1 := by omega
        exact Nat.le_refl _
    · omega
theorem Two.other {N : List Node} {i ja jb : Nat} (h : Two N i (ja : Int) (jb : Int)) (hl : ¬ (N.getD i (0, 0)).1 < (N.getD ja (0, 0)).1) (hb : (N.getD i (0, 0)).1 < (N.getD jb (0, 0)).1) : Two N (i + 1) (ja : Int) (i : Int) := by
  rcases h with ⟨_, h, _⟩ | ⟨ja', e, h1, h2, h3⟩
  · omega
  · obtain rfl : ja = ja' := by omega
    rcases h3 with ⟨_, h3⟩ | ⟨jb', e3, h4, h5, h6⟩
    · omega
    · obtain rfl : jb = jb' := by omega
      refine .inr ⟨ja, rfl, by omega, fun j hj => ?_, .inr ⟨i, rfl, by omega, by omega, fun j hj hne => ?_⟩⟩
      · rcases Nat.lt_or_ge j i with h7 | h7
        · exact h2 j h7
        · obtain rfl : j = i := by omega
          omega
      · rcases Nat.lt_or_ge j i with h7 | h7
        · have := h6 j h7 hne
          omega
        · obtain rfl : j = i := by omega
          exact Nat.le_refl _
theorem Two.none_ {N : List Node} {i ja jb : Nat} (h : Two N i (ja : Int) (jb : Int)) (hl : ¬ (N.getD i (0, 0)).1 < (N.getD ja (0, 0)).1) (hb : ¬ (N.getD i (0, 0)).1 < (N.getD jb (0, 0)).1) : Two N (i + 1) (ja : Int) (jb : Int) := by
  rcases h with ⟨_, h, _⟩ | ⟨ja', e, h1, h2, h3⟩
  · omega
  · obtain rfl : ja = ja' := by omega
    rcases h3 with ⟨_, h3⟩ | ⟨jb', e3, h4, h5, h6⟩
    · omega
    · obtain rfl : jb = jb' := by omega
      refine .inr ⟨ja, rfl, by omega, fun j hj => ?_, .inr ⟨jb, rfl, by omega, h5, fun j hj hne => ?_⟩⟩
      · rcases Nat.lt_or_ge j i with h7 | h7
        · exact h2 j h7
        · obtain rfl : j = i := by omega
          omega
      · rcases Nat.lt_or_ge j i with h7 | h7
        · exact h6 j h7 hne
        · obtain rfl : j = i := by omega
          omega
/-- Two nodes become one, in the place of the first of them. -/
def joined (N : List Node) (ja jb : Nat) : Node := ((N.getD ja (0, 0)).1 + (N.getD jb (0, 0)).1, max (N.getD ja (0, 0)).2 (N.getD jb (0, 0)).2 + 1)
def merge (N : List Node) (ja jb : Nat) : List Node := (N.set (min ja jb) (joined N ja jb)).eraseIdx (max ja jb)
theorem merge_len {N : List Node} {ja jb : Nat} (ha : ja < N.length) (hb : jb < N.length) : (merge N ja jb).length = N.length - 1 := by
  rw [merge, List.length_eraseIdx_of_lt (by rw [List.length_set]; omega), List.length_set]
theorem merge_cells (N : List Node) (ja jb : Nat) (hb : max ja jb < N.length) : merge N ja jb = (N.set (min ja jb) (joined N ja jb)).take (max ja jb) ++ (N.set (min ja jb) (joined N ja jb)).drop (max ja jb + 1) := by
  rw [merge, List.eraseIdx_eq_take_drop_succ]
theorem getD_eq {N : List Node} {j : Nat} (h : j < N.length) : N.getD j (0, 0) = N[j] := by simp [List.getD_eq_getElem?_getD, List.getElem?_eq_getElem h]
theorem perm_erase (l : List Node) {i : Nat} (h : i < l.length) : l.Perm (l.getD i (0, 0) :: l.eraseIdx i) := by
  rw [getD_eq h, List.eraseIdx_eq_take_drop_succ]
  conv => lhs; rw [← List.take_append_drop i l, List.drop_eq_getElem_cons h]
  exact List.perm_middle
theorem perm_set (l : List Node) {i : Nat} (h : i < l.length) (x : Node) : (l.set i x).Perm (x :: l.eraseIdx i) := by
  rw [List.set_eq_take_append_cons_drop, if_pos h, List.eraseIdx_eq_take_drop_succ]
  exact List.perm_middle
theorem merge_perm {N : List Node} {ja jb : Nat} (ha : ja < N.length) (hb : jb < N.length) (hne : ja ≠ jb) : ∃ R, N.Perm (N.getD ja (0, 0) :: N.getD jb (0, 0) :: R) ∧ (merge N ja jb).Perm (joined N ja jb :: R) ∧ ∀ x ∈ R, ∃ j, j < N.length ∧ j ≠ ja ∧ j ≠ jb ∧ x = N.getD j (0, 0) := by
  obtain ⟨p, hp⟩ : ∃ p, p = min ja jb := ⟨_, rfl⟩
  obtain ⟨q, hq⟩ : ∃ q, q = max ja jb := ⟨_, rfl⟩
  have hpq : p < q := by omega
  have hq1 : q < N.length := by omega
  have hp1 : p < (N.eraseIdx q).length := by rw [List.length_eraseIdx_of_lt hq1]; omega
  have hgp : (N.eraseIdx q).getD p (0, 0) = N.getD p (0, 0) := by
    rw [getD_eq hp1, List.getElem_eraseIdx_of_lt hp1 hpq, getD_eq (by omega)]
  refine ⟨(N.eraseIdx q).eraseIdx p, ?_, ?_, ?_⟩
  · have e1 := (perm_erase N hq1).trans ((perm_erase _ hp1).cons _)
    rw [hgp] at e1
    rcases Nat.lt_or_ge ja jb with h7 | h7
    · have h8 : N.getD p (0, 0) = N.getD ja (0, 0) := by congr 1; omega
      have h9 : N.getD q (0, 0) = N.getD jb (0, 0) := by congr 1; omega
      rw [h8, h9] at e1
      exact e1.trans (List.Perm.swap _ _ _)
    · have h8 : N.getD p (0, 0) = N.getD jb (0, 0) := by congr 1; omega
      have h9 : N.getD q (0, 0) = N.getD ja (0, 0) := by congr 1; omega
      rw [h8, h9] at e1
      exact e1
  · unfold merge
    rw [← hp, ← hq, List.eraseIdx_set_gt hpq]
    exact perm_set _ hp1 _
  · intro x hx
    rw [List.mem_eraseIdx_iff_getElem] at hx
    obtain ⟨i, hi, hne, rfl⟩ := hx
    rw [List.getElem_eraseIdx]
    rw [List.length_eraseIdx_of_lt hq1] at hi
    split
    · exact ⟨i, by omega, by omega, by omega, (getD_eq (by omega)).symm⟩
    · exact ⟨i + 1, by omega, by omega, by omega, (getD_eq (by omega)).symm⟩
theorem merge_step {N : List Node} {ja jb : Nat} (hl : 2 ≤ N.length) (h : Two N N.length (ja : Int) (jb : Int)) {s H : Nat} (hM : Merges (merge N ja jb) s H) : Merges N ((joined N ja jb).1 + s) H := by
  rcases h with ⟨h, _⟩ | ⟨ja', e, h1, h2, h3⟩
  · omega
  · obtain rfl : ja = ja' := by omega
    rcases h3 with ⟨h3, _⟩ | ⟨jb', e3, h4, h5, h6⟩
    · omega
    · obtain rfl : jb = jb' := by omega
      obtain ⟨R, e2, e3, e4⟩ := merge_perm h1 h4 (Ne.symm h5)
      refine Merges.step e2 (h2 jb h4) ?_ e3 hM
      intro x hx
      obtain ⟨j, g1, g2, _, rfl⟩ := e4 x hx
      exact h6 j g1 g2
end Go.Proofs.Ytaamnbminmcbpaa.Nd
