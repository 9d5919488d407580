/- Entries by their sizes, those of one size as they were: plain data alone. No program is named here. -/
import Derived.Test.YtbicieflcgifdaaHufLine
namespace Go.Proofs.Ytbicieflcgifdaa.St
open Go.Proofs.Ytbicieflcgifdaa.Ln

abbrev E := Int × Nat
/-- Sizes rise. -/
def Rise (l : List E) : Prop := l.Pairwise (fun a b => a.2 ≤ b.2)
/-- Of each size the same entries, in the same order. -/
def Fl (l m : List E) : Prop := ∀ s, l.filter (fun p => p.2 == s) = m.filter (fun p => p.2 == s)
theorem Fl.refl (l : List E) : Fl l l := fun _ => rfl
theorem Fl.trans {a b c : List E} (h : Fl a b) (k : Fl b c) : Fl a c := fun s => (h s).trans (k s)
theorem Fl.symm {a b : List E} (h : Fl a b) : Fl b a := fun s => (h s).symm
theorem Fl.app {a b c d : List E} (h : Fl a b) (k : Fl c d) : Fl (a ++ c) (b ++ d) := fun s => by rw [List.filter_append, List.filter_append, h s, k s]
theorem Fl.mid {P X Z Q : List E} (h : Fl X Z) : Fl (P ++ X ++ Q) (P ++ Z ++ Q) := ((Fl.refl P).app h).app (Fl.refl Q)
theorem Fl.turn {A B : List E} (h : ∀ a ∈ A, ∀ b ∈ B, b.2 < a.2) : Fl (A ++ B) (B ++ A) := by
  intro s
  rw [List.filter_append, List.filter_append]
  by_cases hs : ∃ a ∈ A, a.2 = s
  · obtain ⟨a, ha, rfl⟩ := hs
    have : B.filter (fun p => p.2 == a.2) = [] := by
      rw [List.filter_eq_nil_iff]
      intro b hb
      have := h a ha b hb
      simp
      omega
    rw [this]
    simp
  · have : A.filter (fun p => p.2 == s) = [] := by
      rw [List.filter_eq_nil_iff]
      intro a ha
      simp
      exact fun e => hs ⟨a, ha, e⟩
    rw [this]
    simp
theorem Fl.mem {l m : List E} (h : Fl l m) {p : E} (hp : p ∈ m) : p ∈ l := by
  have h1 : p ∈ m.filter (fun q => q.2 == p.2) := List.mem_filter.2 ⟨hp, by simp⟩
  rw [← h p.2] at h1
  exact (List.mem_filter.1 h1).1
theorem rise_split (s : Nat) : ∀ {l : List E}, Rise l → l.filter (fun p => decide (p.2 < s + 1)) = l.filter (fun p => decide (p.2 < s)) ++ l.filter (fun p => p.2 == s)
  | [], _ => rfl
  | a :: l, h => by
    have hc := List.pairwise_cons.1 h
    have ih := rise_split s hc.2
    rcases Nat.lt_trichotomy a.2 s with hs | hs | hs
    · rw [List.filter_cons_of_pos (by simp; omega), List.filter_cons_of_pos (by simpa using hs), List.filter_cons_of_neg (by simp; omega), ih, List.cons_append]
    · have e : l.filter (fun p => decide (p.2 < s)) = [] := by
        rw [List.filter_eq_nil_iff]
        intro p hp
        have := hc.1 p hp
        simp
        omega
      rw [e, List.nil_append] at ih
      rw [List.filter_cons_of_pos (by simp; omega), List.filter_cons_of_neg (by simp; omega), List.filter_cons_of_pos (by simpa using hs), ih, e, List.nil_append]
    · have e : l.filter (fun p => p.2 == s) = [] := by
        rw [List.filter_eq_nil_iff]
        intro p hp
        have := hc.1 p hp
        simp
        omega
      rw [e, List.append_nil] at ih
      rw [List.filter_cons_of_neg (by simp; omega), List.filter_cons_of_neg (by simp; omega), List.filter_cons_of_neg (by simp; omega), ih, e, List.append_nil]
theorem rise_line {l : List E} (h : Rise l) : ∀ s, line l s = l.filter (fun p => decide (p.2 < s))
  | 0 => by simp [line]
  | s + 1 => by rw [line_succ, rise_line h s, rise_split s h]; rfl
/-- There is one such row: the line. -/
theorem Fl.line {l m : List E} (h : Fl l m) (hr : Rise m) (hs : ∀ p ∈ l, p.2 ≤ 20) : m = line l 21 := by
  have h1 : Ln.line l 21 = Ln.line m 21 := by
    unfold Ln.line
    congr 1
    exact funext fun s => h s
  rw [h1, rise_line hr, List.filter_eq_self.2]
  intro p hp
  have := hs p (h.mem hp)
  simp
  omega
theorem rise_app {A B : List E} : Rise (A ++ B) ↔ Rise A ∧ Rise B ∧ ∀ a ∈ A, ∀ b ∈ B, a.2 ≤ b.2 := List.pairwise_append
theorem rise_last {l : List E} (h : Rise l) {i : Nat} (hi : i + 1 = l.length) : ∀ p ∈ l, p.2 ≤ (l.getD i (0, 0)).2 := by
  intro p hp
  obtain ⟨j, hj, rfl⟩ := List.getElem_of_mem hp
  rw [List.getD_eq_getElem?_getD, List.getElem?_eq_getElem (by omega), Option.getD_some]
  rcases Nat.lt_or_ge j i with hji | hji
  · exact List.pairwise_iff_getElem.1 h j i hj (by omega) hji
  · obtain rfl : j = i := by omega
    exact Nat.le_refl _
theorem rise_head {l : List E} (h : Rise l) : ∀ p ∈ l, (l.getD 0 (0, 0)).2 ≤ p.2 := by
  intro p hp
  cases l with
  | nil => cases hp
  | cons a l =>
    rcases List.mem_cons.1 hp with rfl | hp
    · exact Nat.le_refl _
    · exact (List.pairwise_cons.1 h).1 p hp
/-- One row's last is below another one's first: all are. -/
theorem all_lt {A B : List E} (hA : Rise A) (hB : Rise B) (h : 0 < A.length → 0 < B.length → (A.getD (A.length - 1) (0, 0)).2 < (B.getD 0 (0, 0)).2) : ∀ b ∈ B, ∀ a ∈ A, a.2 < b.2 := by
  intro b hb a ha
  have h1 := rise_last hA (i := A.length - 1) (by have := List.length_pos_of_mem ha; omega) a ha
  have h2 := rise_head hB b hb
  have := h (List.length_pos_of_mem ha) (List.length_pos_of_mem hb)
  omega
theorem all_le {A B : List E} (hA : Rise A) (hB : Rise B) (h : 0 < A.length → 0 < B.length → (A.getD (A.length - 1) (0, 0)).2 ≤ (B.getD 0 (0, 0)).2) : ∀ a ∈ A, ∀ b ∈ B, a.2 ≤ b.2 := by
  intro a ha b hb
  have h1 := rise_last hA (i := A.length - 1) (by have := List.length_pos_of_mem ha; omega) a ha
  have h2 := rise_head hB b hb
  have := h (List.length_pos_of_mem ha) (List.length_pos_of_mem hb)
  omega
/-- Two rising rows, each cut in two; the middle ones change places; both halves are put in order. -/
theorem merged {X1 X2 Y1 Y2 Z1 Z2 : List E} (hX : Rise (X1 ++ X2)) (hY : Rise (Y1 ++ Y2)) (hlt : ∀ b ∈ X2, ∀ a ∈ Y1, a.2 < b.2) (hle : ∀ a ∈ X1, ∀ b ∈ Y2, a.2 ≤ b.2)
    (h1 : Rise Z1) (f1 : Fl (X1 ++ Y1) Z1) (h2 : Rise Z2) (f2 : Fl (X2 ++ Y2) Z2) : Rise (Z1 ++ Z2) ∧ Fl (X1 ++ X2 ++ (Y1 ++ Y2)) (Z1 ++ Z2) := by
  obtain ⟨_, _, hx⟩ := rise_app.1 hX
  obtain ⟨_, _, hy⟩ := rise_app.1 hY
  refine ⟨rise_app.2 ⟨h1, h2, ?_⟩, ?_⟩
  · intro a ha b hb
    rcases List.mem_append.1 (f1.mem ha) with ha | ha <;> rcases List.mem_append.1 (f2.mem hb) with hb | hb
    · exact hx a ha b hb
    · exact hle a ha b hb
    · exact Nat.le_of_lt (hlt b hb a ha)
    · exact hy a ha b hb
  · have h3 : Fl (X1 ++ X2 ++ (Y1 ++ Y2)) (X1 ++ Y1 ++ (X2 ++ Y2)) := by
      have e1 : X1 ++ X2 ++ (Y1 ++ Y2) = X1 ++ (X2 ++ Y1) ++ Y2 := by simp
      have e2 : X1 ++ Y1 ++ (X2 ++ Y2) = X1 ++ (Y1 ++ X2) ++ Y2 := by simp
      rw [e1, e2]
      exact Fl.mid (Fl.turn hlt)
    exact h3.trans (f1.app f2)
/-- Rows of so many entries, each rising, and one behind them that is shorter. -/
def Ch (s : Nat) (L : List E) : Prop := ∃ (Ls : List (List E)) (X : List E), L = Ls.flatten ++ X ∧ (∀ Y ∈ Ls, Y.length = s ∧ Rise Y) ∧ X.length < s ∧ Rise X
def Full (s : Nat) (L : List E) : Prop := ∃ Ls : List (List E), L = Ls.flatten ∧ ∀ Y ∈ Ls, Y.length = s ∧ Rise Y
theorem Full.nil (s : Nat) : Full s [] := ⟨[], rfl, by simp⟩
theorem Full.snoc {s : Nat} {L Y : List E} (h : Full s L) (hl : Y.length = s) (hr : Rise Y) : Full s (L ++ Y) := by
  obtain ⟨Ls, rfl, h2⟩ := h
  refine ⟨Ls ++ [Y], by simp, ?_⟩
  intro Z hZ
  rcases List.mem_append.1 hZ with hZ | hZ
  · exact h2 Z hZ
  · rw [List.mem_singleton] at hZ
    subst hZ
    exact ⟨hl, hr⟩
theorem Full.end_ {s : Nat} {L X : List E} (h : Full s L) (hl : X.length < s) (hr : Rise X) : Ch s (L ++ X) := by
  obtain ⟨Ls, rfl, h2⟩ := h
  exact ⟨Ls, X, rfl, h2, hl, hr⟩
theorem Ch.two {s : Nat} {L : List E} (h : Ch s L) (hl : 2 * s ≤ L.length) : ∃ Y1 Y2 R, L = Y1 ++ Y2 ++ R ∧ Y1.length = s ∧ Rise Y1 ∧ Y2.length = s ∧ Rise Y2 ∧ Ch s R := by
  obtain ⟨Ls, X, rfl, h2, h3, h4⟩ := h
  match Ls with
  | [] => simp at hl; omega
  | [Y] => have := h2 Y (by simp); simp at hl; omega
  | Y1 :: Y2 :: Ls =>
    have a := h2 Y1 (by simp)
    have b := h2 Y2 (by simp)
    exact ⟨Y1, Y2, Ls.flatten ++ X, by simp, a.1, a.2, b.1, b.2, Ls, X, rfl, fun Y hY => h2 Y (by simp [hY]), h3, h4⟩
theorem Ch.one {s : Nat} {L : List E} (h : Ch s L) (hl : L.length < 2 * s) (hg : s < L.length) : ∃ Y1 Y2, L = Y1 ++ Y2 ∧ Y1.length = s ∧ Rise Y1 ∧ Rise Y2 := by
  obtain ⟨Ls, X, rfl, h2, h3, h4⟩ := h
  match Ls with
  | [] => simp at hg; omega
  | [Y] => have a := h2 Y (by simp); exact ⟨Y, X, by simp, a.1, a.2, h4⟩
  | Y1 :: Y2 :: Ls =>
    have a := h2 Y1 (by simp)
    have b := h2 Y2 (by simp)
    simp at hl
    omega
theorem Ch.rise {s : Nat} {L : List E} (h : Ch s L) (hl : L.length ≤ s) : Rise L := by
  obtain ⟨Ls, X, rfl, h2, h3, h4⟩ := h
  match Ls with
  | [] => simpa using h4
  | [Y] =>
    have a := h2 Y (by simp)
    simp at hl
    have : X = [] := List.eq_nil_of_length_eq_zero (by omega)
    subst this
    simpa using a.2
  | Y1 :: Y2 :: Ls =>
    have a := h2 Y1 (by simp)
    have b := h2 Y2 (by simp)
    simp at hl
    have : s = 0 := by omega
    omega
end Go.Proofs.Ytbicieflcgifdaa.St
