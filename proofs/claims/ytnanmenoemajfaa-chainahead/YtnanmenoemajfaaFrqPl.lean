/- Counts as parts of 4096, as plain data: what is left over goes to the greatest count; what is too much is lost by the greatest part, again and again. -/
import Derived.Test.YtnanmenoemajfaaFrqChk
namespace Go.Proofs.Ytnanmenoemajfaa.Fq

/-- One count's parts. -/
def part1 (sum n : Int) : Int := if 0 < n then max (n * 4096 / sum) 1 else 0
/-- Counts that may be. -/
def InR (l : List Int) : Prop := ∀ x ∈ l, 0 ≤ x ∧ x ≤ 2147483647
instance (l : List Int) : Decidable (InR l) := List.decidableBAll _ l
def dec1 (l : List Int) : List Int := l.set (gre l 256) (l.getD (gre l 256) 0 - 1)
def lose (l : List Int) : Nat → List Int
  | 0 => l
  | j + 1 => dec1 (lose l j)
def pts (c : List Int) : List Int := c.map (part1 c.sum)
def scal (c : List Int) : List Int :=
  if 0 < 4096 - (pts c).sum then (pts c).set (gre c 256) ((pts c).getD (gre c 256) 0 + (4096 - (pts c).sum)) else lose (pts c) ((pts c).sum - 4096).toNat

theorem InR.next {l : List Int} {d : Nat} (h : d < l.length) (hf : InR (l.take d)) (hx : 0 ≤ l.getD d 0 ∧ l.getD d 0 ≤ 2147483647) : InR (l.take (d + 1)) := by
  rw [take_next h]
  intro x hm
  rcases List.mem_append.1 hm with hm | hm
  · exact hf x hm
  · simp only [List.mem_singleton] at hm; rw [hm]; exact hx
theorem InR.sum : ∀ {l : List Int}, InR l → 0 ≤ l.sum ∧ l.sum ≤ 2147483647 * l.length
  | [], _ => by simp
  | a :: r, h => by
    have h1 := h a (by simp)
    have h2 := InR.sum (l := r) fun x hx => h x (by simp [hx])
    simp only [List.sum_cons, List.length_cons]
    omega
theorem InR.mem_le : ∀ {l : List Int}, InR l → ∀ x ∈ l, x ≤ l.sum
  | [], _, x, hx => by simp at hx
  | a :: r, h, x, hx => by
    have h1 := h a (by simp)
    have hr : InR r := fun x hx => h x (by simp [hx])
    have h2 := hr.sum
    simp only [List.sum_cons]
    rcases List.mem_cons.1 hx with rfl | hx
    · omega
    · have := InR.mem_le hr x hx; omega
theorem not_inR {l : List Int} {d : Nat} (h : d < l.length) (hx : ¬ (0 ≤ l.getD d 0 ∧ l.getD d 0 ≤ 2147483647)) : ¬ InR l := by
  intro hf
  apply hx
  rw [List.getD, List.getElem?_eq_getElem h]
  exact hf _ (List.getElem_mem h)
theorem getD_mem {l : List Int} {d : Nat} (h : d < l.length) : l.getD d 0 ∈ l := by
  rw [List.getD, List.getElem?_eq_getElem h]; exact List.getElem_mem h
theorem part1_in {s n : Int} (hn : n ≤ s) : 0 ≤ part1 s n ∧ part1 s n ≤ 4096 := by
  unfold part1
  split
  · have h1 : 0 ≤ n * 4096 / s := Int.ediv_nonneg (by omega) (by omega)
    have h2 : n * 4096 / s ≤ 4096 := by
      apply Int.ediv_le_of_le_mul (by omega)
      omega
    omega
  · omega
theorem pts_len (c : List Int) : (pts c).length = c.length := by simp [pts]
theorem pts_get (c : List Int) {d : Nat} (h : d < c.length) : (pts c).getD d 0 = part1 c.sum (c.getD d 0) := by
  simp [pts, List.getD, List.getElem?_eq_getElem h]
theorem pts_fine {c : List Int} (h : InR c) : Fine (pts c) := by
  intro x hx
  simp only [pts, List.mem_map] at hx
  obtain ⟨n, hn, rfl⟩ := hx
  exact part1_in (h.mem_le n hn)
/-- When d of them are laid. -/
def laid (p : List Int) (d : Nat) : List Int := p.take d ++ List.replicate (256 - d) 0
theorem laid_len {p : List Int} {d : Nat} (hp : p.length = 256) (hd : d ≤ 256) : (laid p d).length = 256 := by simp [laid, hp]; omega
theorem laid_zero (p : List Int) : laid p 0 = List.replicate 256 0 := by rw [laid, List.take_zero, List.nil_append, Nat.sub_zero]
theorem laid_all {p : List Int} (hp : p.length = 256) : laid p 256 = p := by rw [laid, List.take_of_length_le (Nat.le_of_eq hp), Nat.sub_self, List.replicate_zero, List.append_nil]
theorem laid_at {p : List Int} {d : Nat} (hp : p.length = 256) (hd : d < 256) : (laid p d).getD d 0 = 0 := by
  have hlen : (p.take d).length = d := by simp; omega
  rw [laid, List.getD, List.getElem?_append_right (by omega), hlen, Nat.sub_self, List.getElem?_replicate, if_pos (by omega)]
  rfl
theorem laid_set {p : List Int} {d : Nat} (hp : p.length = 256) (hd : d < 256) : (laid p d).set d (p.getD d 0) = laid p (d + 1) := by
  have hlen : (p.take d).length = d := by simp; omega
  rw [laid, laid, take_next (by omega), List.set_append_right _ _ (by omega), hlen, Nat.sub_self, show 256 - d = (256 - (d + 1)) + 1 by omega, List.replicate_succ, List.set_cons_zero, List.append_assoc]
  rfl
theorem laid_same {p : List Int} {d : Nat} (hp : p.length = 256) (hd : d < 256) (h0 : p.getD d 0 = 0) : laid p d = laid p (d + 1) := by
  have hlen : (p.take d).length = d := by simp; omega
  rw [laid, laid, take_next (by omega), h0, show 256 - d = (256 - (d + 1)) + 1 by omega, List.replicate_succ, List.append_assoc]
  rfl

theorem gre_max (l : List Int) : ∀ (d j : Nat), j < d → l.getD j 0 ≤ l.getD (gre l d) 0
  | 0, j, h => by omega
  | d + 1, j, h => by
    unfold gre
    by_cases hj : j = d
    · subst hj
      split <;> omega
    · have := gre_max l d j (by omega)
      split <;> omega
theorem sum_set : ∀ (l : List Int) (j : Nat) (x : Int), j < l.length → (l.set j x).sum = l.sum - l.getD j 0 + x
  | [], j, x, h => by simp at h
  | a :: r, 0, x, h => by simp; omega
  | a :: r, j + 1, x, h => by
    have := sum_set r j x (by simpa using h)
    simp only [List.set_cons_succ, List.sum_cons, this, List.getD_cons_succ]
    omega
theorem sum_le : ∀ {l : List Int} {m : Int}, (∀ x ∈ l, x ≤ m) → l.sum ≤ m * l.length
  | [], m, _ => by simp
  | a :: r, m, h => by
    have h1 := h a (by simp)
    have h2 := sum_le (l := r) (m := m) fun x hx => h x (by simp [hx])
    simp only [List.sum_cons, List.length_cons]
    push_cast
    rw [Int.mul_add]
    omega
theorem gre_pos {l : List Int} (hl : l.length = 256) (h : 0 < l.sum) : 0 < l.getD (gre l 256) 0 := by
  rcases Int.lt_or_le 0 (l.getD (gre l 256) 0) with h1 | h1
  · exact h1
  · exfalso
    have := sum_le (l := l) (m := 0) (fun x hx => by
      obtain ⟨j, hj, rfl⟩ := List.getElem_of_mem hx
      have h2 := gre_max l 256 j (by omega)
      rw [List.getD, List.getElem?_eq_getElem hj] at h2
      simp only [Option.getD_some] at h2
      omega)
    omega
theorem mem_set {l : List Int} {j : Nat} {x y : Int} (h : y ∈ l.set j x) : y ∈ l ∨ y = x := List.mem_or_eq_of_mem_set h
theorem dec1_ok {l : List Int} (hl : l.length = 256) (hf : Fine l) (h : 0 < l.sum) : (dec1 l).length = 256 ∧ Fine (dec1 l) ∧ (dec1 l).sum = l.sum - 1 := by
  have hg : gre l 256 < 256 := gre_lt l (by omega)
  have hp := gre_pos hl h
  have hm := hf _ (getD_mem (l := l) (d := gre l 256) (by omega))
  refine ⟨by simp [dec1, hl], fun x hx => ?_, ?_⟩
  · rcases mem_set hx with hx | rfl
    · exact hf x hx
    · omega
  · rw [dec1, sum_set _ _ _ (by omega)]
    omega
theorem lose_ok {l : List Int} (hl : l.length = 256) (hf : Fine l) : ∀ {j : Nat}, (j : Int) ≤ l.sum - 4096 → (lose l j).length = 256 ∧ Fine (lose l j) ∧ (lose l j).sum = l.sum - j
  | 0, _ => ⟨hl, hf, by simp [lose]⟩
  | j + 1, h => by
    obtain ⟨h1, h2, h3⟩ := lose_ok hl hf (j := j) (by omega)
    obtain ⟨h4, h5, h6⟩ := dec1_ok h1 h2 (by omega)
    exact ⟨h4, h5, by rw [lose, h6, h3]; omega⟩
theorem fine_of {l : List Int} (h0 : ∀ x ∈ l, 0 ≤ x) (hs : l.sum = 4096) : Fine l := by
  have hle : ∀ (l : List Int), (∀ x ∈ l, 0 ≤ x) → 0 ≤ l.sum ∧ ∀ x ∈ l, x ≤ l.sum := by
    intro l
    induction l with
    | nil => intro _; simp
    | cons a r ih =>
      intro h
      obtain ⟨h1, h2⟩ := ih fun x hx => h x (by simp [hx])
      have ha := h a (by simp)
      simp only [List.sum_cons]
      refine ⟨by omega, fun x hx => ?_⟩
      rcases List.mem_cons.1 hx with rfl | hx
      · omega
      · have := h2 x hx; omega
  intro x hx
  have := (hle l h0).2 x hx
  exact ⟨h0 x hx, by omega⟩
/-- What the parts are in all. -/
theorem scal_ok {c : List Int} (hc : c.length = 256) (hr : InR c) : (scal c).length = 256 ∧ Fine (scal c) ∧ (scal c).sum = 4096 := by
  have hl : (pts c).length = 256 := by rw [pts_len, hc]
  have hf := pts_fine hr
  unfold scal
  split
  · next h =>
    have hg : gre c 256 < 256 := gre_lt c (by omega)
    have hs : ((pts c).set (gre c 256) ((pts c).getD (gre c 256) 0 + (4096 - (pts c).sum))).sum = 4096 := by
      rw [sum_set _ _ _ (by omega)]; omega
    refine ⟨by simp [hl], fine_of (fun x hx => ?_) hs, hs⟩
    rcases mem_set hx with hx | rfl
    · exact (hf x hx).1
    · have := hf _ (getD_mem (l := pts c) (d := gre c 256) (by omega)); omega
  · next h =>
    obtain ⟨h1, h2, h3⟩ := lose_ok hl hf (j := ((pts c).sum - 4096).toNat) (by omega)
    exact ⟨h1, h2, by rw [h3]; omega⟩
end Go.Proofs.Ytnanmenoemajfaa.Fq
