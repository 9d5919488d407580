/- Words as stretches of a line of 2^20, plain data alone: each word's number is where its stretch begins; stretches that don't meet: no word begins with another. No program is named here. -/
/- Entries by their sizes, those of one size as they were: plain data alone. No program is named here. -/
import Derived.Test.YtgaofnmgdefdcaaGreatDoorJGenBitPlain

namespace Go.Proofs.YtgaofnmgdefdcaaGreatDoor.Ln
open Go.Proofs.YtgaofnmgdefdcaaGreatDoor.Bp

/-- How much of the line entries take. -/
def posOf (l : List (Int × Nat)) : Nat := (l.map fun p => 2 ^ (20 - p.2)).sum
theorem posOf_app (a b : List (Int × Nat)) : posOf (a ++ b) = posOf a + posOf b := by simp [posOf]
theorem posOf_one (p : Int × Nat) : posOf [p] = 2 ^ (20 - p.2) := by simp [posOf]
theorem posOf_perm {a b : List (Int × Nat)} (h : a.Perm b) : posOf a = posOf b := (h.map _).sum_nat
/-- Numbers, sizes and words' numbers, from a place on. -/
def asg : Nat → List (Int × Nat) → List (Int × Nat × Nat)
  | _, [] => []
  | p, (x, z) :: l => (x, z, p / 2 ^ (20 - z)) :: asg (p + 2 ^ (20 - z)) l
theorem asg_app : ∀ (p : Nat) (a b : List (Int × Nat)), asg p (a ++ b) = asg p a ++ asg (p + posOf a) b
  | p, [], b => by simp [asg, posOf]
  | p, (x, z) :: a, b => by
    rw [List.cons_append, asg, asg, asg_app, List.cons_append]
    congr 3
    simp [posOf]
    omega
theorem asg_keys : ∀ (p : Nat) (l : List (Int × Nat)), (asg p l).map (fun t => (t.1, t.2.1)) = l
  | _, [] => rfl
  | p, (x, z) :: l => by simp [asg, asg_keys]
/-- Entries of one size. -/
def ofSize (L : List (Int × Nat)) (s : Nat) : List (Int × Nat) := L.filter fun p => p.2 == s
/-- Entries by their sizes, those of one size as they are. -/
def line (L : List (Int × Nat)) (s : Nat) : List (Int × Nat) := (List.range s).flatMap (ofSize L)
theorem line_succ (L : List (Int × Nat)) (s : Nat) : line L (s + 1) = line L s ++ ofSize L s := by simp [line, List.range_succ]
theorem line_mem {L : List (Int × Nat)} {s : Nat} {p : Int × Nat} : p ∈ line L s ↔ p ∈ L ∧ p.2 < s := by
  simp only [line, ofSize, List.mem_flatMap, List.mem_range, List.mem_filter, beq_iff_eq]
  constructor
  · rintro ⟨a, h1, h2, rfl⟩
    exact ⟨h2, h1⟩
  · rintro ⟨h1, h2⟩
    exact ⟨p.2, h2, h1, rfl⟩
theorem filter_split (s : Nat) : ∀ (L : List (Int × Nat)), ((L.filter fun p => p.2 < s) ++ ofSize L s).Perm (L.filter fun p => p.2 < s + 1)
  | [] => by simp [ofSize]
  | p :: L => by
    have ih := filter_split s L
    simp only [ofSize, List.filter_cons] at ih ⊢
    rcases Nat.lt_trichotomy p.2 s with h | h | h
    · have h1 : decide (p.2 < s) = true := by simpa using h
      have h2 : (p.2 == s) = false := by simp; omega
      have h3 : decide (p.2 < s + 1) = true := by simp; omega
      rw [h1, h2, h3]
      simpa using ih
    · have h1 : decide (p.2 < s) = false := by simp; omega
      have h2 : (p.2 == s) = true := by simp [h]
      have h3 : decide (p.2 < s + 1) = true := by simp; omega
      rw [h1, h2, h3]
      simp only [Bool.false_eq_true, if_false, if_true]
      exact List.perm_middle.trans (ih.cons p)
    · have h1 : decide (p.2 < s) = false := by simp; omega
      have h2 : (p.2 == s) = false := by simp; omega
      have h3 : decide (p.2 < s + 1) = false := by simp; omega
      rw [h1, h2, h3]
      simpa using ih
theorem line_perm_filter (L : List (Int × Nat)) : ∀ s, (line L s).Perm (L.filter fun p => p.2 < s)
  | 0 => by simp [line]
  | s + 1 => by
    rw [line_succ]
    exact ((line_perm_filter L s).append_right _).trans (filter_split s L)
theorem sub_sum {s l : List Nat} (h : s.Sublist l) : s.sum ≤ l.sum := by
  induction h with
  | slnil => simp
  | cons a _ ih => simp only [List.sum_cons]; omega
  | cons_cons a _ ih => simp only [List.sum_cons]; omega
theorem line_perm {L : List (Int × Nat)} (h : ∀ p ∈ L, p.2 ≤ 20) : (line L 21).Perm L := by
  have h1 := line_perm_filter L 21
  rw [List.filter_eq_self.2 (by intro p hp; have := h p hp; simp; omega)] at h1
  exact h1
theorem line_le {L : List (Int × Nat)} {s : Nat} : posOf (line L s) ≤ posOf L := by
  rw [posOf_perm (line_perm_filter L s)]
  unfold posOf
  exact sub_sum (List.filter_sublist.map _)
/-- What is laid while those of size s come, i of them having been looked at. -/
def laid (L : List (Int × Nat)) (s i : Nat) : List (Int × Nat) := line L s ++ ofSize (L.take i) s
theorem laid_zero (L : List (Int × Nat)) (s : Nat) : laid L s 0 = line L s := by simp [laid, ofSize]
theorem laid_all (L : List (Int × Nat)) (s : Nat) : laid L s L.length = line L (s + 1) := by rw [laid, List.take_length, line_succ]
theorem laid_hit {L : List (Int × Nat)} {s i : Nat} (h : i < L.length) (hs : (L.getD i (0, 0)).2 = s) : laid L s (i + 1) = laid L s i ++ [L.getD i (0, 0)] := by
  simp only [List.getD_eq_getElem?_getD, List.getElem?_eq_getElem h, Option.getD_some] at hs ⊢
  unfold laid ofSize
  rw [List.take_add_one, List.getElem?_eq_getElem h, List.filter_append, ← List.append_assoc]
  simp [hs]
theorem laid_miss {L : List (Int × Nat)} {s i : Nat} (h : i < L.length) (hs : (L.getD i (0, 0)).2 ≠ s) : laid L s (i + 1) = laid L s i := by
  simp only [List.getD_eq_getElem?_getD, List.getElem?_eq_getElem h, Option.getD_some] at hs
  unfold laid ofSize
  rw [List.take_add_one, List.getElem?_eq_getElem h, List.filter_append]
  simp [hs]
theorem laid_mem {L : List (Int × Nat)} {s i : Nat} {p : Int × Nat} (h : p ∈ laid L s i) : p ∈ L ∧ p.2 ≤ s := by
  unfold laid at h
  rcases List.mem_append.1 h with h | h
  · have := line_mem.1 h
    exact ⟨this.1, by omega⟩
  · simp only [ofSize, List.mem_filter, beq_iff_eq] at h
    exact ⟨List.mem_of_mem_take h.1, by omega⟩
theorem laid_le {L : List (Int × Nat)} {s i : Nat} : posOf (laid L s i) ≤ posOf L := by
  have h : posOf (laid L s i) ≤ posOf (line L (s + 1)) := by
    rw [laid, line_succ, posOf_app, posOf_app]
    refine Nat.add_le_add_left ?_ _
    unfold posOf ofSize
    exact sub_sum (((List.take_sublist i L).filter _).map _)
  exact Nat.le_trans h line_le
theorem laid_len {L : List (Int × Nat)} {s i : Nat} : (laid L s i).length ≤ L.length := by
  have h1 : (laid L s i).length ≤ (line L (s + 1)).length := by
    rw [laid, line_succ, List.length_append, List.length_append]
    have : (ofSize (L.take i) s).length ≤ (ofSize L s).length := ((List.take_sublist i L).filter _).length_le
    omega
  rw [(line_perm_filter L (s + 1)).length_eq] at h1
  exact Nat.le_trans h1 (List.length_filter_le _ _)
theorem asg_len (p : Nat) (l : List (Int × Nat)) : (asg p l).length = l.length := by
  have h := congrArg List.length (asg_keys p l)
  rw [List.length_map] at h
  exact h
theorem laid_new {L : List (Int × Nat)} {s i : Nat} (hd : (L.map (·.1)).Nodup) (h : i < L.length) (hs : (L.getD i (0, 0)).2 = s) : (L.getD i (0, 0)).1 ∉ (laid L s i).map (·.1) := by
  have hg : L.getD i (0, 0) = L[i] := by simp [List.getD_eq_getElem?_getD, List.getElem?_eq_getElem h]
  rw [hg] at hs ⊢
  intro hm
  rw [List.mem_map] at hm
  obtain ⟨p, hp, e⟩ := hm
  have hsame : ∀ q ∈ L, q.1 = L[i].1 → q = L[i] := by
    intro q hq e
    obtain ⟨j, hj, rfl⟩ := List.getElem_of_mem hq
    have h2 := List.pairwise_iff_getElem.1 hd
    rcases Nat.lt_trichotomy i j with h3 | h3 | h3
    · have h4 := h2 i j (by simpa using h) (by simpa using hj) h3
      simp only [List.getElem_map] at h4
      exact absurd e.symm h4
    · subst h3; rfl
    · have h4 := h2 j i (by simpa using hj) (by simpa using h) h3
      simp only [List.getElem_map] at h4
      exact absurd e h4
  unfold laid at hp
  rcases List.mem_append.1 hp with hp | hp
  · obtain ⟨h1, h2⟩ := line_mem.1 hp
    rw [hsame p h1 e] at h2
    omega
  · simp only [ofSize, List.mem_filter] at hp
    obtain ⟨j, hj, e2⟩ := List.getElem_of_mem hp.1
    have hji : j < i := by simp at hj; omega
    rw [List.getElem_take] at e2
    have h2 := List.pairwise_iff_getElem.1 hd j i (by simp; omega) (by simpa using h) hji
    simp only [List.getElem_map] at h2
    rw [e2] at h2
    exact h2 e
/-- What is laid so far is a whole number of steps of the size at hand. -/
theorem pos_dvd : ∀ {l : List (Int × Nat)} {s : Nat}, (∀ p ∈ l, p.2 ≤ s) → 2 ^ (20 - s) ∣ posOf l
  | [], s, _ => by simp [posOf]
  | p :: l, s, h => by
    have h1 := pos_dvd (l := l) (s := s) fun q hq => h q (by simp [hq])
    have h2 : 2 ^ (20 - s) ∣ 2 ^ (20 - p.2) := Nat.pow_dvd_pow 2 (by have := h p (by simp); omega)
    have : posOf (p :: l) = 2 ^ (20 - p.2) + posOf l := by simp [posOf]
    rw [this]
    exact Nat.dvd_add h2 h1
/-- The next word's number. -/
def nextOf (l : List (Int × Nat)) (s : Nat) : Nat := posOf l / 2 ^ (20 - s)
theorem next_mul {l : List (Int × Nat)} {s : Nat} (h : ∀ p ∈ l, p.2 ≤ s) : nextOf l s * 2 ^ (20 - s) = posOf l := Nat.div_mul_cancel (pos_dvd h)
theorem pow_split {s : Nat} (hs : s ≤ 20) : (2 : Nat) ^ 20 = 2 ^ s * 2 ^ (20 - s) := by rw [← Nat.pow_add]; congr 1; omega
theorem next_fits {l : List (Int × Nat)} {s : Nat} (hs : s ≤ 20) (h : ∀ p ∈ l, p.2 ≤ s) : nextOf l s < 2 ^ s ↔ posOf l < 2 ^ 20 := by
  rw [← next_mul h, pow_split hs]
  constructor
  · intro h1; exact Nat.mul_lt_mul_of_pos_right h1 (Nat.two_pow_pos _)
  · intro h1; exact Nat.lt_of_mul_lt_mul_right h1
theorem next_le {l : List (Int × Nat)} {s : Nat} (hs : s ≤ 20) (h : ∀ p ∈ l, p.2 ≤ s) (hp : posOf l ≤ 2 ^ 20) : nextOf l s ≤ 2 ^ s := by
  rw [← next_mul h, pow_split hs] at hp
  exact Nat.le_of_mul_le_mul_right hp (Nat.two_pow_pos _)
theorem next_step {l : List (Int × Nat)} {s : Nat} (hs : s < 20) (h : ∀ p ∈ l, p.2 ≤ s) : nextOf l (s + 1) = nextOf l s * 2 := by
  have h1 := next_mul h
  unfold nextOf at h1 ⊢
  have e : (2 : Nat) ^ (20 - s) = 2 ^ (20 - (s + 1)) * 2 := by rw [← Nat.pow_succ]; congr 1; omega
  obtain ⟨k, hk⟩ := pos_dvd h
  rw [hk]
  rw [Nat.mul_div_cancel_left _ (Nat.two_pow_pos _), e, Nat.mul_assoc, Nat.mul_div_cancel_left _ (Nat.two_pow_pos _), Nat.mul_comm]
theorem next_more {l : List (Int × Nat)} {s : Nat} (h : ∀ p ∈ l, p.2 ≤ s) (x : Int) : nextOf (l ++ [(x, s)]) s = nextOf l s + 1 := by
  unfold nextOf
  rw [posOf_app, posOf_one]
  exact Nat.add_div_right _ (Nat.two_pow_pos _)
theorem fits_more {l : List (Int × Nat)} {s : Nat} (hs : s ≤ 20) (h : ∀ p ∈ l, p.2 ≤ s) (x : Int) (hp : posOf l < 2 ^ 20) : posOf (l ++ [(x, s)]) ≤ 2 ^ 20 := by
  rw [posOf_app, posOf_one, ← next_mul h, pow_split hs]
  have h1 := (next_fits hs h).2 hp
  have := Nat.mul_le_mul_right (2 ^ (20 - s)) (show nextOf l s + 1 ≤ 2 ^ s by omega)
  rw [Nat.add_mul] at this
  simpa using this
/-- Where a word's stretch begins. -/
def beg (t : Int × Nat × Nat) : Nat := t.2.2 * 2 ^ (20 - t.2.1)
theorem asg_spec : ∀ (p : Nat) (l : List (Int × Nat)), l.Pairwise (fun a b => a.2 ≤ b.2) → (∀ q ∈ l, 2 ^ (20 - q.2) ∣ p) →
    (∀ t ∈ asg p l, p ≤ beg t ∧ beg t + 2 ^ (20 - t.2.1) ≤ p + posOf l) ∧ (asg p l).Pairwise (fun a b => beg a + 2 ^ (20 - a.2.1) ≤ beg b)
  | p, [], _, _ => by simp [asg]
  | p, (x, z) :: l, hs, hd => by
    rw [List.pairwise_cons] at hs
    obtain ⟨ih1, ih2⟩ := asg_spec (p + 2 ^ (20 - z)) l hs.2 fun q hq => by
      have h1 := hd q (by simp [hq])
      have h2 := hs.1 q hq
      exact Nat.dvd_add h1 (Nat.pow_dvd_pow 2 (by simp only at h2; omega))
    have hb : beg (x, z, p / 2 ^ (20 - z)) = p := Nat.div_mul_cancel (hd (x, z) (by simp))
    have hpos : posOf ((x, z) :: l) = 2 ^ (20 - z) + posOf l := by simp [posOf]
    rw [asg]
    refine ⟨?_, ?_⟩
    · intro t ht
      rcases List.mem_cons.1 ht with rfl | ht
      · rw [hb, hpos]
        simp only
        omega
      · have := ih1 t ht
        have h0 := Nat.two_pow_pos (20 - z)
        rw [hpos]
        omega
    · rw [List.pairwise_cons]
      refine ⟨fun t ht => ?_, ih2⟩
      rw [hb]
      exact (ih1 t ht).1
theorem line_sorted (L : List (Int × Nat)) : ∀ s, (line L s).Pairwise (fun a b => a.2 ≤ b.2)
  | 0 => by simp [line]
  | s + 1 => by
    rw [line_succ, List.pairwise_append]
    refine ⟨line_sorted L s, ?_, ?_⟩
    · refine List.pairwise_of_forall_mem_list fun a ha b hb => ?_
      simp only [ofSize, List.mem_filter, beq_iff_eq] at ha hb
      omega
    · intro a ha b hb
      have := (line_mem.1 ha).2
      simp only [ofSize, List.mem_filter, beq_iff_eq] at hb
      omega
/-- The words of entries. -/
def wordsOf (L : List (Int × Nat)) : List (Int × Nat × Nat) := asg 0 (line L 21)
theorem words_spec (L : List (Int × Nat)) (h : ∀ p ∈ L, p.2 ≤ 20) (hf : posOf L ≤ 2 ^ 20) : (∀ t ∈ wordsOf L, t.2.1 ≤ 20 ∧ t.2.2 < 2 ^ t.2.1) ∧ (wordsOf L).Pairwise (fun a b => beg a + 2 ^ (20 - a.2.1) ≤ beg b) := by
  obtain ⟨h1, h2⟩ := asg_spec 0 (line L 21) (line_sorted L 21) (fun _ _ => Nat.dvd_zero _)
  refine ⟨fun t ht => ?_, h2⟩
  have hz : t.2.1 ≤ 20 := by
    have h3 : (t.1, t.2.1) ∈ line L 21 := by
      rw [← asg_keys 0 (line L 21)]
      exact List.mem_map_of_mem (f := fun t : Int × Nat × Nat => (t.1, t.2.1)) ht
    have := (line_mem.1 h3).2
    simp only at this
    omega
  refine ⟨hz, ?_⟩
  have h3 := (h1 t ht).2
  rw [posOf_perm (line_perm h), Nat.zero_add] at h3
  have h4 : (t.2.2 + 1) * 2 ^ (20 - t.2.1) ≤ 2 ^ t.2.1 * 2 ^ (20 - t.2.1) := by
    rw [← pow_split hz, Nat.add_mul]
    unfold beg at h3
    omega
  have := Nat.le_of_mul_le_mul_right h4 (Nat.two_pow_pos _)
  omega
/-- A word that is another one's beginning: its stretch holds the other's. -/
theorem begins {a b : Int × Nat × Nat} (ha : a.2.1 ≤ 20 ∧ a.2.2 < 2 ^ a.2.1) (hb : b.2.1 ≤ 20 ∧ b.2.2 < 2 ^ b.2.1) (hz : a.2.1 ≤ b.2.1) (h : tb a.2.2 a.2.1 = (tb b.2.2 b.2.1).take a.2.1) : beg a ≤ beg b ∧ beg b < beg a + 2 ^ (20 - a.2.1) := by
  obtain ⟨k, hk⟩ : ∃ k, b.2.1 = a.2.1 + k := ⟨b.2.1 - a.2.1, by omega⟩
  have h1 : tb b.2.2 b.2.1 = tb (b.2.2 / 2 ^ k) a.2.1 ++ tb b.2.2 k := by rw [hk, tb_split]
  rw [h1, List.take_left' (tb_len _ _)] at h
  have h2 := congrArg num h
  rw [num_tb, num_tb, Nat.mod_eq_of_lt ha.2] at h2
  have h3 : b.2.2 / 2 ^ k < 2 ^ a.2.1 := by
    rw [Nat.div_lt_iff_lt_mul (Nat.two_pow_pos _), ← Nat.pow_add, ← hk]
    exact hb.2
  rw [Nat.mod_eq_of_lt h3] at h2
  have h4 := Nat.div_add_mod b.2.2 (2 ^ k)
  have h5 := Nat.mod_lt b.2.2 (Nat.two_pow_pos k)
  rw [← h2] at h4
  unfold beg
  have e : (2 : Nat) ^ (20 - a.2.1) = 2 ^ k * 2 ^ (20 - b.2.1) := by rw [← Nat.pow_add]; congr 1; omega
  rw [e, ← Nat.mul_assoc]
  have h6 : a.2.2 * 2 ^ k ≤ b.2.2 := by rw [← h4, Nat.mul_comm]; omega
  have h7 : b.2.2 < a.2.2 * 2 ^ k + 2 ^ k := by rw [Nat.mul_comm a.2.2]; omega
  refine ⟨Nat.mul_le_mul_right _ h6, ?_⟩
  rw [← Nat.add_mul]
  exact Nat.mul_lt_mul_of_pos_right h7 (Nat.two_pow_pos _)
theorem apart {L : List (Int × Nat)} (h : ∀ p ∈ L, p.2 ≤ 20) (hf : posOf L ≤ 2 ^ 20) {a b : Int × Nat × Nat} (ha : a ∈ wordsOf L) (hb : b ∈ wordsOf L) (hne : a ≠ b) (hz : a.2.1 ≤ b.2.1) : tb a.2.2 a.2.1 ≠ (tb b.2.2 b.2.1).take a.2.1 := by
  intro he
  obtain ⟨h1, h2⟩ := words_spec L h hf
  obtain ⟨h3, h4⟩ := begins (h1 a ha) (h1 b hb) hz he
  obtain ⟨i, hi, rfl⟩ := List.getElem_of_mem ha
  obtain ⟨j, hj, rfl⟩ := List.getElem_of_mem hb
  have hp := List.pairwise_iff_getElem.1 h2
  rcases Nat.lt_trichotomy i j with h5 | h5 | h5
  · have := hp i j hi hj h5
    omega
  · subst h5
    exact hne rfl
  · have := hp j i hj hi h5
    have h6 := Nat.two_pow_pos (20 - (wordsOf L)[j].2.1)
    omega
end Go.Proofs.YtgaofnmgdefdcaaGreatDoor.Ln

namespace Go.Proofs.YtgaofnmgdefdcaaGreatDoor.St
open Go.Proofs.YtgaofnmgdefdcaaGreatDoor.Ln

abbrev E := Int × Nat
/-- Sizes rise. -/
def Rise (l : List E) : Prop := l.Pairwise (fun a b => a.2 ≤ b.2)
/-- Of each size the same entries, in the same order. -/
def Fl (l m : List E) : Prop := ∀ s, l.filter (fun p => p.2 == s) = m.filter (fun p => p.2 == s)
theorem Fl.refl (l : List E) : Fl l l := fun _ => rfl
theorem Fl.trans {a b c : List E} (h : Fl a b) (k : Fl b c) : Fl a c := fun s => (h s).trans (k s)
theorem Fl.symm {a b : List E} (h : Fl a b) : Fl b a := fun s => (h s).symm
theorem Fl.app {a b c d : List E} (h : Fl a b) (k : Fl c d) : Fl (a ++ c) (b ++ d) := fun s => by rw [List.filter_append, List.filter_append, h s, k s]
theorem Fl.mid {P X Z Q : List E} (h : Fl X Z) : Fl (P ++ X ++ Q) (P ++ Z ++ Q) := ((Fl.refl P).app h).app (Fl.refl Q)
theorem Fl.turn {A B : List E} (h : ∀ a ∈ A, ∀ b ∈ B, b.2 < a.2) : Fl (A ++ B) (B ++ A) := by
  intro s
  rw [List.filter_append, List.filter_append]
  by_cases hs : ∃ a ∈ A, a.2 = s
  · obtain ⟨a, ha, rfl⟩ := hs
    have : B.filter (fun p => p.2 == a.2) = [] := by
      rw [List.filter_eq_nil_iff]
      intro b hb
      have := h a ha b hb
      simp
      omega
    rw [this]
    simp
  · have : A.filter (fun p => p.2 == s) = [] := by
      rw [List.filter_eq_nil_iff]
      intro a ha
      simp
      exact fun e => hs ⟨a, ha, e⟩
    rw [this]
    simp
theorem Fl.mem {l m : List E} (h : Fl l m) {p : E} (hp : p ∈ m) : p ∈ l := by
  have h1 : p ∈ m.filter (fun q => q.2 == p.2) := List.mem_filter.2 ⟨hp, by simp⟩
  rw [← h p.2] at h1
  exact (List.mem_filter.1 h1).1
theorem rise_split (s : Nat) : ∀ {l : List E}, Rise l → l.filter (fun p => decide (p.2 < s + 1)) = l.filter (fun p => decide (p.2 < s)) ++ l.filter (fun p => p.2 == s)
  | [], _ => rfl
  | a :: l, h => by
    have hc := List.pairwise_cons.1 h
    have ih := rise_split s hc.2
    rcases Nat.lt_trichotomy a.2 s with hs | hs | hs
    · rw [List.filter_cons_of_pos (by simp; omega), List.filter_cons_of_pos (by simpa using hs), List.filter_cons_of_neg (by simp; omega), ih, List.cons_append]
    · have e : l.filter (fun p => decide (p.2 < s)) = [] := by
        rw [List.filter_eq_nil_iff]
        intro p hp
        have := hc.1 p hp
        simp
        omega
      rw [e, List.nil_append] at ih
      rw [List.filter_cons_of_pos (by simp; omega), List.filter_cons_of_neg (by simp; omega), List.filter_cons_of_pos (by simpa using hs), ih, e, List.nil_append]
    · have e : l.filter (fun p => p.2 == s) = [] := by
        rw [List.filter_eq_nil_iff]
        intro p hp
        have := hc.1 p hp
        simp
        omega
      rw [e, List.append_nil] at ih
      rw [List.filter_cons_of_neg (by simp; omega), List.filter_cons_of_neg (by simp; omega), List.filter_cons_of_neg (by simp; omega), ih, e, List.append_nil]
theorem rise_line {l : List E} (h : Rise l) : ∀ s, line l s = l.filter (fun p => decide (p.2 < s))
  | 0 => by simp [line]
  | s + 1 => by rw [line_succ, rise_line h s, rise_split s h]; rfl
/-- There is one such row: the line. -/
theorem Fl.line {l m : List E} (h : Fl l m) (hr : Rise m) (hs : ∀ p ∈ l, p.2 ≤ 20) : m = line l 21 := by
  have h1 : Ln.line l 21 = Ln.line m 21 := by
    unfold Ln.line
    congr 1
    exact funext fun s => h s
  rw [h1, rise_line hr, List.filter_eq_self.2]
  intro p hp
  have := hs p (h.mem hp)
  simp
  omega
theorem rise_app {A B : List E} : Rise (A ++ B) ↔ Rise A ∧ Rise B ∧ ∀ a ∈ A, ∀ b ∈ B, a.2 ≤ b.2 := List.pairwise_append
theorem rise_last {l : List E} (h : Rise l) {i : Nat} (hi : i + 1 = l.length) : ∀ p ∈ l, p.2 ≤ (l.getD i (0, 0)).2 := by
  intro p hp
  obtain ⟨j, hj, rfl⟩ := List.getElem_of_mem hp
  rw [List.getD_eq_getElem?_getD, List.getElem?_eq_getElem (by omega), Option.getD_some]
  rcases Nat.lt_or_ge j i with hji | hji
  · exact List.pairwise_iff_getElem.1 h j i hj (by omega) hji
  · obtain rfl : j = i := by omega
    exact Nat.le_refl _
theorem rise_head {l : List E} (h : Rise l) : ∀ p ∈ l, (l.getD 0 (0, 0)).2 ≤ p.2 := by
  intro p hp
  cases l with
  | nil => cases hp
  | cons a l =>
    rcases List.mem_cons.1 hp with rfl | hp
    · exact Nat.le_refl _
    · exact (List.pairwise_cons.1 h).1 p hp
/-- One row's last is below another one's first: all are. -/
theorem all_lt {A B : List E} (hA : Rise A) (hB : Rise B) (h : 0 < A.length → 0 < B.length → (A.getD (A.length - 1) (0, 0)).2 < (B.getD 0 (0, 0)).2) : ∀ b ∈ B, ∀ a ∈ A, a.2 < b.2 := by
  intro b hb a ha
  have h1 := rise_last hA (i := A.length - 1) (by have := List.length_pos_of_mem ha; omega) a ha
  have h2 := rise_head hB b hb
  have := h (List.length_pos_of_mem ha) (List.length_pos_of_mem hb)
  omega
theorem all_le {A B : List E} (hA : Rise A) (hB : Rise B) (h : 0 < A.length → 0 < B.length → (A.getD (A.length - 1) (0, 0)).2 ≤ (B.getD 0 (0, 0)).2) : ∀ a ∈ A, ∀ b ∈ B, a.2 ≤ b.2 := by
  intro a ha b hb
  have h1 := rise_last hA (i := A.length - 1) (by have := List.length_pos_of_mem ha; omega) a ha
  have h2 := rise_head hB b hb
  have := h (List.length_pos_of_mem ha) (List.length_pos_of_mem hb)
  omega
/-- Two rising rows, each cut in two; the middle ones change places; both halves are put in order. -/
theorem merged {X1 X2 Y1 Y2 Z1 Z2 : List E} (hX : Rise (X1 ++ X2)) (hY : Rise (Y1 ++ Y2)) (hlt : ∀ b ∈ X2, ∀ a ∈ Y1, a.2 < b.2) (hle : ∀ a ∈ X1, ∀ b ∈ Y2, a.2 ≤ b.2)
    (h1 : Rise Z1) (f1 : Fl (X1 ++ Y1) Z1) (h2 : Rise Z2) (f2 : Fl (X2 ++ Y2) Z2) : Rise (Z1 ++ Z2) ∧ Fl (X1 ++ X2 ++ (Y1 ++ Y2)) (Z1 ++ Z2) := by
  obtain ⟨_, _, hx⟩ := rise_app.1 hX
  obtain ⟨_, _, hy⟩ := rise_app.1 hY
  refine ⟨rise_app.2 ⟨h1, h2, ?_⟩, ?_⟩
  · intro a ha b hb
    rcases List.mem_append.1 (f1.mem ha) with ha | ha <;> rcases List.mem_append.1 (f2.mem hb) with hb | hb
    · exact hx a ha b hb
    · exact hle a ha b hb
    · exact Nat.le_of_lt (hlt b hb a ha)
    · exact hy a ha b hb
  · have h3 : Fl (X1 ++ X2 ++ (Y1 ++ Y2)) (X1 ++ Y1 ++ (X2 ++ Y2)) := by
      have e1 : X1 ++ X2 ++ (Y1 ++ Y2) = X1 ++ (X2 ++ Y1) ++ Y2 := by simp
      have e2 : X1 ++ Y1 ++ (X2 ++ Y2) = X1 ++ (Y1 ++ X2) ++ Y2 := by simp
      rw [e1, e2]
      exact Fl.mid (Fl.turn hlt)
    exact h3.trans (f1.app f2)
/-- Rows of so many entries, each rising, and one behind them that is shorter. -/
def Ch (s : Nat) (L : List E) : Prop := ∃ (Ls : List (List E)) (X : List E), L = Ls.flatten ++ X ∧ (∀ Y ∈ Ls, Y.length = s ∧ Rise Y) ∧ X.length < s ∧ Rise X
def Full (s : Nat) (L : List E) : Prop := ∃ Ls : List (List E), L = Ls.flatten ∧ ∀ Y ∈ Ls, Y.length = s ∧ Rise Y
theorem Full.nil (s : Nat) : Full s [] := ⟨[], rfl, by simp⟩
theorem Full.snoc {s : Nat} {L Y : List E} (h : Full s L) (hl : Y.length = s) (hr : Rise Y) : Full s (L ++ Y) := by
  obtain ⟨Ls, rfl, h2⟩ := h
  refine ⟨Ls ++ [Y], by simp, ?_⟩
  intro Z hZ
  rcases List.mem_append.1 hZ with hZ | hZ
  · exact h2 Z hZ
  · rw [List.mem_singleton] at hZ
    subst hZ
    exact ⟨hl, hr⟩
theorem Full.end_ {s : Nat} {L X : List E} (h : Full s L) (hl : X.length < s) (hr : Rise X) : Ch s (L ++ X) := by
  obtain ⟨Ls, rfl, h2⟩ := h
  exact ⟨Ls, X, rfl, h2, hl, hr⟩
theorem Ch.two {s : Nat} {L : List E} (h : Ch s L) (hl : 2 * s ≤ L.length) : ∃ Y1 Y2 R, L = Y1 ++ Y2 ++ R ∧ Y1.length = s ∧ Rise Y1 ∧ Y2.length = s ∧ Rise Y2 ∧ Ch s R := by
  obtain ⟨Ls, X, rfl, h2, h3, h4⟩ := h
  match Ls with
  | [] => simp at hl; omega
  | [Y] => have := h2 Y (by simp); simp at hl; omega
  | Y1 :: Y2 :: Ls =>
    have a := h2 Y1 (by simp)
    have b := h2 Y2 (by simp)
    exact ⟨Y1, Y2, Ls.flatten ++ X, by simp, a.1, a.2, b.1, b.2, Ls, X, rfl, fun Y hY => h2 Y (by simp [hY]), h3, h4⟩
theorem Ch.one {s : Nat} {L : List E} (h : Ch s L) (hl : L.length < 2 * s) (hg : s < L.length) : ∃ Y1 Y2, L = Y1 ++ Y2 ∧ Y1.length = s ∧ Rise Y1 ∧ Rise Y2 := by
  obtain ⟨Ls, X, rfl, h2, h3, h4⟩ := h
  match Ls with
  | [] => simp at hg; omega
  | [Y] => have a := h2 Y (by simp); exact ⟨Y, X, by simp, a.1, a.2, h4⟩
  | Y1 :: Y2 :: Ls =>
    have a := h2 Y1 (by simp)
    have b := h2 Y2 (by simp)
    simp at hl
    omega
theorem Ch.rise {s : Nat} {L : List E} (h : Ch s L) (hl : L.length ≤ s) : Rise L := by
  obtain ⟨Ls, X, rfl, h2, h3, h4⟩ := h
  match Ls with
  | [] => simpa using h4
  | [Y] =>
    have a := h2 Y (by simp)
    simp at hl
    have : X = [] := List.eq_nil_of_length_eq_zero (by omega)
    subst this
    simpa using a.2
  | Y1 :: Y2 :: Ls =>
    have a := h2 Y1 (by simp)
    have b := h2 Y2 (by simp)
    simp at hl
    have : s = 0 := by omega
    omega
end Go.Proofs.YtgaofnmgdefdcaaGreatDoor.St
