/- Words as stretches of a line of 2^20, plain data alone: each word's number is where its stretch begins; stretches that don't meet: no word begins with another. No program is named here. -/
/- Entries by their sizes, those of one size as they were: plain data alone. No program is named here. -/
/- Entries in a block: one is set, two change places; ranges change places; two neighbouring rows do (slices' swapRange, rotate). No conditions beyond those that each law names. -/
import Derived.Test.YtgaofnmgdefdcaaGreatDoorJGenJGenHufPm
import Derived.Test.YtgaofnmgdefdcaaGreatDoorJJHufRowHufEvBitPlain
import Derived.BigRegion


namespace Go.Proofs.YtgaofnmgdefdcaaGreatDoor.Ln
open Go.Proofs.YtgaofnmgdefdcaaGreatDoor.Bp

/-- How much of the line entries take. -/
def posOf (l : List (Int × Nat)) : Nat := (l.map fun p => 2 ^ (20 - p.2)).sum
theorem posOf_app (a b : List (Int × Nat)) : posOf (a ++ b) = posOf a + posOf b := by simp [posOf]
theorem posOf_one (p : Int × Nat) : posOf [p] = 2 ^ (20 - p.2) := by simp [posOf]
theorem posOf_perm {a b : List (Int × Nat)} (h : a.Perm b) : posOf a = posOf b := (h.map _).sum_nat
/-- Numbers, sizes and words' numbers, from a place on. -/
def asg : Nat → List (Int × Nat) → List (Int × Nat × Nat)
  | _, [] => []
  | p, (x, z) :: l => (x, z, p / 2 ^ (20 - z)) :: asg (p + 2 ^ (20 - z)) l
theorem asg_app : ∀ (p : Nat) (a b : List (Int × Nat)), asg p (a ++ b) = asg p a ++ asg (p + posOf a) b
  | p, [], b => by simp [asg, posOf]
  | p, (x, z) :: a, b => by
    rw [List.cons_append, asg, asg, asg_app, List.cons_append]
    congr 3
    simp [posOf]
    omega
theorem asg_keys : ∀ (p : Nat) (l : List (Int × Nat)), (asg p l).map (fun t => (t.1, t.2.1)) = l
  | _, [] => rfl
  | p, (x, z) :: l => by simp [asg, asg_keys]
/-- Entries of one size. -/
def ofSize (L : List (Int × Nat)) (s : Nat) : List (Int × Nat) := L.filter fun p => p.2 == s
/-- Entries by their sizes, those of one size as they are. -/
def line (L : List (Int × Nat)) (s : Nat) : List (Int × Nat) := (List.range s).flatMap (ofSize L)
theorem line_succ (L : List (Int × Nat)) (s : Nat) : line L (s + 1) = line L s ++ ofSize L s := by simp [line, List.range_succ]
theorem line_mem {L : List (Int × Nat)} {s : Nat} {p : Int × Nat} : p ∈ line L s ↔ p ∈ L ∧ p.2 < s := by
  simp only [line, ofSize, List.mem_flatMap, List.mem_range, List.mem_filter, beq_iff_eq]
  constructor
  · rintro ⟨a, h1, h2, rfl⟩
    exact ⟨h2, h1⟩
  · rintro ⟨h1, h2⟩
    exact ⟨p.2, h2, h1, rfl⟩
theorem filter_split (s : Nat) : ∀ (L : List (Int × Nat)), ((L.filter fun p => p.2 < s) ++ ofSize L s).Perm (L.filter fun p => p.2 < s + 1)
  | [] => by simp [ofSize]
  | p :: L => by
    have ih := filter_split s L
    simp only [ofSize, List.filter_cons] at ih ⊢
    rcases Nat.lt_trichotomy p.2 s with h | h | h
    · have h1 : decide (p.2 < s) = true := by simpa using h
      have h2 : (p.2 == s) = false := by simp; omega
      have h3 : decide (p.2 < s + 1) = true := by simp; omega
      rw [h1, h2, h3]
      simpa using ih
    · have h1 : decide (p.2 < s) = false := by simp; omega
      have h2 : (p.2 == s) = true := by simp [h]
      have h3 : decide (p.2 < s + 1) = true := by simp; omega
      rw [h1, h2, h3]
      simp only [Bool.false_eq_true, if_false, if_true]
      exact List.perm_middle.trans (ih.cons p)
    · have h1 : decide (p.2 < s) = false := by simp; omega
      have h2 : (p.2 == s) = false := by simp; omega
      have h3 : decide (p.2 < s + 1) = false := by simp; omega
      rw [h1, h2, h3]
      simpa using ih
theorem line_perm_filter (L : List (Int × Nat)) : ∀ s, (line L s).Perm (L.filter fun p => p.2 < s)
  | 0 => by simp [line]
  | s + 1 => by
    rw [line_succ]
    exact ((line_perm_filter L s).append_right _).trans (filter_split s L)
theorem sub_sum {s l : List Nat} (h : s.Sublist l) : s.sum ≤ l.sum := by
  induction h with
  | slnil => simp
  | cons a _ ih => simp only [List.sum_cons]; omega
  | cons_cons a _ ih => simp only [List.sum_cons]; omega
theorem line_perm {L : List (Int × Nat)} (h : ∀ p ∈ L, p.2 ≤ 20) : (line L 21).Perm L := by
  have h1 := line_perm_filter L 21
  rw [List.filter_eq_self.2 (by intro p hp; have := h p hp; simp; omega)] at h1
  exact h1
theorem line_le {L : List (Int × Nat)} {s : Nat} : posOf (line L s) ≤ posOf L := by
  rw [posOf_perm (line_perm_filter L s)]
  unfold posOf
  exact sub_sum (List.filter_sublist.map _)
/-- What is laid while those of size s come, i of them having been looked at. -/
def laid (L : List (Int × Nat)) (s i : Nat) : List (Int × Nat) := line L s ++ ofSize (L.take i) s
theorem laid_zero (L : List (Int × Nat)) (s : Nat) : laid L s 0 = line L s := by simp [laid, ofSize]
theorem laid_all (L : List (Int × Nat)) (s : Nat) : laid L s L.length = line L (s + 1) := by rw [laid, List.take_length, line_succ]
theorem laid_hit {L : List (Int × Nat)} {s i : Nat} (h : i < L.length) (hs : (L.getD i (0, 0)).2 = s) : laid L s (i + 1) = laid L s i ++ [L.getD i (0, 0)] := by
  simp only [List.getD_eq_getElem?_getD, List.getElem?_eq_getElem h, Option.getD_some] at hs ⊢
  unfold laid ofSize
  rw [List.take_add_one, List.getElem?_eq_getElem h, List.filter_append, ← List.append_assoc]
  simp [hs]
theorem laid_miss {L : List (Int × Nat)} {s i : Nat} (h : i < L.length) (hs : (L.getD i (0, 0)).2 ≠ s) : laid L s (i + 1) = laid L s i := by
  simp only [List.getD_eq_getElem?_getD, List.getElem?_eq_getElem h, Option.getD_some] at hs
  unfold laid ofSize
  rw [List.take_add_one, List.getElem?_eq_getElem h, List.filter_append]
  simp [hs]
theorem laid_mem {L : List (Int × Nat)} {s i : Nat} {p : Int × Nat} (h : p ∈ laid L s i) : p ∈ L ∧ p.2 ≤ s := by
  unfold laid at h
  rcases List.mem_append.1 h with h | h
  · have := line_mem.1 h
    exact ⟨this.1, by omega⟩
  · simp only [ofSize, List.mem_filter, beq_iff_eq] at h
    exact ⟨List.mem_of_mem_take h.1, by omega⟩
theorem laid_le {L : List (Int × Nat)} {s i : Nat} : posOf (laid L s i) ≤ posOf L := by
  have h : posOf (laid L s i) ≤ posOf (line L (s + 1)) := by
    rw [laid, line_succ, posOf_app, posOf_app]
    refine Nat.add_le_add_left ?_ _
    unfold posOf ofSize
    exact sub_sum (((List.take_sublist i L).filter _).map _)
  exact Nat.le_trans h line_le
theorem laid_len {L : List (Int × Nat)} {s i : Nat} : (laid L s i).length ≤ L.length := by
  have h1 : (laid L s i).length ≤ (line L (s + 1)).length := by
    rw [laid, line_succ, List.length_append, List.length_append]
    have : (ofSize (L.take i) s).length ≤ (ofSize L s).length := ((List.take_sublist i L).filter _).length_le
    omega
  rw [(line_perm_filter L (s + 1)).length_eq] at h1
  exact Nat.le_trans h1 (List.length_filter_le _ _)
theorem asg_len (p : Nat) (l : List (Int × Nat)) : (asg p l).length = l.length := by
  have h := congrArg List.length (asg_keys p l)
  rw [List.length_map] at h
  exact h
theorem laid_new {L : List (Int × Nat)} {s i : Nat} (hd : (L.map (·.1)).Nodup) (h : i < L.length) (hs : (L.getD i (0, 0)).2 = s) : (L.getD i (0, 0)).1 ∉ (laid L s i).map (·.1) := by
  have hg : L.getD i (0, 0) = L[i] := by simp [List.getD_eq_getElem?_getD, List.getElem?_eq_getElem h]
  rw [hg] at hs ⊢
  intro hm
  rw [List.mem_map] at hm
  obtain ⟨p, hp, e⟩ := hm
  have hsame : ∀ q ∈ L, q.1 = L[i].1 → q = L[i] := by
    intro q hq e
    obtain ⟨j, hj, rfl⟩ := List.getElem_of_mem hq
    have h2 := List.pairwise_iff_getElem.1 hd
    rcases Nat.lt_trichotomy i j with h3 | h3 | h3
    · have h4 := h2 i j (by simpa using h) (by simpa using hj) h3
      simp only [List.getElem_map] at h4
      exact absurd e.symm h4
    · subst h3; rfl
    · have h4 := h2 j i (by simpa using hj) (by simpa using h) h3
      simp only [List.getElem_map] at h4
      exact absurd e h4
  unfold laid at hp
  rcases List.mem_append.1 hp with hp | hp
  · obtain ⟨h1, h2⟩ := line_mem.1 hp
    rw [hsame p h1 e] at h2
    omega
  · simp only [ofSize, List.mem_filter] at hp
    obtain ⟨j, hj, e2⟩ := List.getElem_of_mem hp.1
    have hji : j < i := by simp at hj; omega
    rw [List.getElem_take] at e2
    have h2 := List.pairwise_iff_getElem.1 hd j i (by simp; omega) (by simpa using h) hji
    simp only [List.getElem_map] at h2
    rw [e2] at h2
    exact h2 e
/-- What is laid so far is a whole number of steps of the size at hand. -/
theorem pos_dvd : ∀ {l : List (Int × Nat)} {s : Nat}, (∀ p ∈ l, p.2 ≤ s) → 2 ^ (20 - s) ∣ posOf l
  | [], s, _ => by simp [posOf]
  | p :: l, s, h => by
    have h1 := pos_dvd (l := l) (s := s) fun q hq => h q (by simp [hq])
    have h2 : 2 ^ (20 - s) ∣ 2 ^ (20 - p.2) := Nat.pow_dvd_pow 2 (by have := h p (by simp); omega)
    have : posOf (p :: l) = 2 ^ (20 - p.2) + posOf l := by simp [posOf]
    rw [this]
    exact Nat.dvd_add h2 h1
/-- The next word's number. -/
def nextOf (l : List (Int × Nat)) (s : Nat) : Nat := posOf l / 2 ^ (20 - s)
theorem next_mul {l : List (Int × Nat)} {s : Nat} (h : ∀ p ∈ l, p.2 ≤ s) : nextOf l s * 2 ^ (20 - s) = posOf l := Nat.div_mul_cancel (pos_dvd h)
theorem pow_split {s : Nat} (hs : s ≤ 20) : (2 : Nat) ^ 20 = 2 ^ s * 2 ^ (20 - s) := by rw [← Nat.pow_add]; congr 1; omega
theorem next_fits {l : List (Int × Nat)} {s : Nat} (hs : s ≤ 20) (h : ∀ p ∈ l, p.2 ≤ s) : nextOf l s < 2 ^ s ↔ posOf l < 2 ^ 20 := by
  rw [← next_mul h, pow_split hs]
  constructor
  · intro h1; exact Nat.mul_lt_mul_of_pos_right h1 (Nat.two_pow_pos _)
  · intro h1; exact Nat.lt_of_mul_lt_mul_right h1
theorem next_le {l : List (Int × Nat)} {s : Nat} (hs : s ≤ 20) (h : ∀ p ∈ l, p.2 ≤ s) (hp : posOf l ≤ 2 ^ 20) : nextOf l s ≤ 2 ^ s := by
  rw [← next_mul h, pow_split hs] at hp
  exact Nat.le_of_mul_le_mul_right hp (Nat.two_pow_pos _)
theorem next_step {l : List (Int × Nat)} {s : Nat} (hs : s < 20) (h : ∀ p ∈ l, p.2 ≤ s) : nextOf l (s + 1) = nextOf l s * 2 := by
  have h1 := next_mul h
  unfold nextOf at h1 ⊢
  have e : (2 : Nat) ^ (20 - s) = 2 ^ (20 - (s + 1)) * 2 := by rw [← Nat.pow_succ]; congr 1; omega
  obtain ⟨k, hk⟩ := pos_dvd h
  rw [hk]
  rw [Nat.mul_div_cancel_left _ (Nat.two_pow_pos _), e, Nat.mul_assoc, Nat.mul_div_cancel_left _ (Nat.two_pow_pos _), Nat.mul_comm]
theorem next_more {l : List (Int × Nat)} {s : Nat} (h : ∀ p ∈ l, p.2 ≤ s) (x : Int) : nextOf (l ++ [(x, s)]) s = nextOf l s + 1 := by
  unfold nextOf
  rw [posOf_app, posOf_one]
  exact Nat.add_div_right _ (Nat.two_pow_pos _)
theorem fits_more {l : List (Int × Nat)} {s : Nat} (hs : s ≤ 20) (h : ∀ p ∈ l, p.2 ≤ s) (x : Int) (hp : posOf l < 2 ^ 20) : posOf (l ++ [(x, s)]) ≤ 2 ^ 20 := by
  rw [posOf_app, posOf_one, ← next_mul h, pow_split hs]
  have h1 := (next_fits hs h).2 hp
  have := Nat.mul_le_mul_right (2 ^ (20 - s)) (show nextOf l s + 1 ≤ 2 ^ s by omega)
  rw [Nat.add_mul] at this
  simpa using this
/-- Where a word's stretch begins. -/
def beg (t : Int × Nat × Nat) : Nat := t.2.2 * 2 ^ (20 - t.2.1)
theorem asg_spec : ∀ (p : Nat) (l : List (Int × Nat)), l.Pairwise (fun a b => a.2 ≤ b.2) → (∀ q ∈ l, 2 ^ (20 - q.2) ∣ p) →
    (∀ t ∈ asg p l, p ≤ beg t ∧ beg t + 2 ^ (20 - t.2.1) ≤ p + posOf l) ∧ (asg p l).Pairwise (fun a b => beg a + 2 ^ (20 - a.2.1) ≤ beg b)
  | p, [], _, _ => by simp [asg]
  | p, (x, z) :: l, hs, hd => by
    rw [List.pairwise_cons] at hs
    obtain ⟨ih1, ih2⟩ := asg_spec (p + 2 ^ (20 - z)) l hs.2 fun q hq => by
      have h1 := hd q (by simp [hq])
      have h2 := hs.1 q hq
      exact Nat.dvd_add h1 (Nat.pow_dvd_pow 2 (by simp only at h2; omega))
    have hb : beg (x, z, p / 2 ^ (20 - z)) = p := Nat.div_mul_cancel (hd (x, z) (by simp))
    have hpos : posOf ((x, z) :: l) = 2 ^ (20 - z) + posOf l := by simp [posOf]
    rw [asg]
    refine ⟨?_, ?_⟩
    · intro t ht
      rcases List.mem_cons.1 ht with rfl | ht
      · rw [hb, hpos]
        simp only
        omega
      · have := ih1 t ht
        have h0 := Nat.two_pow_pos (20 - z)
        rw [hpos]
        omega
    · rw [List.pairwise_cons]
      refine ⟨fun t ht => ?_, ih2⟩
      rw [hb]
      exact (ih1 t ht).1
theorem line_sorted (L : List (Int × Nat)) : ∀ s, (line L s).Pairwise (fun a b => a.2 ≤ b.2)
  | 0 => by simp [line]
  | s + 1 => by
    rw [line_succ, List.pairwise_append]
    refine ⟨line_sorted L s, ?_, ?_⟩
    · refine List.pairwise_of_forall_mem_list fun a ha b hb => ?_
      simp only [ofSize, List.mem_filter, beq_iff_eq] at ha hb
      omega
    · intro a ha b hb
      have := (line_mem.1 ha).2
      simp only [ofSize, List.mem_filter, beq_iff_eq] at hb
      omega
/-- The words of entries. -/
def wordsOf (L : List (Int × Nat)) : List (Int × Nat × Nat) := asg 0 (line L 21)
theorem words_spec (L : List (Int × Nat)) (h : ∀ p ∈ L, p.2 ≤ 20) (hf : posOf L ≤ 2 ^ 20) : (∀ t ∈ wordsOf L, t.2.1 ≤ 20 ∧ t.2.2 < 2 ^ t.2.1) ∧ (wordsOf L).Pairwise (fun a b => beg a + 2 ^ (20 - a.2.1) ≤ beg b) := by
  obtain ⟨h1, h2⟩ := asg_spec 0 (line L 21) (line_sorted L 21) (fun _ _ => Nat.dvd_zero _)
  refine ⟨fun t ht => ?_, h2⟩
  have hz : t.2.1 ≤ 20 := by
    have h3 : (t.1, t.2.1) ∈ line L 21 := by
      rw [← asg_keys 0 (line L 21)]
      exact List.mem_map_of_mem (f := fun t : Int × Nat × Nat => (t.1, t.2.1)) ht
    have := (line_mem.1 h3).2
    simp only at this
    omega
  refine ⟨hz, ?_⟩
  have h3 := (h1 t ht).2
  rw [posOf_perm (line_perm h), Nat.zero_add] at h3
  have h4 : (t.2.2 + 1) * 2 ^ (20 - t.2.1) ≤ 2 ^ t.2.1 * 2 ^ (20 - t.2.1) := by
    rw [← pow_split hz, Nat.add_mul]
    unfold beg at h3
    omega
  have := Nat.le_of_mul_le_mul_right h4 (Nat.two_pow_pos _)
  omega
/-- A word that is another one's beginning: its stretch holds the other's. -/
theorem begins {a b : Int × Nat × Nat} (ha : a.2.1 ≤ 20 ∧ a.2.2 < 2 ^ a.2.1) (hb : b.2.1 ≤ 20 ∧ b.2.2 < 2 ^ b.2.1) (hz : a.2.1 ≤ b.2.1) (h : tb a.2.2 a.2.1 = (tb b.2.2 b.2.1).take a.2.1) : beg a ≤ beg b ∧ beg b < beg a + 2 ^ (20 - a.2.1) := by
  obtain ⟨k, hk⟩ : ∃ k, b.2.1 = a.2.1 + k := ⟨b.2.1 - a.2.1, by omega⟩
  have h1 : tb b.2.2 b.2.1 = tb (b.2.2 / 2 ^ k) a.2.1 ++ tb b.2.2 k := by rw [hk, tb_split]
  rw [h1, List.take_left' (tb_len _ _)] at h
  have h2 := congrArg num h
  rw [num_tb, num_tb, Nat.mod_eq_of_lt ha.2] at h2
  have h3 : b.2.2 / 2 ^ k < 2 ^ a.2.1 := by
    rw [Nat.div_lt_iff_lt_mul (Nat.two_pow_pos _), ← Nat.pow_add, ← hk]
    exact hb.2
  rw [Nat.mod_eq_of_lt h3] at h2
  have h4 := Nat.div_add_mod b.2.2 (2 ^ k)
  have h5 := Nat.mod_lt b.2.2 (Nat.two_pow_pos k)
  rw [← h2] at h4
  unfold beg
  have e : (2 : Nat) ^ (20 - a.2.1) = 2 ^ k * 2 ^ (20 - b.2.1) := by rw [← Nat.pow_add]; congr 1; omega
  rw [e, ← Nat.mul_assoc]
  have h6 : a.2.2 * 2 ^ k ≤ b.2.2 := by rw [← h4, Nat.mul_comm]; omega
  have h7 : b.2.2 < a.2.2 * 2 ^ k + 2 ^ k := by rw [Nat.mul_comm a.2.2]; omega
  refine ⟨Nat.mul_le_mul_right _ h6, ?_⟩
  rw [← Nat.add_mul]
  exact Nat.mul_lt_mul_of_pos_right h7 (Nat.two_pow_pos _)
theorem apart {L : List (Int × Nat)} (h : ∀ p ∈ L, p.2 ≤ 20) (hf : posOf L ≤ 2 ^ 20) {a b : Int × Nat × Nat} (ha : a ∈ wordsOf L) (hb : b ∈ wordsOf L) (hne : a ≠ b) (hz : a.2.1 ≤ b.2.1) : tb a.2.2 a.2.1 ≠ (tb b.2.2 b.2.1).take a.2.1 := by
  intro he
  obtain ⟨h1, h2⟩ := words_spec L h hf
  obtain ⟨h3, h4⟩ := begins (h1 a ha) (h1 b hb) hz he
  obtain ⟨i, hi, rfl⟩ := List.getElem_of_mem ha
  obtain ⟨j, hj, rfl⟩ := List.getElem_of_mem hb
  have hp := List.pairwise_iff_getElem.1 h2
  rcases Nat.lt_trichotomy i j with h5 | h5 | h5
  · have := hp i j hi hj h5
    omega
  · subst h5
    exact hne rfl
  · have := hp j i hj hi h5
    have h6 := Nat.two_pow_pos (20 - (wordsOf L)[j].2.1)
    omega
end Go.Proofs.YtgaofnmgdefdcaaGreatDoor.Ln

namespace Go.Proofs.YtgaofnmgdefdcaaGreatDoor.St
open Go.Proofs.YtgaofnmgdefdcaaGreatDoor.Ln

abbrev E := Int × Nat
/-- Sizes rise. -/
def Rise (l : List E) : Prop := l.Pairwise (fun a b => a.2 ≤ b.2)
/-- Of each size the same entries, in the same order. -/
def Fl (l m : List E) : Prop := ∀ s, l.filter (fun p => p.2 == s) = m.filter (fun p => p.2 == s)
theorem Fl.refl (l : List E) : Fl l l := fun _ => rfl
theorem Fl.trans {a b c : List E} (h : Fl a b) (k : Fl b c) : Fl a c := fun s => (h s).trans (k s)
theorem Fl.symm {a b : List E} (h : Fl a b) : Fl b a := fun s => (h s).symm
theorem Fl.app {a b c d : List E} (h : Fl a b) (k : Fl c d) : Fl (a ++ c) (b ++ d) := fun s => by rw [List.filter_append, List.filter_append, h s, k s]
theorem Fl.mid {P X Z Q : List E} (h : Fl X Z) : Fl (P ++ X ++ Q) (P ++ Z ++ Q) := ((Fl.refl P).app h).app (Fl.refl Q)
theorem Fl.turn {A B : List E} (h : ∀ a ∈ A, ∀ b ∈ B, b.2 < a.2) : Fl (A ++ B) (B ++ A) := by
  intro s
  rw [List.filter_append, List.filter_append]
  by_cases hs : ∃ a ∈ A, a.2 = s
  · obtain ⟨a, ha, rfl⟩ := hs
    have : B.filter (fun p => p.2 == a.2) = [] := by
      rw [List.filter_eq_nil_iff]
      intro b hb
      have := h a ha b hb
      simp
      omega
    rw [this]
    simp
  · have : A.filter (fun p => p.2 == s) = [] := by
      rw [List.filter_eq_nil_iff]
      intro a ha
      simp
      exact fun e => hs ⟨a, ha, e⟩
    rw [this]
    simp
theorem Fl.mem {l m : List E} (h : Fl l m) {p : E} (hp : p ∈ m) : p ∈ l := by
  have h1 : p ∈ m.filter (fun q => q.2 == p.2) := List.mem_filter.2 ⟨hp, by simp⟩
  rw [← h p.2] at h1
  exact (List.mem_filter.1 h1).1
theorem rise_split (s : Nat) : ∀ {l : List E}, Rise l → l.filter (fun p => decide (p.2 < s + 1)) = l.filter (fun p => decide (p.2 < s)) ++ l.filter (fun p => p.2 == s)
  | [], _ => rfl
  | a :: l, h => by
    have hc := List.pairwise_cons.1 h
    have ih := rise_split s hc.2
    rcases Nat.lt_trichotomy a.2 s with hs | hs | hs
    · rw [List.filter_cons_of_pos (by simp; omega), List.filter_cons_of_pos (by simpa using hs), List.filter_cons_of_neg (by simp; omega), ih, List.cons_append]
    · have e : l.filter (fun p => decide (p.2 < s)) = [] := by
        rw [List.filter_eq_nil_iff]
        intro p hp
        have := hc.1 p hp
        simp
        omega
      rw [e, List.nil_append] at ih
      rw [List.filter_cons_of_pos (by simp; omega), List.filter_cons_of_neg (by simp; omega), List.filter_cons_of_pos (by simpa using hs), ih, e, List.nil_append]
    · have e : l.filter (fun p => p.2 == s) = [] := by
        rw [List.filter_eq_nil_iff]
        intro p hp
        have := hc.1 p hp
        simp
        omega
      rw [e, List.append_nil] at ih
      rw [List.filter_cons_of_neg (by simp; omega), List.filter_cons_of_neg (by simp; omega), List.filter_cons_of_neg (by simp; omega), ih, e, List.append_nil]
theorem rise_line {l : List E} (h : Rise l) : ∀ s, line l s = l.filter (fun p => decide (p.2 < s))
  | 0 => by simp [line]
  | s + 1 => by rw [line_succ, rise_line h s, rise_split s h]; rfl
/-- There is one such row: the line. -/
theorem Fl.line {l m : List E} (h : Fl l m) (hr : Rise m) (hs : ∀ p ∈ l, p.2 ≤ 20) : m = line l 21 := by
  have h1 : Ln.line l 21 = Ln.line m 21 := by
    unfold Ln.line
    congr 1
    exact funext fun s => h s
  rw [h1, rise_line hr, List.filter_eq_self.2]
  intro p hp
  have := hs p (h.mem hp)
  simp
  omega
theorem rise_app {A B : List E} : Rise (A ++ B) ↔ Rise A ∧ Rise B ∧ ∀ a ∈ A, ∀ b ∈ B, a.2 ≤ b.2 := List.pairwise_append
theorem rise_last {l : List E} (h : Rise l) {i : Nat} (hi : i + 1 = l.length) : ∀ p ∈ l, p.2 ≤ (l.getD i (0, 0)).2 := by
  intro p hp
  obtain ⟨j, hj, rfl⟩ := List.getElem_of_mem hp
  rw [List.getD_eq_getElem?_getD, List.getElem?_eq_getElem (by omega), Option.getD_some]
  rcases Nat.lt_or_ge j i with hji | hji
  · exact List.pairwise_iff_getElem.1 h j i hj (by omega) hji
  · obtain rfl : j = i := by omega
    exact Nat.le_refl _
theorem rise_head {l : List E} (h : Rise l) : ∀ p ∈ l, (l.getD 0 (0, 0)).2 ≤ p.2 := by
  intro p hp
  cases l with
  | nil => cases hp
  | cons a l =>
    rcases List.mem_cons.1 hp with rfl | hp
    · exact Nat.le_refl _
    · exact (List.pairwise_cons.1 h).1 p hp
/-- One row's last is below another one's first: all are. -/
theorem all_lt {A B : List E} (hA : Rise A) (hB : Rise B) (h : 0 < A.length → 0 < B.length → (A.getD (A.length - 1) (0, 0)).2 < (B.getD 0 (0, 0)).2) : ∀ b ∈ B, ∀ a ∈ A, a.2 < b.2 := by
  intro b hb a ha
  have h1 := rise_last hA (i := A.length - 1) (by have := List.length_pos_of_mem ha; omega) a ha
  have h2 := rise_head hB b hb
  have := h (List.length_pos_of_mem ha) (List.length_pos_of_mem hb)
  omega
theorem all_le {A B : List E} (hA : Rise A) (hB : Rise B) (h : 0 < A.length → 0 < B.length → (A.getD (A.length - 1) (0, 0)).2 ≤ (B.getD 0 (0, 0)).2) : ∀ a ∈ A, ∀ b ∈ B, a.2 ≤ b.2 := by
  intro a ha b hb
  have h1 := rise_last hA (i := A.length - 1) (by have := List.length_pos_of_mem ha; omega) a ha
  have h2 := rise_head hB b hb
  have := h (List.length_pos_of_mem ha) (List.length_pos_of_mem hb)
  omega
/-- Two rising rows, each cut in two; the middle ones change places; both halves are put in order. -/
theorem merged {X1 X2 Y1 Y2 Z1 Z2 : List E} (hX : Rise (X1 ++ X2)) (hY : Rise (Y1 ++ Y2)) (hlt : ∀ b ∈ X2, ∀ a ∈ Y1, a.2 < b.2) (hle : ∀ a ∈ X1, ∀ b ∈ Y2, a.2 ≤ b.2)
    (h1 : Rise Z1) (f1 : Fl (X1 ++ Y1) Z1) (h2 : Rise Z2) (f2 : Fl (X2 ++ Y2) Z2) : Rise (Z1 ++ Z2) ∧ Fl (X1 ++ X2 ++ (Y1 ++ Y2)) (Z1 ++ Z2) := by
  obtain ⟨_, _, hx⟩ := rise_app.1 hX
  obtain ⟨_, _, hy⟩ := rise_app.1 hY
  refine ⟨rise_app.2 ⟨h1, h2, ?_⟩, ?_⟩
  · intro a ha b hb
    rcases List.mem_append.1 (f1.mem ha) with ha | ha <;> rcases List.mem_append.1 (f2.mem hb) with hb | hb
    · exact hx a ha b hb
    · exact hle a ha b hb
    · exact Nat.le_of_lt (hlt b hb a ha)
    · exact hy a ha b hb
  · have h3 : Fl (X1 ++ X2 ++ (Y1 ++ Y2)) (X1 ++ Y1 ++ (X2 ++ Y2)) := by
      have e1 : X1 ++ X2 ++ (Y1 ++ Y2) = X1 ++ (X2 ++ Y1) ++ Y2 := by simp
      have e2 : X1 ++ Y1 ++ (X2 ++ Y2) = X1 ++ (Y1 ++ X2) ++ Y2 := by simp
      rw [e1, e2]
      exact Fl.mid (Fl.turn hlt)
    exact h3.trans (f1.app f2)
/-- Rows of so many entries, each rising, and one behind them that is shorter. -/
def Ch (s : Nat) (L : List E) : Prop := ∃ (Ls : List (List E)) (X : List E), L = Ls.flatten ++ X ∧ (∀ Y ∈ Ls, Y.length = s ∧ Rise Y) ∧ X.length < s ∧ Rise X
def Full (s : Nat) (L : List E) : Prop := ∃ Ls : List (List E), L = Ls.flatten ∧ ∀ Y ∈ Ls, Y.length = s ∧ Rise Y
theorem Full.nil (s : Nat) : Full s [] := ⟨[], rfl, by simp⟩
theorem Full.snoc {s : Nat} {L Y : List E} (h : Full s L) (hl : Y.length = s) (hr : Rise Y) : Full s (L ++ Y) := by
  obtain ⟨Ls, rfl, h2⟩ := h
  refine ⟨Ls ++ [Y], by simp, ?_⟩
  intro Z hZ
  rcases List.mem_append.1 hZ with hZ | hZ
  · exact h2 Z hZ
  · rw [List.mem_singleton] at hZ
    subst hZ
    exact ⟨hl, hr⟩
theorem Full.end_ {s : Nat} {L X : List E} (h : Full s L) (hl : X.length < s) (hr : Rise X) : Ch s (L ++ X) := by
  obtain ⟨Ls, rfl, h2⟩ := h
  exact ⟨Ls, X, rfl, h2, hl, hr⟩
theorem Ch.two {s : Nat} {L : List E} (h : Ch s L) (hl : 2 * s ≤ L.length) : ∃ Y1 Y2 R, L = Y1 ++ Y2 ++ R ∧ Y1.length = s ∧ Rise Y1 ∧ Y2.length = s ∧ Rise Y2 ∧ Ch s R := by
  obtain ⟨Ls, X, rfl, h2, h3, h4⟩ := h
  match Ls with
  | [] => simp at hl; omega
  | [Y] => have := h2 Y (by simp); simp at hl; omega
  | Y1 :: Y2 :: Ls =>
    have a := h2 Y1 (by simp)
    have b := h2 Y2 (by simp)
    exact ⟨Y1, Y2, Ls.flatten ++ X, by simp, a.1, a.2, b.1, b.2, Ls, X, rfl, fun Y hY => h2 Y (by simp [hY]), h3, h4⟩
theorem Ch.one {s : Nat} {L : List E} (h : Ch s L) (hl : L.length < 2 * s) (hg : s < L.length) : ∃ Y1 Y2, L = Y1 ++ Y2 ∧ Y1.length = s ∧ Rise Y1 ∧ Rise Y2 := by
  obtain ⟨Ls, X, rfl, h2, h3, h4⟩ := h
  match Ls with
  | [] => simp at hg; omega
  | [Y] => have a := h2 Y (by simp); exact ⟨Y, X, by simp, a.1, a.2, h4⟩
  | Y1 :: Y2 :: Ls =>
    have a := h2 Y1 (by simp)
    have b := h2 Y2 (by simp)
    simp at hl
    omega
theorem Ch.rise {s : Nat} {L : List E} (h : Ch s L) (hl : L.length ≤ s) : Rise L := by
  obtain ⟨Ls, X, rfl, h2, h3, h4⟩ := h
  match Ls with
  | [] => simpa using h4
  | [Y] =>
    have a := h2 Y (by simp)
    simp at hl
    have : X = [] := List.eq_nil_of_length_eq_zero (by omega)
    subst this
    simpa using a.2
  | Y1 :: Y2 :: Ls =>
    have a := h2 Y1 (by simp)
    have b := h2 Y2 (by simp)
    simp at hl
    have : s = 0 := by omega
    omega
end Go.Proofs.YtgaofnmgdefdcaaGreatDoor.St

namespace Go.Proofs.YtgaofnmgdefdcaaGreatDoor.Ss
open Go.RowKit Go.Proofs.YtgaofnmgdefdcaaGreatDoor.Gen Go.Proofs.YtgaofnmgdefdcaaGreatDoor.Hr Go.Proofs.YtgaofnmgdefdcaaGreatDoor.Hz Go.Proofs.YtgaofnmgdefdcaaGreatDoor.St

/-- Entries in a block, and what lies behind them. -/
def Row (w : World) (g : Nat) (L : List E) (T : List Value) : Prop := Blk w g 87 (evs L ++ T).toArray
section
variable {S : Nat → Prop} {w w1 : World} {g j : Nat} {L : List E} {T : List Value}
theorem Row.lt (h : Row w g L T) : g < w.heap.size := Blk.lt h
theorem Row.keeps (h : Row w g L T) (k : Keeps S w w1) (hn : ¬ S g) : Row w1 g L T := Blk.keeps h k hn
theorem Row.drew (h : Row w g L T) : Row w.drew g L T := h
theorem Row.frozen (h : Row w g L T) (i : Nat) : w.frozen? ⟨g, i, none⟩ = false := Blk.frozen h i
theorem Row.at0 (h : Row w g L T) (hj : j < L.length) : w.cell? ⟨g, j * 2, none⟩ = some (.int .i64 (L.getD j (0, 0)).1) := by
  rw [Blk.cell h, List.getElem?_toArray, List.getElem?_append_left (by rw [evs_len]; omega), evs_get0 L j hj]
theorem Row.at1 (h : Row w g L T) (hj : j < L.length) : w.cell? ⟨g, j * 2 + 1, none⟩ = some (.int .i64 ((L.getD j (0, 0)).2 : Int)) := by
  rw [Blk.cell h, List.getElem?_toArray, List.getElem?_append_left (by rw [evs_len]; omega), evs_get1 L j hj]
theorem Row.set (h : Row w g L T) (hj : j < L.length) (x : E) : Row ((w.setCell ⟨g, j * 2, none⟩ (.int .i64 x.1)).setCell ⟨g, j * 2 + 1, none⟩ (.int .i64 (x.2 : Int))) g (L.set j x) T := by
  have h1 := (Blk.setCell h (j * 2) (.int .i64 x.1)).setCell (j * 2 + 1) (.int .i64 (x.2 : Int))
  rw [List.setIfInBounds_toArray, List.setIfInBounds_toArray, List.set_append_left _ _ (by rw [evs_len]; omega), List.set_append_left _ _ (by rw [List.length_set, evs_len]; omega), evs_set] at h1
  exact h1
end
/-- Two entries change places. -/
theorem exch {A B C : List E} {x y : E} : ((A ++ x :: (B ++ y :: C)).set A.length y).set (A.length + 1 + B.length) x = A ++ y :: (B ++ x :: C) := by
  rw [List.set_append_right _ _ (by omega), Nat.sub_self, List.set_cons_zero, List.set_append_right _ _ (by omega)]
  rw [show A.length + 1 + B.length - A.length = B.length + 1 by omega, List.set_cons_succ, List.set_append_right _ _ (by omega), Nat.sub_self, List.set_cons_zero]
theorem getD_mid {A B : List E} {x : E} : (A ++ x :: B).getD A.length (0, 0) = x := by simp [List.getD_eq_getElem?_getD]
theorem getD_mid_n {A B : List E} {x : E} {n : Nat} (h : A.length = n) : (A ++ x :: B).getD n (0, 0) = x := by subst h; exact getD_mid
/-- Two places of a row, the cells of each, and what an exchange leaves. -/
theorem Row.two {w : World} {g p q : Nat} {A B C : List E} {x y : E} {T : List Value} (h : Row w g (A ++ x :: (B ++ y :: C)) T) (hp : A.length = p) (hq : p + 1 + B.length = q) :
    (w.cell? ⟨g, p * 2, none⟩ = some (.int .i64 x.1) ∧ w.cell? ⟨g, p * 2 + 1, none⟩ = some (.int .i64 (x.2 : Int)) ∧ w.cell? ⟨g, q * 2, none⟩ = some (.int .i64 y.1) ∧ w.cell? ⟨g, q * 2 + 1, none⟩ = some (.int .i64 (y.2 : Int))) ∧
    Row ((((w.setCell ⟨g, p * 2, none⟩ (.int .i64 y.1)).setCell ⟨g, p * 2 + 1, none⟩ (.int .i64 (y.2 : Int))).setCell ⟨g, q * 2, none⟩ (.int .i64 x.1)).setCell ⟨g, q * 2 + 1, none⟩ (.int .i64 (x.2 : Int))) g (A ++ y :: (B ++ x :: C)) T ∧
    Row ((((w.setCell ⟨g, q * 2, none⟩ (.int .i64 x.1)).setCell ⟨g, q * 2 + 1, none⟩ (.int .i64 (x.2 : Int))).setCell ⟨g, p * 2, none⟩ (.int .i64 y.1)).setCell ⟨g, p * 2 + 1, none⟩ (.int .i64 (y.2 : Int))) g (A ++ y :: (B ++ x :: C)) T := by
  have hl : (A ++ x :: (B ++ y :: C)).length = p + 1 + B.length + 1 + C.length := by simp; omega
  have e1 : (A ++ x :: (B ++ y :: C)).getD p (0, 0) = x := getD_mid_n hp
  have e2 : (A ++ x :: (B ++ y :: C)).getD q (0, 0) = y := by
    have : A ++ x :: (B ++ y :: C) = (A ++ x :: B) ++ y :: C := by simp
    rw [this]
    exact getD_mid_n (by simp; omega)
  have h0 := h.at0 (j := p) (by omega)
  have h1 := h.at1 (j := p) (by omega)
  have h2 := h.at0 (j := q) (by omega)
  have h3 := h.at1 (j := q) (by omega)
  rw [e1] at h0 h1
  rw [e2] at h2 h3
  have h4 := (h.set (j := p) (by omega) y).set (j := q) (by rw [List.length_set]; omega) x
  have h5 := (h.set (j := q) (by omega) x).set (j := p) (by rw [List.length_set]; omega) y
  rw [List.set_comm _ _ (by omega)] at h5
  subst hp
  rw [← hq, exch] at h4 h5
  rw [← hq]
  refine ⟨⟨h0, h1, ?_, ?_⟩, h4, h5⟩
  · rw [hq]; exact h2
  · rw [hq]; exact h3

/-- One more of each has changed places. -/
theorem swap_step {P A0 A1 M B0 B1 Q : List E} {x y : E} : P ++ B0 ++ (x :: A1) ++ M ++ A0 ++ (y :: B1) ++ Q = (P ++ B0) ++ x :: ((A1 ++ M ++ A0) ++ y :: (B1 ++ Q)) ∧ (P ++ B0) ++ y :: ((A1 ++ M ++ A0) ++ x :: (B1 ++ Q)) = P ++ (B0 ++ [y]) ++ A1 ++ M ++ (A0 ++ [x]) ++ B1 ++ Q := by simp

set_option maxHeartbeats 4000000 in
set_option maxRecDepth 4000 in
theorem swapRange_ (g n c a b k : Nat) (F : Value) (P A M B Q : List E) (T : List Value) (w : World) (h : Row w g (P ++ A ++ M ++ B ++ Q) T) (hn : (P ++ A ++ M ++ B ++ Q).length = n) (hs : n ≤ 100000) (ha : P.length = a) (hA : A.length = k) (hb : a + k + M.length = b) (hB : B.length = k) :
    Calls Tryz.prog 144 #[.slice (some ⟨g, 0, none⟩) n c, .int .i64 (a : Int), .int .i64 (b : Int), .int .i64 (k : Int), F] w fun r w' => r = .returned (.tuple #[]) ∧ Keeps (· = g) w w' ∧ Row w' g (P ++ B ++ M ++ A ++ Q) T := by
  have HR := Lib.hid h
  have hbn : b + k ≤ n := by simp at hn; omega
  have HA := Lib.hid ha
  have HAL := Lib.hid hA
  have HBL := Lib.hid hB
  have HB := Lib.hid hb
  clear h hn ha hA hB hb
  go_enter Tryz.func144, Tryz.ntmps144
  go_wp2
  go_loopw [10] (fun i wr => ∃ d : Nat, d ≤ k ∧ i = .int .i64 (d : Int) ∧ Row wr g (P ++ B.take d ++ A.drop d ++ M ++ A.take d ++ B.drop d ++ Q) T ∧ Keeps (· = g) w wr) (fun i _ => k - (intOf i).toNat)
  case atStart => exact ⟨0, by omega, rfl, by simpa using HR.out, Keeps.refl _ _⟩
  case round =>
    obtain ⟨d, hd, rfl, hrow, hk⟩ := hrel
    have HRW := Lib.hid hrow
    have HK := Lib.hid hk
    clear hrow hk
    by_cases hlt : d < k
    · obtain ⟨x, A1, hx⟩ : ∃ x A1, A.drop d = x :: A1 := ⟨_, _, List.drop_eq_getElem_cons (by rw [HAL.out]; exact hlt)⟩
      obtain ⟨y, B1, hy⟩ : ∃ y B1, B.drop d = y :: B1 := ⟨_, _, List.drop_eq_getElem_cons (by rw [HBL.out]; exact hlt)⟩
      have HX : Hid (A.take (d + 1) = A.take d ++ [x] ∧ A.drop (d + 1) = A1) := by
        have h1 : A = A.take d ++ x :: A1 := by rw [← hx, List.take_append_drop]
        have hl : (A.take d).length = d := by rw [List.length_take, HAL.out]; omega
        constructor
        · conv => lhs; rw [h1]
          rw [List.take_append, hl, List.take_of_length_le (by omega)]; simp
        · conv => lhs; rw [h1]
          rw [List.drop_append, hl, List.drop_of_length_le (by omega)]; simp
      have HY : Hid (B.take (d + 1) = B.take d ++ [y] ∧ B.drop (d + 1) = B1) := by
        have h1 : B = B.take d ++ y :: B1 := by rw [← hy, List.take_append_drop]
        have hl : (B.take d).length = d := by rw [List.length_take, HBL.out]; omega
        constructor
        · conv => lhs; rw [h1]
          rw [List.take_append, hl, List.take_of_length_le (by omega)]; simp
        · conv => lhs; rw [h1]
          rw [List.drop_append, hl, List.drop_of_length_le (by omega)]; simp
      have h1 := HRW.out
      rw [hx, hy, swap_step.1] at h1
      obtain ⟨p, hp⟩ : ∃ p, p = a + d := ⟨_, rfl⟩
      obtain ⟨q, hq⟩ : ∃ q, q = b + d := ⟨_, rfl⟩
      have hA1 : A1.length = k - d - 1 := by
        have := congrArg List.length hx
        rw [List.length_drop, HAL.out] at this
        simp at this
        omega
      obtain ⟨⟨hc0, hc1, hc2, hc3⟩, hset, _⟩ := h1.two (p := p) (q := q) (by simp [HA.out, HBL.out]; omega) (by simp [HAL.out, hA1]; have := HB.out; omega)
      rw [swap_step.2, ← HX.out.1, ← HY.out.1] at hset
      rw [← HX.out.2, ← HY.out.2] at hset
      have HSET := Lib.hid hset
      have HKS := Lib.hid ((((HK.out.setOwn (p * 2) (.int .i64 y.1)).setOwn (p * 2 + 1) (.int .i64 (y.2 : Int))).setOwn (q * 2) (.int .i64 x.1)).setOwn (q * 2 + 1) (.int .i64 (x.2 : Int)))
      have hf0 := h1.frozen (p * 2)
      have hf1 := h1.frozen (p * 2 + 1)
      have hf2 := h1.frozen (q * 2)
      have hf3 := h1.frozen (q * 2 + 1)
      have hpq : p < q := by have := HB.out; omega
      have hpi : (a : Int) + (d : Int) = (p : Int) := by omega
      have hqi : (b : Int) + (d : Int) = (q : Int) := by omega
      have hp0 : (p : Int) < (n : Int) := by omega
      have hq0 : (q : Int) < (n : Int) := by omega
      obtain ⟨x1, x2⟩ := x
      obtain ⟨y1, y2⟩ := y
      simp only at hc0 hc1 hc2 hc3 HSET HKS
      clear hx hy h1 hset hp hq hA1 HX HY HRW
      go_wp2_with fail
      go_big_region
      all_goals go_wp2
      exact ⟨⟨d + 1, by omega, by go_num, HSET.out.drew, HKS.out.drewN 1⟩, by simp [intOf]; omega⟩
    · obtain rfl : d = k := by omega
      go_wp2
      go_end0
      refine ⟨rfl, HK.out, ?_⟩
      have h1 := HRW.out
      rw [List.take_of_length_le (by rw [HBL.out]; omega), List.drop_of_length_le (by rw [HAL.out]; omega), List.take_of_length_le (by rw [HAL.out]; omega), List.drop_of_length_le (by rw [HBL.out]; omega)] at h1
      simpa using h1

set_option maxHeartbeats 4000000 in
set_option maxRecDepth 4000 in
theorem rotate_ (g n c a m b : Nat) (F : Value) (P X Y Q : List E) (T : List Value) (w : World) (h : Row w g (P ++ X ++ Y ++ Q) T) (hn : (P ++ X ++ Y ++ Q).length = n) (hs : n ≤ 100000) (ha : P.length = a) (hm : a + X.length = m) (hb : m + Y.length = b) (hX : 0 < X.length) (hY : 0 < Y.length) :
    Calls Tryz.prog 137 #[.slice (some ⟨g, 0, none⟩) n c, .int .i64 (a : Int), .int .i64 (m : Int), .int .i64 (b : Int), F] w fun r w' => r = .returned (.tuple #[]) ∧ Keeps (· = g) w w' ∧ Row w' g (P ++ Y ++ X ++ Q) T := by
  have HR := Lib.hid h
  have hbn : b ≤ n := by simp at hn; omega
  have HN := Lib.hid hn
  have HA := Lib.hid ha
  have HM := Lib.hid hm
  have HB := Lib.hid hb
  have ham : a < m := by omega
  have hmb : m < b := by omega
  clear h hn ha hm hb hX hY
  go_enter Tryz.func137, Tryz.ntmps137
  go_wp2
  go_loopw [10, 11] (fun iv jv wr => ∃ (i j : Nat) (P' X' Y' Q' : List E), iv = .int .i64 (i : Int) ∧ jv = .int .i64 (j : Int) ∧ 0 < i ∧ 0 < j ∧ X'.length = i ∧ Y'.length = j ∧ P'.length + i = m ∧ P' ++ Y' ++ X' ++ Q' = P ++ Y ++ X ++ Q ∧ Row wr g (P' ++ X' ++ Y' ++ Q') T ∧ Keeps (· = g) w wr) (fun iv jv _ => (intOf iv).toNat + (intOf jv).toNat)
  case atStart => exact ⟨X.length, Y.length, P, X, Y, Q, by have := HM.out; go_num, by have := HB.out; go_num, by have := HM.out; omega, by have := HB.out; omega, rfl, rfl, by have := HM.out; have := HA.out; omega, rfl, HR.out, Keeps.refl _ _⟩
  case round =>
    obtain ⟨i, j, P', X', Y', Q', rfl, rfl, hi, hj, hXl, hYl, hPl, heq, hrow, hk⟩ := hrel
    have hlen : (P' ++ X' ++ Y' ++ Q').length = n := by
      have h1 := congrArg List.length heq
      have h2 := HN.out
      simp at h1 h2 ⊢
      omega
    have HLN := Lib.hid hlen
    have hjn : m + j ≤ n := by simp at hlen; omega
    have HXL := Lib.hid hXl
    have HYL := Lib.hid hYl
    have HPL := Lib.hid hPl
    have HEQ := Lib.hid heq
    have HRW := Lib.hid hrow
    have HK := Lib.hid hk
    have him : i ≤ m := by omega
    obtain ⟨p, hp⟩ : ∃ p, p = m - i := ⟨_, rfl⟩
    have hpi : (m : Int) - (i : Int) = (p : Int) := by omega
    have HP : Hid (P'.length = p) := by show P'.length = p; omega
    clear hXl hYl hPl heq hrow hk hlen hp
    rcases Nat.lt_trichotomy i j with hij | hij | hij
    · -- the left one is the shorter
      obtain ⟨q, hq⟩ : ∃ q, q = m + j - i := ⟨_, rfl⟩
      have hqi : (m : Int) + (j : Int) - (i : Int) = (q : Int) := by omega
      obtain ⟨M, B, hY, hM⟩ : ∃ M B, M ++ B = Y' ∧ M.length = j - i := ⟨_, _, List.take_append_drop (j - i) Y', by rw [List.length_take, HYL.out]; omega⟩
      have hB : B.length = i := by have h1 := congrArg List.length hY; rw [List.length_append, hM, HYL.out] at h1; omega
      have HM' := Lib.hid hM
      have HBL := Lib.hid hB
      have HY := Lib.hid hY
      have HRW2 : Hid (Row wr g (P' ++ X' ++ M ++ B ++ Q') T) := by
        have h1 := HRW.out
        rw [← hY] at h1
        show Row _ _ _ _
        simpa using h1
      have HN2 : Hid ((P' ++ X' ++ M ++ B ++ Q').length = n) := by
        have h1 := HLN.out
        rw [← hY] at h1
        show List.length _ = n
        rw [← h1]
        simp
      have HQ : Hid (p + i + M.length = q) := by show _ = _; omega
      clear hY hM hB hq HRW HLN
      go_wp2_with (
        refine (swapRange_ g n c p q i F P' X' M B Q' T wr HRW2.out HN2.out hs HP.out HXL.out HQ.out HBL.out).mono ?_
        rintro e w1 ⟨rfl, hk1, hr1⟩
        have HK1 := Lib.hid (HK.out.trans hk1)
        have HR1 := Lib.hid hr1
        clear hk1 hr1)
      refine ⟨⟨i, j - i, P', B, M, X' ++ Q', rfl, by go_num, hi, by omega, HBL.out, HM'.out, by have := HP.out; omega, ?_, ?_, HK1.out⟩, ?_⟩
      · rw [← HEQ.out, ← HY.out]
        simp
      · have h1 := HR1.out
        simpa using h1
      · simp [intOf]
        omega
    · subst hij
      have HRW2 : Hid (Row wr g (P' ++ X' ++ [] ++ Y' ++ Q') T) := by
        have h1 := HRW.out
        show Row _ _ _ _
        simpa using h1
      have HN2 : Hid ((P' ++ X' ++ [] ++ Y' ++ Q').length = n) := by
        have h1 := HLN.out
        show List.length _ = n
        rw [← h1]
        simp
      have HQ : Hid (p + i + ([] : List E).length = m) := by show _ = _; simp; omega
      clear HRW HLN
      go_wp2_with (
        refine (swapRange_ g n c p m i F P' X' [] Y' Q' T wr HRW2.out HN2.out hs HP.out HXL.out HQ.out HYL.out).mono ?_
        rintro e w1 ⟨rfl, hk1, hr1⟩
        have HK1 := Lib.hid (HK.out.trans hk1)
        have HR1 := Lib.hid hr1
        clear hk1 hr1)
      go_end0
      refine ⟨rfl, HK1.out, ?_⟩
      rw [← HEQ.out]
      have h1 := HR1.out
      simpa using h1
    · -- the right one is
      obtain ⟨A, M, hX, hA⟩ : ∃ A M, A ++ M = X' ∧ A.length = j := ⟨_, _, List.take_append_drop j X', by rw [List.length_take, HXL.out]; omega⟩
      have hM : M.length = i - j := by have h1 := congrArg List.length hX; rw [List.length_append, hA, HXL.out] at h1; omega
      have HM' := Lib.hid hM
      have HAL := Lib.hid hA
      have HX := Lib.hid hX
      have HRW2 : Hid (Row wr g (P' ++ A ++ M ++ Y' ++ Q') T) := by
        have h1 := HRW.out
        rw [← hX] at h1
        show Row _ _ _ _
        simpa using h1
      have HN2 : Hid ((P' ++ A ++ M ++ Y' ++ Q').length = n) := by
        have h1 := HLN.out
        rw [← hX] at h1
        show List.length _ = n
        rw [← h1]
        simp
      have HQ : Hid (p + j + M.length = m) := by show _ = _; omega
      clear hX hA hM HRW HLN
      go_wp2_with (
        refine (swapRange_ g n c p m j F P' A M Y' Q' T wr HRW2.out HN2.out hs HP.out HAL.out HQ.out HYL.out).mono ?_
        rintro e w1 ⟨rfl, hk1, hr1⟩
        have HK1 := Lib.hid (HK.out.trans hk1)
        have HR1 := Lib.hid hr1
        clear hk1 hr1)
      refine ⟨⟨i - j, j, P' ++ Y', M, A, Q', by go_num, rfl, by omega, hj, HM'.out, HAL.out, by rw [List.length_append, HYL.out]; have := HP.out; omega, ?_, ?_, HK1.out⟩, ?_⟩
      · rw [← HEQ.out, ← HX.out]
        simp
      · have h1 := HR1.out
        simpa using h1
      · simp [intOf]
        omega
end Go.Proofs.YtgaofnmgdefdcaaGreatDoor.Ss
