/- Bytes in four quarters, each byte by the one ahead of it; by four states, there and back: plain data. -/
import Derived.Test.YtnanmenoemajfaaRnTab
namespace Go.Proofs.Ytnanmenoemajfaa.Ch
open Go.Proofs.Ytnanmenoemajfaa.Gen Go.Proofs.Ytnanmenoemajfaa.Wr Go.Proofs.Ytnanmenoemajfaa.Ww Go.Proofs.Ytnanmenoemajfaa.It Go.Proofs.Ytnanmenoemajfaa.Ir Go.Proofs.Ytnanmenoemajfaa.Ib Go.Proofs.Ytnanmenoemajfaa.Fq Go.Proofs.Ytnanmenoemajfaa.Fb Go.Proofs.Ytnanmenoemajfaa.Rp

/-- Where a quarter begins; how many it has. -/
def qo (n : Nat) : Nat → Nat
  | 0 => 0
  | 1 => n / 4
  | 2 => n / 2
  | 3 => n / 2 + n / 4
  | _ => n
def ql (n i : Nat) : Nat := qo n (i + 1) - qo n i
theorem q4 {i : Nat} (h : i < 4) : i = 0 ∨ i = 1 ∨ i = 2 ∨ i = 3 := by omega
theorem qo_next (n : Nat) {i : Nat} (h : i < 4) : qo n i + ql n i = qo n (i + 1) := by
  rcases q4 h with rfl | rfl | rfl | rfl <;> simp only [ql, qo] <;> omega
theorem qo_le (n : Nat) {i : Nat} (h : i ≤ 4) : qo n i ≤ n := by
  rcases (by omega : i = 4 ∨ i < 4) with rfl | h
  · simp [qo]
  · rcases q4 h with rfl | rfl | rfl | rfl <;> simp only [qo] <;> omega
theorem ql_le (n : Nat) {i : Nat} (h : i < 4) : ql n i ≤ ql n 3 := by
  rcases q4 h with rfl | rfl | rfl | rfl <;> simp only [ql, qo] <;> omega
theorem ql_end (n : Nat) {i : Nat} (h : i < 4) : qo n i + ql n i ≤ n := by
  rw [qo_next n h]; exact qo_le n (by omega)
/-- At a step a quarter's place is on, if it has it. -/
def pos (n t : Nat) : Nat := qo n (t % 4) + t / 4
def Val (n t : Nat) : Prop := t / 4 < ql n (t % 4)
instance (n t : Nat) : Decidable (Val n t) := by unfold Val; exact inferInstance
theorem pos_lt {n t : Nat} (h : Val n t) : pos n t < n := by
  unfold Val at h
  unfold pos
  have := ql_end n (i := t % 4) (by omega)
  omega
/-- At which step a place's turn is. -/
def stp (n p : Nat) : Nat := if p < qo n 1 then 4 * p else if p < qo n 2 then 4 * (p - qo n 1) + 1 else if p < qo n 3 then 4 * (p - qo n 2) + 2 else 4 * (p - qo n 3) + 3
theorem stp_at {n i d : Nat} (hi : i < 4) (hd : d < ql n i) : stp n (qo n i + d) = 4 * d + i := by
  unfold stp
  rcases q4 hi with rfl | rfl | rfl | rfl
  all_goals
    simp only [ql, qo] at hd ⊢
    repeat' split
    all_goals omega
theorem step_eq (t : Nat) : 4 * (t / 4) + t % 4 = t := by omega
theorem stp_pos {n t : Nat} (h : Val n t) : stp n (pos n t) = t := by
  unfold pos
  rw [stp_at (by omega) h, step_eq]
theorem place_of {n p : Nat} (h : p < n) : ∃ i d, i < 4 ∧ d < ql n i ∧ p = qo n i + d := by
  by_cases h1 : p < qo n 1
  · exact ⟨0, p, by omega, by simp only [ql, qo] at h1 ⊢; omega, by simp [qo]⟩
  · by_cases h2 : p < qo n 2
    · exact ⟨1, p - qo n 1, by omega, by simp only [ql, qo] at h1 h2 ⊢; omega, by omega⟩
    · by_cases h3 : p < qo n 3
      · exact ⟨2, p - qo n 2, by omega, by simp only [ql, qo] at h1 h2 h3 ⊢; omega, by omega⟩
      · exact ⟨3, p - qo n 3, by omega, by simp only [ql, qo] at h1 h2 h3 ⊢; omega, by omega⟩
theorem pos_at {n i d : Nat} (hi : i < 4) : pos n (4 * d + i) = qo n i + d := by
  unfold pos
  rw [show (4 * d + i) % 4 = i by omega, show (4 * d + i) / 4 = d by omega]
theorem val_at {n i d : Nat} (hi : i < 4) : Val n (4 * d + i) ↔ d < ql n i := by
  unfold Val
  rw [show (4 * d + i) % 4 = i by omega, show (4 * d + i) / 4 = d by omega]
theorem pos_stp {n p : Nat} (h : p < n) : Val n (stp n p) ∧ pos n (stp n p) = p := by
  obtain ⟨i, d, hi, hd, rfl⟩ := place_of h
  rw [stp_at hi hd]
  exact ⟨(val_at hi).2 hd, pos_at hi⟩
theorem stp_lt {n p : Nat} (h : p < n) : stp n p < 4 * ql n 3 := by
  obtain ⟨i, d, hi, hd, rfl⟩ := place_of h
  rw [stp_at hi hd]
  have := ql_le n hi
  omega
/-- The place ahead of one that isn't its quarter's first. -/
theorem pos_ahead {n t : Nat} (h : Val n t) (h0 : t / 4 ≠ 0) : Val n (t - 4) ∧ pos n (t - 4) = pos n t - 1 ∧ 1 ≤ pos n t ∧ 4 ≤ t := by
  unfold Val at h ⊢
  unfold pos
  rw [show (t - 4) % 4 = t % 4 by omega, show (t - 4) / 4 = t / 4 - 1 by omega]
  exact ⟨by omega, by omega, by omega, by omega⟩
/-- The byte ahead. -/
def cx (n : Nat) (b : List Int) (t : Nat) : Int := if t / 4 = 0 then 0 else b.getD (pos n t - 1) 0
theorem cx_byte {n t : Nat} {b : List Int} (hb : ∀ x ∈ b, 0 ≤ x ∧ x < 256) : 0 ≤ cx n b t ∧ cx n b t < 256 := by
  unfold cx
  split
  · omega
  · by_cases h : pos n t - 1 < b.length
    · exact hb _ (getD_mem h)
    · rw [List.getD, List.getElem?_eq_none (by omega)]; simp
/-- Bytes by their tables, the last step first: the states, and what went out, the last first. -/
def encC (tb : Nat → List Int) (n : Nat) (b : List Int) (F : List Nat) : Nat → Nat → List Nat × List Int
  | 0, _ => (F, [])
  | k + 1, t =>
    if Val n t then
      ((encC tb n b F k (t + 1)).1.set (t % 4) (push (stt (tb (cx n b t).toNat) (b.getD (pos n t) 0)) (prt (tb (cx n b t).toNat) (b.getD (pos n t) 0)) ((encC tb n b F k (t + 1)).1.getD (t % 4) 0)),
       (gone (prt (tb (cx n b t).toNat) (b.getD (pos n t) 0)) ((encC tb n b F k (t + 1)).1.getD (t % 4) 0)).reverse ++ (encC tb n b F k (t + 1)).2)
    else encC tb n b F k (t + 1)
theorem encC_skip {tb : Nat → List Int} {n : Nat} {b : List Int} {F : List Nat} {k t : Nat} (h : ¬ Val n t) : encC tb n b F (k + 1) t = encC tb n b F k (t + 1) := by rw [encC, if_neg h]
theorem encC_next {tb : Nat → List Int} {n : Nat} {b : List Int} {F : List Nat} {k t s : Nat} {l : List Int} {c : Int} (h : Val n t) (hl : tb (cx n b t).toNat = l) (hc : b.getD (pos n t) 0 = c) (hs : (encC tb n b F k (t + 1)).1.getD (t % 4) 0 = s) :
    encC tb n b F (k + 1) t = ((encC tb n b F k (t + 1)).1.set (t % 4) (push (stt l c) (prt l c) s), (gone (prt l c) s).reverse ++ (encC tb n b F k (t + 1)).2) := by
  rw [encC, if_pos h, hl, hc, hs]
/-- Each step's byte has parts in its table. -/
def Good (tb : Nat → List Int) (n : Nat) (b : List Int) : Prop := ∀ t, Val n t → Tb (tb (cx n b t).toNat) ∧ Rp.Has (tb (cx n b t).toNat) (b.getD (pos n t) 0)
theorem encC_in {tb : Nat → List Int} {n : Nat} {b : List Int} (h : Good tb n b) {F : List Nat} (hF : St F) : ∀ (k t : Nat), St (encC tb n b F k t).1 ∧ (encC tb n b F k t).2.length ≤ 2 * k ∧ ∀ x ∈ (encC tb n b F k t).2, 0 ≤ x ∧ x < 256
  | 0, t => ⟨hF, by simp [encC], by simp [encC]⟩
  | k + 1, t => by
    obtain ⟨h1, h2, h3⟩ := encC_in h hF k (t + 1)
    by_cases hv : Val n t
    · obtain ⟨g1, g2⟩ := h t hv
      obtain ⟨h4, h5, h6⟩ := has_part g1 g2
      rw [encC_next hv rfl rfl rfl]
      refine ⟨h1.set _ (push_in (h1.at_ t) h4 h5).1, ?_, ?_⟩
      · have := gone_len (h1.at_ t) h4
        simp only [List.length_append, List.length_reverse]
        omega
      · intro x hx
        simp only [List.mem_append, List.mem_reverse] at hx
        rcases hx with hx | hx
        · exact gone_byte (h1.at_ t) h4 x hx
        · exact h3 x hx
    · rw [encC_skip hv]
      exact ⟨h1, by omega, h3⟩
/-- The places whose turn has been. -/
def part (n : Nat) (b : List Int) (t : Nat) : List Int := (List.range n).map fun p => if stp n p < t then b.getD p 0 else 0
theorem part_len (n : Nat) (b : List Int) (t : Nat) : (part n b t).length = n := by simp [part]
theorem part_get {n : Nat} {b : List Int} {t p : Nat} (h : p < n) : (part n b t)[p]? = some (if stp n p < t then b.getD p 0 else 0) := by
  simp only [part, List.getElem?_map, List.getElem?_range h, Option.map_some]
theorem part_at {n : Nat} {b : List Int} {t p : Nat} (h : p < n) : (part n b t).getD p 0 = if stp n p < t then b.getD p 0 else 0 := by
  rw [List.getD, part_get h]; rfl
theorem part_zero (n : Nat) (b : List Int) : part n b 0 = List.replicate n 0 := by
  apply List.ext_getElem?
  intro p
  by_cases h : p < n
  · rw [part_get h, if_neg (by omega), List.getElem?_replicate, if_pos h]
  · rw [List.getElem?_eq_none (by rw [part_len]; omega), List.getElem?_eq_none (by simp; omega)]
theorem part_all {n : Nat} {b : List Int} (hb : b.length = n) {t : Nat} (ht : 4 * ql n 3 ≤ t) : part n b t = b := by
  apply List.ext_getElem?
  intro p
  by_cases h : p < n
  · have := stp_lt h
    rw [part_get h, if_pos (by omega), List.getElem?_eq_getElem (by omega), List.getD, List.getElem?_eq_getElem (by omega)]
    rfl
  · rw [List.getElem?_eq_none (by rw [part_len]; omega), List.getElem?_eq_none (by omega)]
theorem part_set {n : Nat} {b : List Int} {t : Nat} (h : Val n t) : (part n b t).set (pos n t) (b.getD (pos n t) 0) = part n b (t + 1) := by
  apply List.ext_getElem?
  intro p
  by_cases hp : p < n
  · by_cases he : p = pos n t
    · subst he
      rw [List.getElem?_set_self (by rw [part_len]; exact hp), part_get hp, stp_pos h, if_pos (by omega)]
    · rw [List.getElem?_set_ne (Ne.symm he), part_get hp, part_get hp]
      have hne : stp n p ≠ t := fun e => he (by rw [← e]; exact (pos_stp hp).2.symm)
      congr 1
      by_cases hl : stp n p < t
      · rw [if_pos hl, if_pos (by omega)]
      · rw [if_neg hl, if_neg (by omega)]
  · rw [List.getElem?_eq_none (by rw [List.length_set, part_len]; omega), List.getElem?_eq_none (by rw [part_len]; omega)]
theorem part_skip {n : Nat} {b : List Int} {t : Nat} (h : ¬ Val n t) : part n b (t + 1) = part n b t := by
  apply List.ext_getElem?
  intro p
  by_cases hp : p < n
  · have hne : stp n p ≠ t := fun e => h (by rw [← e]; exact (pos_stp hp).1)
    rw [part_get hp, part_get hp]
    congr 1
    by_cases hl : stp n p < t
    · rw [if_pos hl, if_pos (by omega)]
    · rw [if_neg hl, if_neg (by omega)]
  · rw [List.getElem?_eq_none (by rw [part_len]; omega), List.getElem?_eq_none (by rw [part_len]; omega)]
theorem cx_part {n : Nat} {b : List Int} {t : Nat} (h : Val n t) : cx n (part n b t) t = cx n b t := by
  unfold cx
  split
  · rfl
  · next h0 =>
    obtain ⟨g1, g2, g3, g4⟩ := pos_ahead h h0
    have hp := pos_lt g1
    rw [← g2, part_at hp, stp_pos g1, if_pos (by omega)]
/-- A table, or none. -/
def tt (tb : Nat → Option (List Int)) (a : Nat) : List Int := (tb a).getD []
/-- Bytes taken by their tables. -/
def unpC (tb : Nat → Option (List Int)) (n : Nat) : Nat → Nat → List Int → List Nat → RS → List Int × List Nat × RS
  | 0, _, all, f, r => (all, f, r)
  | k + 1, t, all, f, r =>
    if Val n t then
      match tb (cx n all t).toNat with
      | none => ([], [0, 0, 0, 0], r.fail 11)
      | some l =>
        if r.e ≠ 0 then ([], [0, 0, 0, 0], r)
        else unpC tb n k (t + 1) (all.set (pos n t) (own l (f.getD (t % 4) 0 % 4096)))
          (f.set (t % 4) (takeS (stt l (own l (f.getD (t % 4) 0 % 4096))) (prt l (own l (f.getD (t % 4) 0 % 4096))) (f.getD (t % 4) 0) r).1)
          (takeS (stt l (own l (f.getD (t % 4) 0 % 4096))) (prt l (own l (f.getD (t % 4) 0 % 4096))) (f.getD (t % 4) 0) r).2
    else unpC tb n k (t + 1) all f r
theorem unpC_skip {tb : Nat → Option (List Int)} {n k t : Nat} {all : List Int} {f : List Nat} {r : RS} (h : ¬ Val n t) : unpC tb n (k + 1) t all f r = unpC tb n k (t + 1) all f r := by rw [unpC, if_neg h]
theorem unpC_none {tb : Nat → Option (List Int)} {n k t : Nat} {all : List Int} {f : List Nat} {r : RS} (h : Val n t) (hl : tb (cx n all t).toNat = none) : unpC tb n (k + 1) t all f r = ([], [0, 0, 0, 0], r.fail 11) := by rw [unpC, if_pos h, hl]
theorem unpC_err {tb : Nat → Option (List Int)} {n k t : Nat} {all : List Int} {f : List Nat} {r : RS} {l : List Int} (h : Val n t) (hl : tb (cx n all t).toNat = some l) (he : r.e ≠ 0) : unpC tb n (k + 1) t all f r = ([], [0, 0, 0, 0], r) := by
  rw [unpC, if_pos h, hl]
  simp only
  rw [if_pos he]
theorem unpC_next {tb : Nat → Option (List Int)} {n k t x y : Nat} {all : List Int} {f : List Nat} {r s : RS} {l : List Int} {c : Int} (h : Val n t) (hl : tb (cx n all t).toNat = some l) (he : r.e = 0) (hx : f.getD (t % 4) 0 = x) (hc : own l (x % 4096) = c) (hy : takeS (stt l c) (prt l c) x r = (y, s)) :
    unpC tb n (k + 1) t all f r = unpC tb n k (t + 1) (all.set (pos n t) c) (f.set (t % 4) y) s := by
  rw [unpC, if_pos h, hl]
  simp only
  rw [if_neg (by omega), hx, hc, hy]
/-- There is a table for each step. -/
def Full (tb : Nat → Option (List Int)) (n : Nat) (b : List Int) : Prop := ∀ t, Val n t → ∃ l, tb (cx n b t).toNat = some l
/-- What was put is taken. -/
theorem unpC_back {tb : Nat → Option (List Int)} {n : Nat} {b : List Int} (h : Good (tt tb) n b) (hf : Full tb n b) {F : List Nat} (hF : St F) {xs : List Int} : ∀ (k t kk : Nat) (R : List Int), xs.drop kk = (encC (tt tb) n b F k t).2 ++ R →
    unpC tb n k t (part n b t) (encC (tt tb) n b F k t).1 ⟨xs, kk, 0⟩ = (part n b (t + k), F, ⟨xs, kk + (encC (tt tb) n b F k t).2.length, 0⟩)
  | 0, t, kk, R, _ => by simp [unpC, encC]
  | k + 1, t, kk, R, hd => by
    by_cases hv : Val n t
    · obtain ⟨h1, _, _⟩ := encC_in h hF k (t + 1)
      obtain ⟨g1, g2⟩ := h t hv
      obtain ⟨l, hl⟩ := hf t hv
      have htl : tt tb (cx n b t).toNat = l := by rw [tt, hl]; rfl
      obtain ⟨c, hc⟩ : ∃ c, b.getD (pos n t) 0 = c := ⟨_, rfl⟩
      rw [htl, hc] at g2
      rw [htl] at g1
      obtain ⟨h4, h5, h6⟩ := has_part g1 g2
      have hI := h1.at_ t
      obtain ⟨s, hs⟩ : ∃ s, (encC (tt tb) n b F k (t + 1)).1.getD (t % 4) 0 = s := ⟨_, rfl⟩
      rw [hs] at hI
      obtain ⟨p1, p2, p3⟩ := push_in hI h4 h5
      have hm : kept (prt l c) s % prt l c < prt l c := Nat.mod_lt _ h4
      have hown : own l (push (stt l c) (prt l c) s % 4096) = c := h6 _ (by omega) (by omega)
      rw [encC_next hv htl hc hs] at hd ⊢
      simp only at hd ⊢
      rw [List.append_assoc] at hd
      have hst := step_back hI h4 h5 hd
      have ih := unpC_back h hf hF (xs := xs) k (t + 1) (kk + (gone (prt l c) s).length) R (by rw [← List.drop_drop, hd, show (gone (prt l c) s).length = (gone (prt l c) s).reverse.length by simp, List.drop_left])
      rw [unpC_next hv (by rw [cx_part hv]; exact hl) rfl (set_back h1.1 _) hown hst, List.set_set]
      have e3 : (encC (tt tb) n b F k (t + 1)).1.set (t % 4) s = (encC (tt tb) n b F k (t + 1)).1 := by
        have := set_same (i := t) h1.1 0
        rw [List.set_set, hs] at this
        exact this
      rw [e3, ← hc, part_set hv, hc, ih]
      simp [Nat.add_assoc, Nat.add_comm, Nat.add_left_comm]
    · rw [encC_skip hv] at hd ⊢
      have ih := unpC_back h hf hF (xs := xs) k (t + 1) kk R hd
      rw [unpC_skip hv, ← part_skip hv, ih, Nat.add_assoc, Nat.add_comm 1 k]
/-- Of any bytes: what is taken is put so. -/
theorem unpC_any {tb : Nat → Option (List Int)} (ht : ∀ a l, tb a = some l → Tb l) {n : Nat} {xs : List Int} (hb : ∀ z ∈ xs, 0 ≤ z ∧ z < 256) : ∀ (k t kk : Nat) (all : List Int) (f : List Nat), kk ≤ xs.length → St f → all.length = n → (∀ x ∈ all, 0 ≤ x ∧ x < 256) →
    (unpC tb n k t all f ⟨xs, kk, 0⟩).2.2.e = 0 → ∃ B F j, unpC tb n k t all f ⟨xs, kk, 0⟩ = (B, F, ⟨xs, kk + j, 0⟩) ∧ kk + j ≤ xs.length ∧ St F ∧ B.length = n ∧ (∀ x ∈ B, 0 ≤ x ∧ x < 256) ∧
      (∀ p, p < n → (stp n p < t ∨ t + k ≤ stp n p) → B.getD p 0 = all.getD p 0) ∧ encC (tt tb) n B F k t = (f, (xs.drop kk).take j)
  | 0, t, kk, all, f, hk, hf, ha, hab, _ => ⟨all, f, 0, rfl, hk, hf, ha, hab, fun _ _ _ => rfl, by simp [encC]⟩
  | k + 1, t, kk, all, f, hk, hf, ha, hab, he => by
    by_cases hv : Val n t
    · cases hl : tb (cx n all t).toNat with
      | none =>
        rw [unpC_none hv hl] at he
        exact absurd he (fail_ne (by decide))
      | some l =>
        obtain ⟨x, hx⟩ : ∃ x, f.getD (t % 4) 0 = x := ⟨_, rfl⟩
        have hI := hf.at_ t
        rw [hx] at hI
        have hT := ht _ _ hl
        obtain ⟨c, hc, hc1, hc2, hc3, hc4, hc5⟩ := owner hT (x := x % 4096) (by omega)
        obtain ⟨⟨y, s⟩, hy⟩ : ∃ y, takeS (stt l c) (prt l c) x ⟨xs, kk, 0⟩ = y := ⟨_, rfl⟩
        rw [unpC_next hv hl rfl hx hc hy] at he ⊢
        by_cases hs : s.e = 0
        · have hsa := step_any hb hk hI hc2 hc3 hc4 hc5 (by rw [hy]; exact hs)
          rw [hy] at hsa
          obtain ⟨hy1, j, hj, hjl, hg, hp⟩ := hsa
          simp only at hy1 hj hg hp
          subst hj
          have hpl : pos n t < all.length := by rw [ha]; exact pos_lt hv
          obtain ⟨B, F, j2, i1, i2, i3, i4, i5, i6, i7⟩ := unpC_any ht hb k (t + 1) (kk + j) (all.set (pos n t) (c : Int)) (f.set (t % 4) y) hjl (hf.set _ hy1) (by rw [List.length_set]; exact ha) (fun z hz => by
            rcases List.mem_or_eq_of_mem_set hz with hz | rfl
            · exact hab z hz
            · omega) he
          have hfar : ∀ p, p < n → p ≠ pos n t → (all.set (pos n t) (c : Int)).getD p 0 = all.getD p 0 := fun p _ hne => by rw [List.getD, List.getD, List.getElem?_set_ne (Ne.symm hne)]
          have hB : B.getD (pos n t) 0 = (c : Int) := by
            rw [i6 _ (pos_lt hv) (.inl (by rw [stp_pos hv]; omega)), List.getD, List.getElem?_set_self hpl]
            rfl
          have hcx : cx n B t = cx n all t := by
            unfold cx
            split
            · rfl
            · next h0 =>
              obtain ⟨g1, g2, g3, g4⟩ := pos_ahead hv h0
              have hpp := pos_lt g1
              rw [← g2, i6 _ hpp (.inl (by rw [stp_pos g1]; omega)), hfar _ hpp (by omega)]
          refine ⟨B, F, j + j2, by rw [i1, Nat.add_assoc], by omega, i3, i4, i5, ?_, ?_⟩
          · intro p hp1 hp2
            have hne : p ≠ pos n t := fun e => by
              subst e
              rw [stp_pos hv] at hp2
              omega
            rw [i6 p hp1 (by omega), hfar p hp1 hne]
          · rw [encC_next hv (l := l) (c := (c : Int)) (s := y) (by rw [hcx, tt, hl]; rfl) hB (by rw [i7]; exact set_back hf.1 _), i7]
            simp only
            rw [hp, hg, ← hx, set_same hf.1, List.take_add, List.drop_drop]
        · exfalso
          have hbad : ∀ (k t : Nat) (all : List Int) (f : List Nat) (r : RS), r.e ≠ 0 → (unpC tb n k t all f r).2.2.e ≠ 0 := by
            intro k
            induction k with
            | zero => intro t all f r h; exact h
            | succ k ih =>
              intro t all f r h
              by_cases hv : Val n t
              · cases hl : tb (cx n all t).toNat with
                | none => rw [unpC_none hv hl]; exact fail_ne (by decide)
                | some l => rw [unpC_err hv hl h]; exact h
              · rw [unpC_skip hv]; exact ih _ _ _ _ h
          exact hbad _ _ _ _ _ hs he
    · rw [unpC_skip hv] at he ⊢
      obtain ⟨B, F, j2, i1, i2, i3, i4, i5, i6, i7⟩ := unpC_any ht hb k (t + 1) kk all f hk hf ha hab he
      refine ⟨B, F, j2, i1, i2, i3, i4, i5, ?_, by rw [encC_skip hv, i7]⟩
      intro p hp1 hp2
      have hne : stp n p ≠ t := fun e => hv (by rw [← e]; exact (pos_stp hp1).1)
      exact i6 p hp1 (by omega)
end Go.Proofs.Ytnanmenoemajfaa.Ch
