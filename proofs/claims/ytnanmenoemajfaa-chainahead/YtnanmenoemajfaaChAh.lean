/- Bytes each of which is told by the one ahead are told in few: plain data. -/
import Derived.Test.YtnanmenoemajfaaChTu
namespace Go.Proofs.Ytnanmenoemajfaa.Ch
open Go.Proofs.Ytnanmenoemajfaa.Gen Go.Proofs.Ytnanmenoemajfaa.Wr Go.Proofs.Ytnanmenoemajfaa.Ww Go.Proofs.Ytnanmenoemajfaa.It Go.Proofs.Ytnanmenoemajfaa.Ir Go.Proofs.Ytnanmenoemajfaa.Ib Go.Proofs.Ytnanmenoemajfaa.Fq Go.Proofs.Ytnanmenoemajfaa.Fb Go.Proofs.Ytnanmenoemajfaa.Rp

/-! ### states grow slowly -/
theorem push_lg {p s st : Nat} (hs : In s) (hp : 2731 ≤ p) (hst : st + p ≤ 4096) : 8 * (gone p s).length + Nat.log2 (push st p s) ≤ 1 + Nat.log2 s := by
  obtain ⟨k1, k2⟩ := kept_in hs (p := p) (by omega) (by omega)
  have hw := Rp.ways hs (p := p) (by omega)
  have hpush : push st p s = kept p s / p * 4096 + kept p s % p + st := rfl
  generalize kept p s = K at k1 k2 hw hpush
  generalize push st p s = P at hpush ⊢
  generalize gone p s = L at hw ⊢
  have hq := Nat.div_add_mod K p
  have hr : K % p < p := Nat.mod_lt _ (by omega)
  have hq2 : 2048 ≤ K / p := by rw [Nat.le_div_iff_mul_le (by omega), Nat.mul_comm]; exact k1
  generalize K / p = q at hq hq2 hpush
  generalize K % p = r at hq hr hpush
  have hpp : 2731 * q ≤ p * q := Nat.mul_le_mul_right q hp
  generalize p * q = pq at hq hpp
  have h2 : P ≤ 2 * K := by omega
  have h0 : P ≠ 0 := by omega
  have hsl : s ≠ 0 := by have := hs.1; omega
  have ha : 2 ^ Nat.log2 P ≤ P := Nat.log2_self_le h0
  have ha1 : 1 ≤ Nat.log2 P := by
    rw [Nat.le_log2 h0]
    omega
  obtain ⟨a, hae⟩ : ∃ a, Nat.log2 P = a + 1 := ⟨Nat.log2 P - 1, by omega⟩
  rw [hae] at ha ⊢
  rw [Nat.pow_succ] at ha
  generalize hA : 2 ^ a = A at ha
  rcases hw with ⟨_, g, k⟩ | ⟨_, _, g, k⟩ | ⟨_, _, _, g, k⟩
  · rw [g]
    have : a ≤ Nat.log2 s := by rw [Nat.le_log2 hsl, hA]; omega
    simp only [List.length_nil]
    omega
  · rw [g]
    have : 8 + a ≤ Nat.log2 s := by
      rw [Nat.le_log2 hsl, Nat.pow_add, hA]
      have h3 : (2 : Nat) ^ 8 = 256 := rfl
      rw [h3]
      omega
    simp only [List.length_singleton]
    omega
  · rw [g]
    have : 16 + a ≤ Nat.log2 s := by
      rw [Nat.le_log2 hsl, Nat.pow_add, hA]
      have h3 : (2 : Nat) ^ 16 = 65536 := rfl
      rw [h3]
      omega
    simp only [List.length_cons, List.length_nil]
    omega
theorem push_same {s st : Nat} (hs : In s) (hst : st + 4096 ≤ 4096) : (gone 4096 s).length = 0 ∧ push st 4096 s = s := by
  obtain ⟨g, k⟩ := gone_rep hs
  refine ⟨by rw [g]; rfl, ?_⟩
  unfold push
  rw [k]
  omega
def psi (F : List Nat) : Nat := Nat.log2 (F.getD 0 0) + Nat.log2 (F.getD 1 0) + Nat.log2 (F.getD 2 0) + Nat.log2 (F.getD 3 0)
theorem psi_low : psi low4 = 92 := by decide
theorem psi_in {F : List Nat} (h : St F) : 92 ≤ psi F := by
  have hl : ∀ i, i < 4 → 23 ≤ Nat.log2 (F.getD i 0) := by
    intro i hi
    have h1 := h.at_ i
    rw [Nat.mod_eq_of_lt hi] at h1
    rw [Nat.le_log2 (by have := h1.1; omega)]
    exact h1.1
  have h0 := hl 0 (by omega)
  have h1 := hl 1 (by omega)
  have h2 := hl 2 (by omega)
  have h3 := hl 3 (by omega)
  unfold psi
  omega
theorem psi_set {F : List Nat} (h : F.length = 4) {i x : Nat} (hi : i < 4) : psi (F.set i x) + Nat.log2 (F.getD i 0) = psi F + Nat.log2 x := by
  match F, h with
  | [a, b, c, d], _ =>
    rcases q4 hi with rfl | rfl | rfl | rfl <;> simp [psi] <;> omega

/-! ### sums of parts -/
theorem count_lt (L : List Nat) : ∀ d, ((List.range d).map fun c => ((L.count c : Nat) : Int)).sum = ((L.countP (fun x => decide (x < d)) : Nat) : Int)
  | 0 => by simp
  | d + 1 => by
    rw [List.range_succ, List.map_append, List.sum_append, count_lt L d, count_next]
    simp
theorem row0_sum (L : List Nat) : (rowOf L 0).sum = ((L.countP (fun x => decide (x < 256)) : Nat) : Int) := by
  have e : rowOf L 0 = (List.range 256).map fun c => ((L.count c : Nat) : Int) := List.map_congr_left fun c _ => by rw [Nat.mul_zero, Nat.zero_add]
  rw [e]
  exact count_lt L 256
theorem parts_le {S : Int} (h0 : 0 < S) (h1 : S ≤ 4096) : ∀ {l : List Int}, (∀ x ∈ l, 0 ≤ x) → (l.map (part1 S)).sum * S ≤ l.sum * 4096
  | [], _ => by simp
  | x :: l, h => by
    have ih := parts_le h0 h1 (l := l) fun y hy => h y (by simp [hy])
    have hx := h x (by simp)
    have h2 : part1 S x * S ≤ x * 4096 := by
      unfold part1
      split
      · next hp =>
        have h3 : 1 ≤ x * 4096 / S := by rw [Int.le_ediv_iff_mul_le h0]; omega
        have h4 : x * 4096 / S * S ≤ x * 4096 := Int.ediv_mul_le _ (by omega)
        rw [show max (x * 4096 / S) 1 = x * 4096 / S by omega]
        exact h4
      · omega
    simp only [List.map_cons, List.sum_cons, Int.add_mul]
    omega
theorem scal_big {c : List Int} (hc : c.length = 256) (h0 : ∀ x ∈ c, 0 ≤ x) (hs : 0 < c.sum) (hs2 : c.sum ≤ 4096) {i : Nat} (hi : i < 256) {q : Int} (hq : 0 < q) (hqi : q * c.sum ≤ c.getD i 0 * 4096) : q ≤ (scal c).getD i 0 := by
  have hl : (pts c).length = 256 := by rw [pts_len, hc]
  have hp : 0 < c.getD i 0 := by
    rcases Int.lt_or_le 0 (c.getD i 0) with h | h
    · exact h
    · have := Int.mul_pos hq hs
      omega
  have h1 : q ≤ (pts c).getD i 0 := by
    rw [pts_get c (by omega), part1, if_pos hp]
    have : q ≤ c.getD i 0 * 4096 / c.sum := by rw [Int.le_ediv_iff_mul_le hs]; exact hqi
    omega
  have h2 : (pts c).sum ≤ 4096 := by
    have h3 := parts_le hs hs2 h0
    have h4 : (pts c).sum * c.sum ≤ 4096 * c.sum := by rw [pts, Int.mul_comm 4096]; exact h3
    exact Int.le_of_mul_le_mul_right h4 hs
  unfold scal
  split
  · rw [getD_set (by rw [hl]; exact gre_lt c (by omega))]
    split
    · next e => rw [e] at h1; omega
    · exact h1
  · rw [show ((pts c).sum - 4096).toNat = 0 by omega]
    exact h1

/-! ### each byte by the one ahead -/
def Ahd (k : Nat) (b : List Int) : Prop := ∀ p, p < b.length → b.getD p 0 = ((p * 7 % k * 3 : Nat) : Int)
section
variable {n k : Nat} {b : List Int}
theorem ahd_byte (hk : 4 ≤ k) (hk2 : k ≤ 15) (h : Ahd k b) : ∀ x ∈ b, 0 ≤ x ∧ x < 256 := by
  intro x hx
  obtain ⟨p, hp, rfl⟩ := List.getElem_of_mem hx
  have h1 := h p hp
  rw [List.getD, List.getElem?_eq_getElem hp] at h1
  simp only [Option.getD_some] at h1
  have := Nat.mod_lt (p * 7) (show 0 < k by omega)
  omega
theorem mod_next (k p : Nat) : (p + 1) * 7 % k = (p * 7 % k + 7) % k := by
  rw [Nat.add_mod (p * 7 % k), Nat.mod_mod, ← Nat.add_mod]
  congr 1
  omega
theorem ahd_step (hk : 4 ≤ k) (hn : b.length = n) (h : Ahd k b) {t : Nat} (hv : Val n t) : (t / 4 = 0 ∧ cx n b t = 0) ∨ (t / 4 ≠ 0 ∧ ∃ x : Nat, x < k ∧ cx n b t = ((x * 3 : Nat) : Int) ∧ b.getD (pos n t) 0 = (((x + 7) % k * 3 : Nat) : Int)) := by
  by_cases h0 : t / 4 = 0
  · exact .inl ⟨h0, by rw [cx, if_pos h0]⟩
  · refine .inr ⟨h0, (pos n t - 1) * 7 % k, Nat.mod_lt _ (by omega), ?_, ?_⟩
    · obtain ⟨g1, g2, g3, g4⟩ := pos_ahead hv h0
      have := pos_lt g1
      rw [cx, if_neg h0, h _ (by omega)]
    · obtain ⟨g1, g2, g3, g4⟩ := pos_ahead hv h0
      have h1 := pos_lt hv
      rw [h _ (by omega), ← mod_next]
      congr 3
      omega
theorem ahd_tab (hk : 4 ≤ k) (hk2 : k ≤ 15) (hn : b.length = n) (h : Ahd k b) {a : Nat} (ha : 1 ≤ a) (ha2 : a < 256) : tabs b a = none ∨ ∃ x, x < k ∧ a = x * 3 ∧ tabs b a = some (zs.set ((x + 7) % k * 3) 4096) := by
  have hb := ahd_byte hk hk2 h
  by_cases hx : ∃ x, x < k ∧ a = x * 3
  · obtain ⟨x, hxk, rfl⟩ := hx
    have hm := Nat.mod_lt (x + 7) (show 0 < k by omega)
    have hck : (x + 7) % k * 3 < 256 := by omega
    have hone : ∀ d, d < 256 → 256 * (x * 3) + d ∈ pa n b 4 → d = (x + 7) % k * 3 := by
      intro d hd hm
      obtain ⟨t, hv, h1, h2⟩ := mem_key hn hb ha2 hd hm
      rcases ahd_step hk hn h hv with ⟨_, h0⟩ | ⟨_, y, h3, h4, h5⟩
      · omega
      · obtain rfl : x = y := by omega
        omega
    have hr := row_one (L := pa n b 4) (a := x * 3) hck hone
    rw [tabs, hn, tabL]
    split
    · exact .inl rfl
    · next hne =>
      have hs : (rowOf (pa n b 4) (x * 3)).sum ≠ 0 := fun e => hne (.inr e)
      obtain ⟨c, hc, hm⟩ := rowOf_hit hs
      obtain rfl := hone c hc hm
      exact .inr ⟨x, hxk, rfl, by rw [hr, scal_one _ hck (by have := List.count_pos_iff.2 hm; omega)]⟩
  · refine .inl ?_
    rw [tabs, hn, tabL, if_pos]
    refine .inr ?_
    rcases Int.lt_trichotomy (rowOf (pa n b 4) a).sum 0 with hlt | he | hgt
    · exfalso
      obtain ⟨c, hc, hm⟩ := rowOf_hit (L := pa n b 4) (a := a) (by omega)
      obtain ⟨t, hv, h1, h2⟩ := mem_key hn hb ha2 hc hm
      rcases ahd_step hk hn h hv with ⟨_, h0⟩ | ⟨_, y, h3, h4, h5⟩
      · omega
      · exact hx ⟨y, h3, by omega⟩
    · exact he
    · exfalso
      obtain ⟨c, hc, hm⟩ := rowOf_hit (L := pa n b 4) (a := a) (by omega)
      obtain ⟨t, hv, h1, h2⟩ := mem_key hn hb ha2 hc hm
      rcases ahd_step hk hn h hv with ⟨_, h0⟩ | ⟨_, y, h3, h4, h5⟩
      · omega
      · exact hx ⟨y, h3, by omega⟩
/-- Where what is ahead is nought. -/
theorem pq_mono (n : Nat) (b : List Int) (i d x : Nat) : ∀ e, (pq n b i d).count x ≤ (pq n b i (d + e)).count x
  | 0 => Nat.le_refl _
  | e + 1 => by
    have := pq_mono n b i d x e
    rw [show d + (e + 1) = (d + e) + 1 by omega, pq, List.count_append]
    omega
theorem ahd_low (hk : 4 ≤ k) (hn : b.length = n) (h : Ahd k b) : ∀ m, k * m + 2 ≤ ql n 0 → m + 1 ≤ (pq n b 0 (k * m + 2)).count (7 % k * 3) := by
  have hky : ∀ m, k * m + 2 ≤ ql n 0 → ky n b (4 * (k * m + 1) + 0) = 7 % k * 3 := by
    intro m hm
    have hv : Val n (4 * (k * m + 1) + 0) := (val_at (by omega)).2 (by omega)
    have hp : pos n (4 * (k * m + 1) + 0) = k * m + 1 := by rw [pos_at (by omega)]; simp [qo]
    have hq : ql n 0 ≤ n := by simp only [ql, qo]; omega
    have h0 : ¬ (4 * (k * m + 1) + 0) / 4 = 0 := by omega
    have e1 : k * m * 7 % k = 0 := by rw [Nat.mul_assoc]; exact Nat.mul_mod_right _ _
    have hc : cx n b (4 * (k * m + 1) + 0) = 0 := by
      rw [cx, if_neg h0, hp, show k * m + 1 - 1 = k * m by omega, h _ (by omega), e1]
      rfl
    have hb2 : b.getD (pos n (4 * (k * m + 1) + 0)) 0 = ((7 % k * 3 : Nat) : Int) := by
      rw [hp, h _ (by omega), mod_next, e1, Nat.zero_add]
    unfold ky
    rw [hc, hb2, Int.toNat_natCast]
    simp
  intro m
  induction m with
  | zero =>
    intro hm
    have := hky 0 hm
    rw [Nat.mul_zero, Nat.zero_add] at this ⊢
    rw [show (2 : Nat) = 1 + 1 from rfl, pq, List.count_append, this, List.count_singleton_self]
    omega
  | succ m ih =>
    intro hm
    have hm1 : k * (m + 1) = k * m + k := Nat.mul_succ k m
    have ih := ih (by omega)
    have hy := hky (m + 1) hm
    have hmo := pq_mono n b 0 (k * m + 2) (7 % k * 3) (k - 1)
    rw [show k * (m + 1) + 2 = (k * (m + 1) + 1) + 1 by omega, pq, List.count_append, hy, List.count_singleton_self]
    rw [show k * m + 2 + (k - 1) = k * (m + 1) + 1 by omega] at hmo
    omega
theorem ahd_quarter (hk : 4 ≤ k) (hk2 : k ≤ 15) (hn : b.length = n) (h : Ahd k b) {i : Nat} (hi : i < 4) : ∀ d, d ≤ ql n i → (pq n b i d).countP (fun x => decide (x < 256)) ≤ (pq n b i d).count (7 % k * 3) + 1
  | 0, _ => by simp [pq]
  | d + 1, hd => by
    have ih := ahd_quarter hk hk2 hn h hi d (by omega)
    have hm := Nat.mod_lt 7 (show 0 < k by omega)
    rw [pq, List.countP_append, List.count_append]
    by_cases h0 : d = 0
    · subst h0
      simp only [pq, List.countP_nil, List.count_nil]
      have : ([ky n b (4 * 0 + i)].countP fun x => decide (x < 256)) ≤ 1 := List.countP_le_length
      omega
    · have hv : Val n (4 * d + i) := (val_at hi).2 (by omega)
      rcases ahd_step hk hn h hv with ⟨h1, _⟩ | ⟨_, x, h3, h4, h5⟩
      · omega
      · by_cases hx : x = 0
        · subst hx
          have hy : ky n b (4 * d + i) = 7 % k * 3 := by
            unfold ky
            rw [h4, h5, Nat.zero_add, Int.toNat_natCast, Int.toNat_natCast]
            omega
          rw [hy, List.count_singleton_self]
          have : ([7 % k * 3].countP fun x => decide (x < 256)) ≤ 1 := List.countP_le_length
          omega
        · have hy : ¬ ky n b (4 * d + i) < 256 := by
            unfold ky
            rw [h4, Int.toNat_natCast]
            omega
          have : ([ky n b (4 * d + i)].countP fun x => decide (x < 256)) = 0 := by simp [hy]
          omega
/-- The table of what nought is ahead of. -/
theorem ahd_first (hk : 4 ≤ k) (hk2 : k ≤ 15) (hn : b.length = n) (hn1 : 3000 ≤ n) (hn2 : n ≤ 4000) (h : Ahd k b) : ∃ l, tabs b 0 = some l ∧ (tabB l).length ≤ 22 ∧ 2731 ≤ prt l ((7 % k * 3 : Nat) : Int) := by
  have hb := ahd_byte hk hk2 h
  have hm := Nat.mod_lt 7 (show 0 < k by omega)
  have hpl : (pa n b 4).length = n := by rw [pa_len _ _ (Nat.le_refl _)]; rfl
  have hin := rowOf_in (L := pa n b 4) (by omega) 0
  have hpa : pa n b 4 = pq n b 0 (ql n 0) ++ pq n b 1 (ql n 1) ++ pq n b 2 (ql n 2) ++ pq n b 3 (ql n 3) := by simp [pa]
  have hC : 9 ≤ (pa n b 4).count (7 % k * 3) := by
    have hq : 750 ≤ ql n 0 := by simp only [ql, qo]; omega
    have h1 := ahd_low hk hn h 8 (by omega)
    have h2 := pq_mono n b 0 (k * 8 + 2) (7 % k * 3) (ql n 0 - (k * 8 + 2))
    rw [show k * 8 + 2 + (ql n 0 - (k * 8 + 2)) = ql n 0 by omega] at h2
    rw [hpa]
    simp only [List.count_append]
    omega
  have hS : (pa n b 4).countP (fun x => decide (x < 256)) ≤ (pa n b 4).count (7 % k * 3) + 4 := by
    have g0 := ahd_quarter hk hk2 hn h (i := 0) (by omega) _ (Nat.le_refl _)
    have g1 := ahd_quarter hk hk2 hn h (i := 1) (by omega) _ (Nat.le_refl _)
    have g2 := ahd_quarter hk hk2 hn h (i := 2) (by omega) _ (Nat.le_refl _)
    have g3 := ahd_quarter hk hk2 hn h (i := 3) (by omega) _ (Nat.le_refl _)
    rw [hpa]
    simp only [List.count_append, List.countP_append]
    omega
  have hSn := List.countP_le_length (p := fun x => decide (x < 256)) (l := pa n b 4)
  have hsum := row0_sum (pa n b 4)
  have hsp : 0 < (rowOf (pa n b 4) 0).sum := by
    have hle := InR.mem_le hin _ (getD_mem (l := rowOf (pa n b 4) 0) (d := 7 % k * 3) (by rw [rowOf_len]; omega))
    rw [rowOf_get (by omega), Nat.mul_zero, Nat.zero_add] at hle
    omega
  have hget : (rowOf (pa n b 4) 0).getD (7 % k * 3) 0 = (((pa n b 4).count (7 % k * 3) : Nat) : Int) := by rw [rowOf_get (by omega), Nat.mul_zero, Nat.zero_add]
  have hbig := scal_big (rowOf_len (pa n b 4) 0) (fun x hx => (hin x hx).1) hsp (by omega) (i := 7 % k * 3) (by omega) (q := 2731) (by omega) (by rw [hget]; omega)
  obtain ⟨h1, h2, h3⟩ := scal_ok (rowOf_len (pa n b 4) 0) hin
  refine ⟨scal (rowOf (pa n b 4) 0), by rw [tabs, hn, tabL, if_neg (by omega)], ?_, by rw [prt, Int.toNat_natCast]; omega⟩
  refine tabB_in (C := (7 % k * 3) :: firsts n b) h2 h1 (fun c hc hp => ?_)
  have hrow : 0 < (rowOf (pa n b 4) 0).getD c 0 := by
    rcases Int.lt_or_le 0 ((rowOf (pa n b 4) 0).getD c 0) with hx | hx
    · exact hx
    · have := scal_zero (rowOf_len _ 0) hsp hc hx
      omega
  rw [rowOf_get hc] at hrow
  obtain ⟨t, hv, g1, g2⟩ := mem_key hn hb (a := 0) (by omega) hc (List.count_pos_iff.1 (by omega))
  rcases ahd_step hk hn h hv with ⟨h0, _⟩ | ⟨_, x, h4, h5, h6⟩
  · have ht : t = 0 ∨ t = 1 ∨ t = 2 ∨ t = 3 := by omega
    have hpos : pos n t = qo n (t % 4) := by rw [pos, h0]; rfl
    rw [hpos] at g2
    unfold firsts
    rcases ht with rfl | rfl | rfl | rfl
    · have g3 : b.getD (qo n 0) 0 = (c : Int) := g2
      simp only [List.mem_cons, List.not_mem_nil, or_false]
      omega
    · have g3 : b.getD (qo n 1) 0 = (c : Int) := g2
      simp only [List.mem_cons, List.not_mem_nil, or_false]
      omega
    · have g3 : b.getD (qo n 2) 0 = (c : Int) := g2
      simp only [List.mem_cons, List.not_mem_nil, or_false]
      omega
    · have g3 : b.getD (qo n 3) 0 = (c : Int) := g2
      simp only [List.mem_cons, List.not_mem_nil, or_false]
      omega
  · obtain rfl : x = 0 := by omega
    rw [Nat.zero_add] at h6
    have : c = 7 % k * 3 := by omega
    rw [this]
    exact List.mem_cons_self ..
end
end Go.Proofs.Ytnanmenoemajfaa.Ch
