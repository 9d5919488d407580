/- What is taken out of any bytes: a table whose bytes they are, or an error and no table. -/
import Derived.Test.YtnanmenoemajfaaFrqTb
namespace Go.Proofs.Ytnanmenoemajfaa.Fb
open Go.Proofs.Ytnanmenoemajfaa.Gen Go.Proofs.Ytnanmenoemajfaa.Wr Go.Proofs.Ytnanmenoemajfaa.It Go.Proofs.Ytnanmenoemajfaa.Ir Go.Proofs.Ytnanmenoemajfaa.Ib Go.Proofs.Ytnanmenoemajfaa.Fq

theorem needs_zero {s : RS} {n : Int} {f : Nat} (h : (RS.needs s n f).2.e ≠ 0) : (RS.needs s n f).1 = 0 := by
  unfold RS.needs at h ⊢
  split
  · rfl
  · next hf =>
    rw [if_neg hf] at h
    simp only at h ⊢
    rw [if_neg h]
theorem int_zero {s : RS} (h : (RS.int s).2.e ≠ 0) : (RS.int s).1 = 0 := by
  unfold RS.int five at h ⊢
  split
  · next hf => rw [if_pos hf] at h; exact needs_zero h
  · next hf =>
    rw [if_neg hf] at h
    split
    · rfl
    · next hg => rw [if_neg hg] at h; exact needs_zero h
theorem lead0 : lead 0 = 0 := by decide
theorem int_of_byte0 {s s1 : RS} (hb : s.byte = (0, s1)) (he : s1.e ≠ 0) : RS.int s = (0, s1) := by
  have hn : RS.num s 4 = (0, 0, s1) := by
    unfold RS.num
    rw [hb]
    simp only [lead0, Nat.zero_min, RS.gath]
    rfl
  unfold RS.int five
  rw [hn]
  simp only
  rw [if_pos (by omega), needs_bad _ _ _ he]
theorem int_bad {s : RS} (h : s.e ≠ 0) : RS.int s = (0, s) := int_of_byte0 (byte_bad h) h
theorem int_end (xs : List Int) : RS.int ⟨xs, xs.length, 0⟩ = (0, ⟨xs, xs.length, 3⟩) :=
  int_of_byte0 (by simp [RS.byte]) (by simp)
/-- The next number of any bytes, or an error. -/
theorem int_all {xs : List Int} {k : Nat} (hx : ∀ x ∈ xs, 0 ≤ x ∧ x < 256) (hk : k ≤ xs.length) (hmx : xs.length ≤ 1000000) :
    (RS.int ⟨xs, k, 0⟩).2.e ≠ 0 ∨ ∃ n f, RS.int ⟨xs, k, 0⟩ = (n, ⟨xs, k + (1 + f), 0⟩) ∧ k + (1 + f) ≤ xs.length ∧ 0 ≤ n ∧ n < 4294967296 ∧ encInt n = (xs.drop k).take (1 + f) := by
  rcases Nat.lt_or_ge k xs.length with h | h
  · rcases int_any hx h hmx with ⟨_, _, h3⟩ | h3
    · exact .inl (by rcases h3 with h3 | h3 <;> rw [h3] <;> decide)
    · exact .inr h3
  · obtain rfl : k = xs.length := by omega
    rw [int_end]
    exact .inl (by simp)

theorem stay {l : List Int} {d : Nat} : ∀ {e : Nat}, d ≤ e → (∀ i, d ≤ i → i < e → ¬ 0 < l.getD i 0) → bod l e = bod l d ∧ nxt l e = nxt l d ∧ mny l e = mny l d
  | 0, h, _ => by obtain rfl : d = 0 := by omega
                  exact ⟨rfl, rfl, rfl⟩
  | e + 1, h, hz => by
    by_cases hd : d = e + 1
    · subst hd; exact ⟨rfl, rfl, rfl⟩
    · obtain ⟨h1, h2, h3⟩ := stay (l := l) (d := d) (e := e) (by omega) fun i hi hj => hz i hi (by omega)
      have hp := hz e (by omega) (by omega)
      exact ⟨by rw [bod, if_neg hp, h1], by rw [nxt, if_neg hp, h2], by rw [mny, if_neg hp, h3]⟩
theorem alike {l l' : List Int} : ∀ {d : Nat}, (∀ i, i < d → l.getD i 0 = l'.getD i 0) → bod l d = bod l' d ∧ nxt l d = nxt l' d ∧ mny l d = mny l' d
  | 0, _ => ⟨rfl, rfl, rfl⟩
  | d + 1, h => by
    obtain ⟨h1, h2, h3⟩ := alike (l := l) (l' := l') (d := d) fun i hi => h i (by omega)
    have he := h d (by omega)
    exact ⟨by rw [bod, bod, he, h1, h2], by rw [nxt, nxt, he, h2], by rw [mny, mny, he, h3]⟩
theorem getD_set {t : List Int} {c i : Nat} {y : Int} (hc : c < t.length) : (t.set c y).getD i 0 = if i = c then y else t.getD i 0 := by
  by_cases h : i = c
  · subst h
    rw [if_pos rfl, List.getD, List.getElem?_set_self hc]; rfl
  · rw [if_neg h, List.getD, List.getElem?_set_ne (by omega)]; rfl
theorem set_more {t : List Int} {c nx : Nat} {y : Int} (ht : t.length = 256) (hc : c < 256) (hn : nxt t 256 = nx) (hnc : nx ≤ c) (hz : ∀ i, nx ≤ i → t.getD i 0 = 0) (hy : 0 < y) :
    bod (t.set c y) 256 = bod t 256 ++ (encInt (((c - nx : Nat) : Int)) ++ encInt y) ∧ nxt (t.set c y) 256 = c + 1 ∧ mny (t.set c y) 256 = mny t 256 + 1 := by
  obtain ⟨a1, a2, a3⟩ := alike (l := t.set c y) (l' := t) (d := c) fun i hi => by rw [getD_set (by omega), if_neg (by omega)]
  obtain ⟨b1, b2, b3⟩ := stay (l := t) (d := c) (e := 256) (by omega) fun i hi _ => by rw [hz i (by omega)]; omega
  obtain ⟨c1, c2, c3⟩ := stay (l := t.set c y) (d := c + 1) (e := 256) (by omega) fun i hi _ => by rw [getD_set (by omega), if_neg (by omega), hz i (by omega)]; omega
  have hg : (t.set c y).getD c 0 = y := by rw [getD_set (by omega), if_pos rfl]
  have hp : 0 < (t.set c y).getD c 0 := by rw [hg]; exact hy
  refine ⟨?_, ?_, ?_⟩
  · rw [c1, bod, if_pos hp, hg, a1, a2, ← b1, ← b2, hn]
  · rw [c2, nxt, if_pos hp]
  · rw [c3, mny, if_pos hp, a3, ← b3]
theorem fail_ne {s : RS} {e : Int} (h : e ≠ 0) : (s.fail e).e ≠ 0 := by
  unfold RS.fail
  split
  · exact h
  · next hs => exact hs

/-- What a round of the loop leaves. -/
structure Lp (xs : List Int) (k0 : Nat) (t : List Int) (nx k j : Nat) : Prop where
  len : t.length = 256
  num : ∀ x ∈ t, 0 ≤ x ∧ x < 4294967296
  zero : ∀ i, nx ≤ i → t.getD i 0 = 0
  nxt : nxt t 256 = nx
  mny : mny t 256 = j
  low : k0 ≤ k
  high : k ≤ xs.length
  bod : bod t 256 = (xs.drop k0).take (k - k0)
theorem take_two (xs : List Int) {a b : Nat} : xs.take a ++ (xs.drop a).take b = xs.take (a + b) := by rw [← List.take_add]
theorem loop_any {xs : List Int} (hx : ∀ x ∈ xs, 0 ≤ x ∧ x < 256) (hmx : xs.length ≤ 1000000) (k0 : Nat) : ∀ (r : Nat) (t : List Int) (nx k j : Nat), Lp xs k0 t nx k j →
    ((takeLoop r t nx ⟨xs, k, 0⟩).2.2 = false ∧ (takeLoop r t nx ⟨xs, k, 0⟩).1 = zs ∧ (takeLoop r t nx ⟨xs, k, 0⟩).2.1.e ≠ 0) ∨
    ∃ t' nx' k', takeLoop r t nx ⟨xs, k, 0⟩ = (t', ⟨xs, k', 0⟩, true) ∧ Lp xs k0 t' nx' k' (j + r)
  | 0, t, nx, k, j, h => .inr ⟨t, nx, k, rfl, h⟩
  | r + 1, t, nx, k, j, h => by
    rw [takeLoop]
    rcases int_all hx h.high hmx with he | ⟨n, f, hi, hkf, hn0, hn1, hen⟩
    · rw [int_zero he]
      simp only [Int.toNat_zero, Nat.add_zero]
      by_cases h256 : 256 ≤ nx
      · rw [if_pos h256]
        exact .inl ⟨rfl, rfl, fail_ne (by decide)⟩
      · rw [if_neg h256, int_bad he]
        simp only
        exact .inl ⟨rfl, rfl, fail_ne (by decide)⟩
    · rw [hi]
      simp only
      by_cases h256 : 256 ≤ nx + n.toNat
      · rw [if_pos h256]
        exact .inl ⟨rfl, rfl, fail_ne (by decide)⟩
      · rw [if_neg h256]
        rcases int_all hx hkf hmx with he | ⟨y, f2, hi2, hkf2, hy0, hy1, hen2⟩
        · rw [int_zero he, if_pos rfl]
          exact .inl ⟨rfl, rfl, fail_ne (by decide)⟩
        · rw [hi2]
          simp only
          by_cases hy : y = 0
          · rw [if_pos hy]
            exact .inl ⟨rfl, rfl, fail_ne (by decide)⟩
          · rw [if_neg hy]
            obtain ⟨s1, s2, s3⟩ := set_more (y := y) (c := nx + n.toNat) h.len (by omega) h.nxt (by omega) h.zero (by omega)
            have hc : ((nx + n.toNat - nx : Nat) : Int) = n := by omega
            have hlp : Lp xs k0 (t.set (nx + n.toNat) y) (nx + n.toNat + 1) (k + (1 + f) + (1 + f2)) (j + 1) := by
              refine ⟨by rw [List.length_set, h.len], fun x hx => ?_, fun i hi => ?_, s2, by rw [s3, h.mny], by have := h.low; omega, hkf2, ?_⟩
              · rcases mem_set hx with hx | rfl
                · exact h.num x hx
                · exact ⟨hy0, hy1⟩
              · rw [getD_set (by rw [h.len]; omega), if_neg (by omega)]; exact h.zero i (by omega)
              · have hl := h.low
                have e1 : xs.drop k = (xs.drop k0).drop (k - k0) := by rw [List.drop_drop]; congr 1; omega
                have e2 : xs.drop (k + (1 + f)) = (xs.drop k0).drop ((k - k0) + (1 + f)) := by rw [List.drop_drop]; congr 1; omega
                rw [s1, hc, hen, hen2, h.bod, e1, e2, ← List.append_assoc, take_two, take_two]
                congr 1
                omega
            have ih := loop_any hx hmx k0 r _ _ _ _ hlp
            rw [show j + 1 + r = j + (r + 1) by omega] at ih
            exact ih
theorem zs_bod : ∀ d, bod zs d = [] ∧ nxt zs d = 0 ∧ mny zs d = 0 := by
  intro d
  obtain ⟨h1, h2, h3⟩ := stay (l := zs) (d := 0) (e := d) (by omega) fun i _ _ => by
    rw [zs, List.getD, List.getElem?_replicate]
    split <;> simp
  exact ⟨h1, h2, h3⟩
theorem zs_getD (i : Nat) : zs.getD i 0 = 0 := by
  rw [zs, List.getD, List.getElem?_replicate]
  split <;> rfl
/-- Any bytes: a table whose bytes they are, or an error. -/
theorem takeT_any {xs : List Int} (hx : ∀ x ∈ xs, 0 ≤ x ∧ x < 256) (hmx : xs.length ≤ 1000000) :
    ((takeT ⟨xs, 0, 0⟩).2.e ≠ 0 ∧ (takeT ⟨xs, 0, 0⟩).1 = zs) ∨
    ∃ t k, takeT ⟨xs, 0, 0⟩ = (t, ⟨xs, k, 0⟩) ∧ t.length = 256 ∧ Fine t ∧ t.sum = 4096 ∧ k ≤ xs.length ∧ tabB t = xs.take k := by
  have hend : ∀ (t : List Int) (s : RS), s.e ≠ 0 → ((takeEnd t s).2.e ≠ 0 ∧ (takeEnd t s).1 = zs) := by
    intro t s hs
    have : (if chk t ≠ 0 then s.fail (chk t) else s).e ≠ 0 := by
      split
      · next h => exact fail_ne h
      · exact hs
    exact ⟨this, by rw [takeEnd, if_pos this]⟩
  rcases int_all hx (Nat.zero_le _) hmx with he | ⟨n, f, hi, hkf, hn0, hn1, hen⟩
  · left
    have hc : RS.count ⟨xs, 0, 0⟩ 256 = (0, (RS.int ⟨xs, 0, 0⟩).2) := by
      have hz := int_zero he
      rw [RS.count, hz, if_neg (by omega)]
      exact Prod.ext hz rfl
    rw [takeT, hc]
    simp only [Int.toNat_zero, takeLoop, if_true]
    exact hend _ _ he
  · by_cases hm : 256 < n
    · left
      have hc : RS.count ⟨xs, 0, 0⟩ 256 = (0, (⟨xs, 0 + (1 + f), 0⟩ : RS).fail 7) := by rw [RS.count, hi, if_pos hm]
      rw [takeT, hc]
      simp only [Int.toNat_zero, takeLoop, if_true]
      exact hend _ _ (fail_ne (by decide))
    · have hc : RS.count ⟨xs, 0, 0⟩ 256 = (n, ⟨xs, 0 + (1 + f), 0⟩) := by rw [RS.count, hi, if_neg hm]
      have hl0 : Lp xs (0 + (1 + f)) zs 0 (0 + (1 + f)) 0 :=
        ⟨zs_len, fun x hx => by have := List.eq_of_mem_replicate hx; omega, fun i _ => zs_getD i, (zs_bod 256).2.1, (zs_bod 256).2.2, Nat.le_refl _, hkf, by rw [(zs_bod 256).1, Nat.sub_self, List.take_zero]⟩
      rw [takeT, hc]
      simp only
      rcases loop_any hx hmx _ n.toNat zs 0 _ 0 hl0 with ⟨h1, h2, h3⟩ | ⟨t, nx, k, h1, h2⟩
      · left
        rw [h1]
        exact ⟨h3, h2⟩
      · rw [h1]
        simp only [if_true]
        by_cases hck : chk t = 0
        · right
          have hft : Fine t ∧ t.sum = 4096 := by
            rw [chk] at hck
            split at hck
            · next hf =>
              split at hck
              · next hs => exact ⟨hf, hs⟩
              · omega
            · omega
          refine ⟨t, k, ?_, h2.len, hft.1, hft.2, h2.high, ?_⟩
          · rw [takeEnd, hck]
            simp
          · have hl := h2.low
            rw [tabB, h2.mny, h2.bod, Nat.zero_add, Int.toNat_of_nonneg hn0, hen, List.drop_zero, Nat.zero_add, take_two]
            congr 1
            omega
        · left
          have : (if chk t ≠ 0 then (⟨xs, k, 0⟩ : RS).fail (chk t) else ⟨xs, k, 0⟩).e ≠ 0 := by rw [if_pos hck]; exact fail_ne hck
          exact ⟨this, by rw [takeEnd, if_pos this]⟩
end Go.Proofs.Ytnanmenoemajfaa.Fb
