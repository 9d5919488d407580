/- Bytes that end with their sum, as one fact on their bits; a row of one's own, one of its bytes stored. -/
import Derived.Test.YtbehchibgkgpbaaCrcRight
namespace Go.Proofs.Ytbehchibgkgpbaa.Cf
open Go.RowKit Go.Proofs.Ytbehchibgkgpbaa.Gen Go.Proofs.Ytbehchibgkgpbaa.Cp Go.Proofs.Ytbehchibgkgpbaa.Ct Go.Proofs.Ytbehchibgkgpbaa.Cs Go.Proofs.Ytbehchibgkgpbaa.Cu Go.Proofs.Ytbehchibgkgpbaa.Cr

/-- Numbers as bytes. -/
def iv (l : List Nat) : List Int := l.map (fun b : Nat => (b : Int))
theorem iv_len (l : List Nat) : (iv l).length = l.length := by simp [iv]
theorem nat_iv (l : List Nat) : nat (iv l) = l := by
  unfold nat iv
  rw [List.map_map]
  have : (Int.toNat ∘ fun b : Nat => (b : Int)) = id := by funext b; simp
  rw [this, List.map_id]
theorem iv_byt {l : List Nat} (h : ∀ b ∈ l, b < 256) : Byt (iv l) := by
  intro x hx
  obtain ⟨b, hb, rfl⟩ := List.mem_map.1 hx
  have := h b hb
  omega
theorem iv_nat {xs : List Int} (h : Byt xs) : iv (nat xs) = xs := by
  unfold nat iv
  rw [List.map_map]
  conv => rhs; rw [← List.map_id xs]
  refine List.map_congr_left fun x hx => ?_
  have := h x hx
  simp
  omega
theorem iv_set (l : List Nat) (j y : Nat) : (iv l).set j (y : Int) = iv (l.set j y) := by simp [iv, List.map_set]
theorem iv_get (l : List Nat) (j : Nat) : (iv l).getD j 0 = ((l.getD j 0 : Nat) : Int) := by
  simp only [iv, List.getD_eq_getElem?_getD, List.getElem?_map]
  cases l[j]? <;> rfl
theorem nat_word (q : Nat) : nat (wordAt q 4) = [q % 256, q / 256 % 256, q / 65536 % 256, q / 16777216 % 256] := by
  simp [nat, wordAt, List.range_succ]
  omega
theorem word_inj {a b : Nat} (ha : a < 4294967296) (hb : b < 4294967296) (h : wordAt a 4 = wordAt b 4) : a = b := by
  have h2 := congrArg nat h
  rw [nat_word, nat_word] at h2
  simp at h2
  omega
theorem four {v : List Int} (hv : v.length = 4) (hb : Byt v) : ∃ q, q < 4294967296 ∧ v = wordAt q 4 := by
  match v, hv with
  | [a, b, c, d], _ =>
    have h1 := hb a (by simp)
    have h2 := hb b (by simp)
    have h3 := hb c (by simp)
    have h4 := hb d (by simp)
    refine ⟨(a + 256 * b + 65536 * c + 16777216 * d).toNat, by omega, ?_⟩
    simp [wordAt, List.range_succ]
    omega
theorem Rt_iff {zs : List Int} (h4 : 4 ≤ zs.length) (hb : Byt zs) : Rt zs ↔ feed Cp.start (bitsOf (nat zs)) = rest := by
  obtain ⟨q, hq, hw⟩ := four (v := zs.drop (zs.length - 4)) (by rw [List.length_drop]; omega) (hb.drop _)
  have hz : nat zs = nat (zs.take (zs.length - 4)) ++ nat (wordAt q 4) := by rw [← nat_app, ← hw, List.take_append_drop]
  unfold Rt
  rw [hw, hz, bitsOf_app, nat_word, word_bits, right_iff _ hq]
  constructor
  · exact fun h => word_inj hq (sum_lt _) h.2
  · intro h
    exact ⟨h4, congrArg (wordAt · 4) h⟩
theorem put_Rt {xs : List Int} : Rt (xs ++ wordAt (sumOf (nat xs)) 4) := by
  have hl : (xs ++ wordAt (sumOf (nat xs)) 4).length = xs.length + 4 := by rw [List.length_append, wordAt_len]
  unfold Rt
  rw [hl, show xs.length + 4 - 4 = xs.length by omega]
  exact ⟨by omega, by simp⟩
/-- One byte of a row of one's own, stored. -/
theorem own_set {w : World} {base g n c j : Nat} {zs : List Int} (h : w.ownsRow base 5 1 (.slice (some ⟨g, 0, none⟩) n c) n (bv zs)) (_hj : j < n) (y : Int) :
    (w.setCell ⟨g, j, none⟩ (.int .u8 y)).ownsRow base 5 1 (.slice (some ⟨g, 0, none⟩) n c) n (bv (zs.set j y)) := by
  obtain ⟨hl, h⟩ := h
  rcases h with ⟨h, _⟩ | ⟨g', cap, cur, hv, hb, hh, h1, h2, h3, h4⟩
  · cases h
  · injection hv with hv _ hc
    injection hv with hv
    injection hv with hv
    subst hv
    subst hc
    refine ⟨by simpa [bv] using hl, .inr ⟨g, c, cur.setIfInBounds j (.int .u8 y), rfl, hb, (show Blk w g 5 cur from hh).setCell j _, h1, h2, by simpa using h3, ?_⟩⟩
    rw [Nat.mul_one] at h4 ⊢
    rw [Array.toList_setIfInBounds, List.take_set, h4]
    simp [bv, List.map_set]
theorem own_cell {w : World} {base g n c j : Nat} {zs : List Int} (h : w.ownsRow base 5 1 (.slice (some ⟨g, 0, none⟩) n c) n (bv zs)) (hj : j < n) :
    w.cell? ⟨g, j, none⟩ = some (.int .u8 (zs.getD j 0)) ∧ w.frozen? ⟨g, j, none⟩ = false ∧ base ≤ g ∧ g < w.heap.size := by
  have hl := h.1
  rw [bv_len, Nat.mul_one] at hl
  rcases Lies.of_own h with h0 | ⟨b, o, hA, hb, hcl⟩
  · rw [h0] at hl; simp at hl; omega
  · injection hA with hA
    injection hA with h1 h2
    subst h1
    subst h2
    have hc := hcl j (by omega)
    rw [Nat.zero_add] at hc
    rcases h.2 with ⟨h, _⟩ | ⟨g', cap, cur, hv, hb', hh, _⟩
    · cases h
    · injection hv with hv _ _
      injection hv with hv
      injection hv with hv
      subst hv
      exact ⟨hc, (show Blk w g 5 cur from hh).frozen j, hb', hb⟩
end Go.Proofs.Ytbehchibgkgpbaa.Cf
