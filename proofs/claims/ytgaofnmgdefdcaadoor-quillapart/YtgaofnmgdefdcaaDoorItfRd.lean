/- What itf's Reader takes, call by call: numbers, or the first error; only the block of wire's Reader that it embeds turns, and new memory is made. -/
import Derived.Test.YtgaofnmgdefdcaaDoorJItfNumWireRd
import Derived.Deep.RegionHeld3
import Derived.Handy
namespace Go.Proofs.YtgaofnmgdefdcaaDoor.Ir
open Go.RowKit Go.Proofs.YtgaofnmgdefdcaaDoor.Gen Go.Proofs.YtgaofnmgdefdcaaDoor.Wr Go.Proofs.YtgaofnmgdefdcaaDoor.It

/-- The value that itf's Reader is. -/
def rd (g : Nat) : Value := .agg #[.pointer (some ⟨g, 0, none⟩)]
/-- The bytes that follow, one by one, behind n. -/
def RS.gath (s : RS) (n : Int) : Nat → Int × RS
  | 0 => (n, s)
  | j + 1 => ((RS.gath s n j).1 * 256 + (RS.gath s n j).2.byte.1, (RS.gath s n j).2.byte.2)
/-- The bits of a number, how many bytes followed (at most so many), and the Reader behind it. -/
def RS.num (s : RS) (most : Nat) : Int × Nat × RS :=
  ((RS.gath s.byte.2 (s.byte.1 % 2 ^ (8 - min (lead s.byte.1) most)) (min (lead s.byte.1) most)).1, min (lead s.byte.1) most, (RS.gath s.byte.2 (s.byte.1 % 2 ^ (8 - min (lead s.byte.1) most)) (min (lead s.byte.1) most)).2)
def RS.needs (s : RS) (n : Int) (f : Nat) : Int × RS := if foll n < f then (0, s.fail 4) else (if s.e = 0 then n else 0, s)
theorem gath_ok {s : RS} (h : s.ok) {n : Int} {m : Nat} (h0 : 0 ≤ n) (h1 : n < 2 ^ m) : ∀ j, (RS.gath s n j).2.ok ∧ 0 ≤ (RS.gath s n j).1 ∧ (RS.gath s n j).1 < 2 ^ (m + 8 * j)
  | 0 => ⟨h, h0, h1⟩
  | j + 1 => by
    obtain ⟨k1, k2, k3⟩ := gath_ok h h0 h1 j
    obtain ⟨b1, b2, b3⟩ := RS.byte_ok k1
    refine ⟨b1, ?_, ?_⟩
    · simp only [RS.gath]
      omega
    · simp only [RS.gath]
      rw [show m + 8 * (j + 1) = m + 8 * j + 8 by omega, Int.pow_add]
      omega

theorem step_or {a b : Int} (ha : 0 ≤ a) (ha' : a < 2 ^ 56) (hb : 0 ≤ b) (hb' : b < 256) : bits .or .u64 (a * 256 % 18446744073709551616) b = a * 256 + b := by
  rw [Int.emod_eq_of_lt (by omega) (by omega)]
  exact or_low (k := 8) ha hb (by omega) (by omega)

/-- The next number of 64 bits, or an error; the Reader behind it. -/
def RS.long (s : RS) : Int × RS := RS.needs (RS.num s 8).2.2 (RS.num s 8).1 (RS.num s 8).2.1
theorem num_ok {s : RS} (h : s.ok) (most : Nat) (hm : most ≤ 8) : (RS.num s most).2.2.ok ∧ 0 ≤ (RS.num s most).1 ∧ (RS.num s most).1 < 2 ^ (8 + 7 * (RS.num s most).2.1) ∧ (RS.num s most).2.1 ≤ most := by
  obtain ⟨h1, h2, h3⟩ := RS.byte_ok h
  have hf : min (lead s.byte.1) most ≤ 8 := by omega
  obtain ⟨g1, g2, g3⟩ := gath_ok h1 (n := s.byte.1 % 2 ^ (8 - min (lead s.byte.1) most)) (m := 8 - min (lead s.byte.1) most) (Int.emod_nonneg _ (by have : (0 : Int) < 2 ^ (8 - min (lead s.byte.1) most) := Int.pow_pos (by decide); omega)) (Int.emod_lt_of_pos _ (Int.pow_pos (by decide))) (min (lead s.byte.1) most)
  refine ⟨g1, g2, ?_, by simp only [RS.num]; omega⟩
  simp only [RS.num]
  rw [show 8 + 7 * min (lead s.byte.1) most = 8 - min (lead s.byte.1) most + 8 * min (lead s.byte.1) most by omega]
  exact g3
theorem num_lt {s : RS} (h : s.ok) (most : Nat) (hm : most ≤ 8) : (RS.num s most).1 < 18446744073709551616 := by
  obtain ⟨_, _, h3, h4⟩ := num_ok h most hm
  refine Int.lt_of_lt_of_le h3 ?_
  have := Nat.pow_le_pow_right (n := 2) (by decide) (show 8 + 7 * (RS.num s most).2.1 ≤ 64 by omega)
  have hc : (2 : Int) ^ (8 + 7 * (RS.num s most).2.1) = ((2 ^ (8 + 7 * (RS.num s most).2.1) : Nat) : Int) := by simp
  omega
/-- The next number of 32 bits, or an error; the Reader behind it. -/
def five (p : Int × Nat × RS) : Int × RS :=
  if p.2.1 < 4 then RS.needs p.2.2 p.1 p.2.1 else if 15 < p.1 % 256 then (0, p.2.2.fail 4) else RS.needs p.2.2 (p.1 / 256 * 16 + p.1 % 256) 4
def RS.int (s : RS) : Int × RS := five (RS.num s 4)
theorem needs_in (s : RS) {n : Int} (f : Nat) (h : 0 ≤ n) : 0 ≤ (RS.needs s n f).1 ∧ (RS.needs s n f).1 ≤ n := by
  unfold RS.needs
  split
  · exact ⟨Int.le_refl _, h⟩
  · split
    · exact ⟨h, Int.le_refl _⟩
    · exact ⟨Int.le_refl _, h⟩
theorem fail_e (s : RS) : (s.fail 4).e ≠ 0 := by
  by_cases he : s.e = 0
  · simp [RS.fail, he]
  · simp [RS.fail, he]
theorem needs_bad (s : RS) (n : Int) (f : Nat) (h : s.e ≠ 0) : RS.needs s n f = (0, s) := by
  unfold RS.needs
  split
  · rw [show s.fail 4 = s by simp [RS.fail, h]]
  · rfl
theorem and_255 {n : Int} (h0 : 0 ≤ n) (h1 : n < 18446744073709551616) : bits .and .u64 n 255 = n % 256 := by
  obtain ⟨n, rfl⟩ := Int.eq_ofNat_of_zero_le h0
  have h := u64_and_nat n 255 (by omega) (by omega)
  rw [Nat.and_two_pow_sub_one_eq_mod n 8] at h
  exact h
theorem or_in {a b : Int} (ha : 0 ≤ a) (ha' : a < 18446744073709551616) (hb : 0 ≤ b) (hb' : b < 18446744073709551616) : 0 ≤ bits .or .u64 a b ∧ bits .or .u64 a b < 18446744073709551616 := by
  obtain ⟨a, rfl⟩ := Int.eq_ofNat_of_zero_le ha
  obtain ⟨b, rfl⟩ := Int.eq_ofNat_of_zero_le hb
  rw [u64_or_nat a b (by omega) (by omega)]
  have := Nat.or_lt_two_pow (x := a) (y := b) (n := 64) (by omega) (by omega)
  omega

theorem byte_in {s : RS} (h : s.ok) : s.byte.2.ok := (RS.byte_ok h).1
theorem fail_ok {s : RS} (h : s.ok) (e : Int) : (s.fail e).ok := by
  unfold RS.fail
  split
  · exact h
  · exact h
theorem needs_ok {s : RS} (h : s.ok) (n : Int) (f : Nat) : (RS.needs s n f).2.ok := by
  unfold RS.needs
  split
  · exact fail_ok h 4
  · exact h
/-- A number of 32 bits with its sign. -/
def sign32 (n : Int) : Int := if n < 2147483648 then n else n - 4294967296
theorem int_in {s : RS} (h : s.ok) : 0 ≤ (RS.int s).1 ∧ (RS.int s).1 < 4294967296 := by
  obtain ⟨k1, k2, k3, k4⟩ := num_ok h 4 (by omega)
  unfold RS.int five
  by_cases hf : (RS.num s 4).2.1 < 4
  · rw [if_pos hf]
    have hn : (RS.num s 4).1 < 536870912 := by
      refine Int.lt_of_lt_of_le k3 ?_
      have := Nat.pow_le_pow_right (n := 2) (by decide) (show 8 + 7 * (RS.num s 4).2.1 ≤ 29 by omega)
      have hc : (2 : Int) ^ (8 + 7 * (RS.num s 4).2.1) = ((2 ^ (8 + 7 * (RS.num s 4).2.1) : Nat) : Int) := by simp
      omega
    have := needs_in (RS.num s 4).2.2 (RS.num s 4).2.1 k2
    omega
  · rw [if_neg hf]
    split
    · simp
    · rename_i hl
      have h4 : (RS.num s 4).2.1 = 4 := by omega
      rw [h4] at k3
      have := needs_in (RS.num s 4).2.2 (n := (RS.num s 4).1 / 256 * 16 + (RS.num s 4).1 % 256) 4 (by omega)
      omega
/-- Count: a number, at most a certain one. -/
def RS.count (s : RS) (most : Int) : Int × RS := if most < (RS.int s).1 then (0, (RS.int s).2.fail 7) else RS.int s
end Go.Proofs.YtgaofnmgdefdcaaDoor.Ir
