/- bits' small functions, call by call: a size out of range is the nearest one; a number's lowest bits. -/
import Derived.Test.YtbicieflcgifdaaClone
import Derived.Test.YtbicieflcgifdaaBitPlain
namespace Go.Proofs.Ytbicieflcgifdaa.Bf
open Go.RowKit Go.Proofs.Ytbicieflcgifdaa.Gen Go.Proofs.Ytbicieflcgifdaa.Bp

/-- How many bits are meant. -/
def sz (s : Int) : Nat := (min (max s 0) 32).toNat
theorem sz_le (s : Int) : sz s ≤ 32 := by unfold sz; omega
theorem low_eq {n s : Nat} (h1 : n < 18446744073709551616) (hs : s ≤ 32) : bits BinOp.and IntKind.u64 (n : Int) (IntKind.u64.wrap (IntKind.u64.wrap (2 ^ s) - 1)) % 4294967296 = ((n % 2 ^ s : Nat) : Int) := by
  have hp : 2 ^ s ≤ 2 ^ 32 := Nat.pow_le_pow_right (by decide) hs
  have h0 := Nat.two_pow_pos s
  have hc : (2 : Int) ^ s = ((2 ^ s : Nat) : Int) := by simp
  have hm := Nat.mod_lt n h0
  have ha := Nat.and_two_pow_sub_one_eq_mod n s
  rw [hc]
  generalize 2 ^ s = m at *
  rw [IntWalk.u64_in (m : Int) (by omega), IntWalk.u64_in ((m : Int) - 1) (by omega), show (m : Int) - 1 = ((m - 1 : Nat) : Int) by omega, u64_and_nat n (m - 1) h1 (by omega), ha]
  omega
theorem or_byte {n x : Nat} (hn : n < 4294967296) (hx : x < 256) : bits .or .u64 ((n : Int) * 256) (x : Int) = ((n * 256 + x : Nat) : Int) := by
  have ho := Nat.two_pow_add_eq_or_of_lt (i := 8) hx n
  rw [show (n : Int) * 256 = ((n * 256 : Nat) : Int) by simp, u64_or_nat (n * 256) x (by omega) (by omega), show n * 256 = 2 ^ 8 * n by omega, ← ho]
end Go.Proofs.Ytbicieflcgifdaa.Bf
