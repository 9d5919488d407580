/- The document's own answers for sums (Sum, Word of the package of answers), call by call: the same numbers as plain data, in new memory. -/
import Derived.Test.YtbehchibgkgpbaaCrcFlip
import Derived.Lib.AppendStr
import Derived.Lib.Strings
import Derived.RegionTactic
import Derived.ChangeAlike
import Derived.BigRegion
namespace Go.Proofs.Ytbehchibgkgpbaa.Cq
open Go.RowKit Go.Proofs.Ytbehchibgkgpbaa.Gen Go.Proofs.Ytbehchibgkgpbaa.Cp Go.Proofs.Ytbehchibgkgpbaa.Ct Go.Proofs.Ytbehchibgkgpbaa.Cs Go.Proofs.Ytbehchibgkgpbaa.Cu Go.Proofs.Ytbehchibgkgpbaa.Cr Go.Proofs.Ytbehchibgkgpbaa.Cf

theorem word (q : Nat) (w : World) (hq : q < 4294967296) : Calls Try.prog 12 #[.int .u32 (q : Int)] w (Own w.heap.size 4 (wordAt q 4) w) := by
  have HC : Hid (#[Value.int .u8 ((q : Int) % 256), .int .u8 ((q : Int) / 256 % 256), .int .u8 ((q : Int) / 65536 % 256), .int .u8 ((q : Int) / 16777216)] = (bv (wordAt q 4)).toArray) := by
    show _ = _
    simp [bv, wordAt, List.range_succ]
    omega
  go_enter Try.func12, Try.ntmps12
  go_wp2
  go_ret
  rw [HC.out]
  exact ⟨_, _, rfl, ⟨by simp [bv_len, wordAt_len], .inr ⟨_, _, _, rfl, Nat.le_refl _, heap_alloc_new w _, Nat.le_refl _, by simp only [maxLen]; omega, by simp [bv_len, wordAt_len], by simp [List.take_of_length_le, bv_len, wordAt_len]⟩⟩, (Keeps.refl _ _).alloc _⟩
theorem lows_snoc : ∀ (n w : Nat), lows w (n + 1) = lows w n ++ [w / 2 ^ n % 2]
  | 0, w => by simp [lows]
  | n + 1, w => by
    show w % 2 :: lows (w / 2) (n + 1) = w % 2 :: lows (w / 2) n ++ [w / 2 ^ (n + 1) % 2]
    rw [lows_snoc n (w / 2), Nat.div_div_eq_div_mul, Nat.pow_succ, Nat.mul_comm 2]
    rfl
theorem turns_snoc (l : List Nat) (i : Nat) (ts : List Nat) (t : Nat) : turns l i (ts ++ [t]) = turn (turns l i ts) (i + t) := by simp [turns]
def z32 : ByteArray := ⟨Array.replicate 32 0⟩
theorem zeros_str (ty : TypeId) (base : Option Addr) (n c : Nat) (w : World) (hn : n ≤ 1000000) :
    (Builtin.append_ #[22, 3] ty #[.slice base n c, .int .i64 32]).run Try.prog w = (Builtin.append_ #[22, 9] ty #[.slice base n c, .string z32]).run Try.prog w := by
  obtain ⟨i0, hi0, hz0, hz1, hz2⟩ := info_parts u8_info
  have hsz : z32.size = 32 := rfl
  have hzc : Builtin.zeroCells (Value.int .u8 0).cells 32 = (Lib.strCells z32).toArray := by kernel_rfl
  have hf : ∀ w, (Builtin.firstCells 1 32 (.string z32)).run Try.prog w = .ok (Lib.strCells z32).toArray w := fun w => Lib.run_firstCells_string (P := Try.prog) w 1 z32
  have hw : IntKind.i64.wrap 32 = 32 := by decide
  by_cases hroom : n + 32 ≤ c
  · simp [Builtin.append_, Try.underlying22, Try.underlying3, Try.underlying9, run_underlying, sizeOf, typeInfo, zeroValue, hi0, hz0, hz1, hz2, asInt, asIntOf, Builtin.lenOf, hsz, hf, hroom, hw, hzc]
  · have hfit : ¬ (281474976710656 < Builtin.nextslicecap (n + 32) c) := by
      have := growslice_fits (need := n + 32) (old := c) (bytes := 1) (by omega) (by omega)
      omega
    have h63 : ¬ ((9223372036854775807 : Int) < (n : Int) + max 32 0) := by omega
    simp [Builtin.append_, Try.underlying22, Try.underlying3, Try.underlying9, run_underlying, sizeOf, typeInfo, zeroValue, hi0, hz0, hz1, hz2, asInt, asIntOf, Builtin.lenOf, hsz, hf, hroom, hw, hzc, hfit, h63]
end Go.Proofs.Ytbehchibgkgpbaa.Cq
