/- math/bits: Len64, Len8, LeadingZeros8: how many bits a number needs, how many noughts a byte begins with. The range of each number's kind is asked, no more. -/
import Derived.Test.YtgaofnmgdefdcaaGreatDoorProg
import Derived.WalkKit
import Derived.Lib.Strings
import Derived.Lib.Slices
import Derived.Lib.Small
import Derived.Lib.Walk
import Derived.Lib.BitFns
import Derived.Lib.Hide
namespace Go.Proofs.YtgaofnmgdefdcaaGreatDoor.Bl
open Go.RowKit

theorem len_gt {x k : Nat} (h : 2 ^ k ≤ x) (hx : x < 2 ^ 64) : k < Lib.bitLen x := by
  have h1 : x / 2 ^ k ≠ 0 := by
    have := Nat.div_pos h (Nat.two_pow_pos k)
    omega
  have h2 : x / 2 ^ k < 2 ^ 64 := Nat.lt_of_le_of_lt (Nat.div_le_self _ _) hx
  rw [Lib.bitLen_shift k x h hx, Lib.bitLen_half _ h1 h2]
  omega
/-- A number needs k bits at most just if it is below 2^k. -/
theorem len_le {x k : Nat} (hk : k ≤ 64) (hx : x < 2 ^ 64) : Lib.bitLen x ≤ k ↔ x < 2 ^ k := by
  constructor
  · intro h
    rcases Nat.lt_or_ge x (2 ^ k) with h1 | h1
    · exact h1
    · have := len_gt h1 hx
      omega
  · exact Lib.bitLen_le x k hk
theorem tab_get (i : Nat) (h : i < Lib.len8tab.size) : (Lib.len8tab[i].toNat : Int) = (Lib.bitLen i : Int) ∧ Lib.bitLen i ≤ 8 := by
  have h2 : i < 256 := by rw [Lib.len8tab_size] at h; exact h
  have h3 := Lib.len8_of (i : Int) (by omega) (by omega)
  have h4 := Lib.bitLen_le8' (i : Int) (by omega) (by omega)
  simp only [Int.toNat_natCast] at h3 h4
  refine ⟨?_, h4⟩
  rw [← h3, Lib.len8, Int.toNat_natCast, getElem?_pos Lib.len8tab i h]
  rfl
/-- What the walk leaves at the end of Len64: k bits were cut off below, the byte that is left is looked up. -/
theorem tab {x : Int} {y k : Nat} (h : y < Lib.len8tab.size) (hx1 : x < 18446744073709551616) (hq : y = x.toNat / 2 ^ k) (hk : k ≤ 56) (hs : k = 0 ∨ 2 ^ k ≤ x.toNat) :
    wrap64 ((k : Int) + wrap64 (Lib.len8tab[y].toNat : Int)) = (Lib.bitLen x.toNat : Int) := by
  obtain ⟨h1, h2⟩ := tab_get y h
  have h3 : wrap64 (Lib.bitLen y : Int) = Lib.bitLen y := IntWalk.wrap64_in _ (by omega)
  rw [h1, h3, IntWalk.wrap64_in _ (by omega), hq]
  rcases hs with rfl | hs
  · simp
  · rw [Lib.bitLen_shift k x.toNat hs (by omega)]
    omega
set_option maxRecDepth 100000 in
set_option maxHeartbeats 4000000 in
theorem len8 (x : Int) (w : World) (h0 : 0 ≤ x) (h1 : x ≤ 255) : Calls Tryz.prog 147 #[.int .u8 x] w fun r w' => r = .returned (.int .i64 (Lib.bitLen x.toNat)) ∧ w' = w := by
  go_enter Tryz.func147, Tryz.ntmps147
  go_wp2
  go_ret
  have hl := Lib.bitLen_le8' x h0 h1
  exact ⟨by rw [Lib.len8_of x h0 h1, IntWalk.wrap64_in _ (by omega)]; rfl, rfl⟩
set_option maxHeartbeats 4000000 in
set_option maxRecDepth 100000 in
theorem len64 (x : Int) (w : World) (h0 : 0 ≤ x) (h1 : x < 18446744073709551616) : Calls Tryz.prog 105 #[.int .u64 x] w fun r w' => r = .returned (.int .i64 (Lib.bitLen x.toNat)) ∧ w' = w := by
  go_enter Tryz.func105, Tryz.ntmps105
  go_wp2
  all_goals first
    | (exfalso; rename_i h; rw [Lib.len8tab_size] at h; omega)
    | (go_ret; refine ⟨congrArg Ending.returned (congrArg (Value.int IntKind.i64) ?_), rfl⟩)
  · exact tab (k := 56) _ h1 (by omega) (by omega) (by omega)
  · exact tab (k := 48) _ h1 (by omega) (by omega) (by omega)
  · exact tab (k := 40) _ h1 (by omega) (by omega) (by omega)
  · exact tab (k := 32) _ h1 (by omega) (by omega) (by omega)
  · exact tab (k := 24) _ h1 (by omega) (by omega) (by omega)
  · exact tab (k := 16) _ h1 (by omega) (by omega) (by omega)
  · exact tab (k := 8) _ h1 (by omega) (by omega) (by omega)
  · have h := tab (x := x) (y := x.toNat) (k := 0) (by omega) h1 (by simp) (by omega) (.inl rfl)
    simpa using h
theorem lead8 (x : Int) (w : World) (h0 : 0 ≤ x) (h1 : x < 256) : Calls Tryz.prog 143 #[.int .u8 x] w fun r w' => r = .returned (.int .i64 (8 - Lib.bitLen x.toNat)) ∧ w' = w := by
  have hl := Lib.bitLen_le8' x h0 (by omega)
  go_enter Tryz.func143, Tryz.ntmps143
  go_wp2_with fail
  refine (len8 x w h0 (by omega)).mono ?_
  rintro e w1 ⟨rfl, rfl⟩
  go_wp2
  go_ret
  exact ⟨rfl, rfl⟩
end Go.Proofs.YtgaofnmgdefdcaaGreatDoor.Bl
