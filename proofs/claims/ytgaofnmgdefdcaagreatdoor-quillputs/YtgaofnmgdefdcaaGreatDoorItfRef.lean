/- The document's own answers for numbers (Int, Signed, Long of the package of answers), call by call: the same bytes as plain data, in new memory. -/
import Derived.Test.YtgaofnmgdefdcaaGreatDoorItfBack
namespace Go.Proofs.YtgaofnmgdefdcaaGreatDoor.Rf
open Go.RowKit Go.Proofs.YtgaofnmgdefdcaaGreatDoor.Gen Go.Proofs.YtgaofnmgdefdcaaGreatDoor.Wr Go.Proofs.YtgaofnmgdefdcaaGreatDoor.It

theorem own_new (w : World) (xs : List Int) (cs : Array Value) (n : Nat) (hc : cs = (bv xs).toArray) (hn : xs.length = n) (hm : n ≤ 1000000) : (w.alloc (.cells cs 5)).ownsRow w.heap.size 5 1 (.slice (some ⟨w.heap.size, 0, none⟩) n n) n (bv xs) := by
  subst hc
  refine ⟨by rw [bv_len]; omega, .inr ⟨w.heap.size, n, _, rfl, Nat.le_refl _, heap_alloc_new w _, Nat.le_refl _, by simp only [maxLen]; omega, ?_, ?_⟩⟩
  · simp [bv_len, hn]
  · simp
    exact List.take_of_length_le (by rw [bv_len]; omega)
theorem own_ret {w : World} {xs : List Int} {cs : Array Value} {n : Nat} (hc : cs = (bv xs).toArray) (hn : xs.length = n) (hm : n ≤ 1000000) : Own w.heap.size n xs w (.returned (.slice (some ⟨w.heap.size, 0, none⟩) n n)) (w.alloc (.cells cs 5)) :=
  ⟨_, _, rfl, own_new w xs cs n hc hn hm, (Keeps.refl _ _).alloc _⟩

theorem int1 {n : Int} (h : n < 128) : encInt n = [n] := by simp [encInt, foll, enc, be, onesOf, h, show n < 268435456 by omega]
theorem int2 {n : Int} (h0 : 128 ≤ n) (h : n < 16384) : encInt n = [128 + n / 256, n % 256] := by
  simp [encInt, foll, enc, be, onesOf, h, show n < 268435456 by omega, show ¬ n < 128 by omega]
theorem int3 {n : Int} (h0 : 16384 ≤ n) (h : n < 2097152) : encInt n = [192 + n / 65536, n / 256 % 256, n % 256] := by
  simp [encInt, foll, enc, be, onesOf, h, show n < 268435456 by omega, show ¬ n < 128 by omega, show ¬ n < 16384 by omega]
theorem int4 {n : Int} (h0 : 2097152 ≤ n) (h : n < 268435456) : encInt n = [224 + n / 16777216, n / 65536 % 256, n / 256 % 256, n % 256] := by
  simp [encInt, foll, enc, be, onesOf, h, show ¬ n < 128 by omega, show ¬ n < 16384 by omega, show ¬ n < 2097152 by omega]
  omega
theorem int5 {n : Int} (h0 : 268435456 ≤ n) (h1 : n < 4294967296) : encInt n = [240 + n / 268435456, n / 1048576 % 256, n / 4096 % 256, n / 16 % 256, n % 16] := by
  simp [encInt, enc, be, onesOf, show ¬ n < 268435456 by omega]
  omega

theorem int (n : Int) (w : World) (h0 : 0 ≤ n) (h1 : n < 4294967296) : Calls Tryz.prog 67 #[.int .u32 n] w (Own w.heap.size (encInt n).length (encInt n) w) := by
  go_enter Tryz.func67, Tryz.ntmps67
  go_wp2
  · go_ret
    rw [int1 (by assumption)]
    exact own_ret rfl rfl (by simp)
  · go_ret
    rw [int2 (by assumption) (by assumption)]
    exact own_ret rfl rfl (by simp)
  · go_ret
    rw [int3 (by assumption) (by assumption)]
    exact own_ret rfl rfl (by simp)
  · go_ret
    rw [int4 (by assumption) (by assumption)]
    exact own_ret rfl rfl (by simp)
  · go_ret
    rw [int5 (by assumption) (by assumption)]
    exact own_ret rfl rfl (by simp)
theorem int_n (n : Int) (m : Nat) (w : World) (hm : (encInt n).length = m) (h0 : 0 ≤ n) (h1 : n < 4294967296) : Calls Tryz.prog 67 #[.int .u32 n] w (Own w.heap.size m (encInt n) w) := by
  subst hm
  exact int n w h0 h1
theorem signed_n (n : Int) (m : Nat) (w : World) (hm : (encInt (n % 4294967296)).length = m) : Calls Tryz.prog 40 #[.int .i64 n] w (Own w.heap.size m (encInt (n % 4294967296)) w) := by
  have HM := Lib.hid hm
  clear hm
  go_enter Tryz.func40, Tryz.ntmps40
  go_wp2_with fail
  refine (int_n _ m w HM.out (by omega) (by omega)).mono ?_
  rintro e w1 ⟨A, c, rfl, hv, hk⟩
  have HV := Lib.hid hv
  have HK := Lib.hid hk
  clear hv hk
  go_wp2
  go_ret
  exact ⟨A, c, rfl, HV.out, HK.out⟩

/-! ### Long -/
/-- How much room the first byte has. -/
def room (j : Nat) : Int := if j = 8 then 1 else 2 ^ (7 - j)
theorem cases9 {j : Nat} (hj : j ≤ 8) : j = 0 ∨ j = 1 ∨ j = 2 ∨ j = 3 ∨ j = 4 ∨ j = 5 ∨ j = 6 ∨ j = 7 ∨ j = 8 := by omega
theorem rooms : room 0 = 128 ∧ room 1 = 64 ∧ room 2 = 32 ∧ room 3 = 16 ∧ room 4 = 8 ∧ room 5 = 4 ∧ room 6 = 2 ∧ room 7 = 1 ∧ room 8 = 1 := by decide
theorem foll_cond {n : Int} {j : Nat} (hj : j ≤ 8) : j < foll n ↔ (j < 8 ∧ room j ≤ n / 256 ^ j) := by
  have hr := rooms
  rcases cases9 hj with rfl | rfl | rfl | rfl | rfl | rfl | rfl | rfl | rfl
  all_goals simp only [Int.reducePow, Int.pow_zero]
  all_goals unfold foll
  all_goals repeat' split
  all_goals omega
theorem room_next {j : Nat} (hj : j < 7) : room j / 2 = room (j + 1) := by
  unfold room
  rcases cases9 (show j ≤ 8 by omega) with rfl | rfl | rfl | rfl | rfl | rfl | rfl | rfl | rfl
  all_goals first
    | rfl
    | omega
theorem ones_next {i : Nat} (hi : i < 8) : onesOf i + 128 / 2 ^ i = onesOf (i + 1) := by
  unfold onesOf
  rcases cases9 (show i ≤ 8 by omega) with rfl | rfl | rfl | rfl | rfl | rfl | rfl | rfl | rfl
  all_goals first
    | rfl
    | omega
theorem ones_in {i : Nat} (hi : i ≤ 8) : 0 ≤ onesOf i ∧ onesOf i < 256 := by
  unfold onesOf
  rcases cases9 hi with rfl | rfl | rfl | rfl | rfl | rfl | rfl | rfl | rfl
  all_goals decide

end Go.Proofs.YtgaofnmgdefdcaaGreatDoor.Rf
