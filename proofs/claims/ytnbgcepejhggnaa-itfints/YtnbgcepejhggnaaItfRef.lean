/- The document's own answers for numbers (Int, Signed, Long of the package of answers), call by call: the same bytes as plain data, in new memory. -/
import Derived.Test.YtnbgcepejhggnaaItfBack
namespace Go.Proofs.Ytnbgcepejhggnaa.Rf
open Go.RowKit Go.Proofs.Ytnbgcepejhggnaa.Gen Go.Proofs.Ytnbgcepejhggnaa.Wr Go.Proofs.Ytnbgcepejhggnaa.It

theorem own_new (w : World) (xs : List Int) (cs : Array Value) (n : Nat) (hc : cs = (bv xs).toArray) (hn : xs.length = n) (hm : n ≤ 1000000) : (w.alloc (.cells cs 5)).ownsRow w.heap.size 5 1 (.slice (some ⟨w.heap.size, 0, none⟩) n n) n (bv xs) := by
  subst hc
  refine ⟨by rw [bv_len]; omega, .inr ⟨w.heap.size, n, _, rfl, Nat.le_refl _, heap_alloc_new w _, Nat.le_refl _, by simp only [maxLen]; omega, ?_, ?_⟩⟩
  · simp [bv_len, hn]
  · simp
    exact List.take_of_length_le (by rw [bv_len]; omega)
theorem own_ret {w : World} {xs : List Int} {cs : Array Value} {n : Nat} (hc : cs = (bv xs).toArray) (hn : xs.length = n) (hm : n ≤ 1000000) : Own w.heap.size n xs w (.returned (.slice (some ⟨w.heap.size, 0, none⟩) n n)) (w.alloc (.cells cs 5)) :=
  ⟨_, _, rfl, own_new w xs cs n hc hn hm, (Keeps.refl _ _).alloc _⟩

theorem int1 {n : Int} (h : n < 128) : encInt n = [n] := by simp [encInt, foll, enc, be, onesOf, h, show n < 268435456 by omega]
theorem int2 {n : Int} (h0 : 128 ≤ n) (h : n < 16384) : encInt n = [128 + n / 256, n % 256] := by
  simp [encInt, foll, enc, be, onesOf, h, show n < 268435456 by omega, show ¬ n < 128 by omega]
theorem int3 {n : Int} (h0 : 16384 ≤ n) (h : n < 2097152) : encInt n = [192 + n / 65536, n / 256 % 256, n % 256] := by
  simp [encInt, foll, enc, be, onesOf, h, show n < 268435456 by omega, show ¬ n < 128 by omega, show ¬ n < 16384 by omega]
theorem int4 {n : Int} (h0 : 2097152 ≤ n) (h : n < 268435456) : encInt n = [224 + n / 16777216, n / 65536 % 256, n / 256 % 256, n % 256] := by
  simp [encInt, foll, enc, be, onesOf, h, show ¬ n < 128 by omega, show ¬ n < 16384 by omega, show ¬ n < 2097152 by omega]
  omega
theorem int5 {n : Int} (h0 : 268435456 ≤ n) (h1 : n < 4294967296) : encInt n = [240 + n / 268435456, n / 1048576 % 256, n / 4096 % 256, n / 16 % 256, n % 16] := by
  simp [encInt, enc, be, onesOf, show ¬ n < 268435456 by omega]
  omega

theorem int (n : Int) (w : World) (h0 : 0 ≤ n) (h1 : n < 4294967296) : Calls Try.prog 11 #[.int .u32 n] w (Own w.heap.size (encInt n).length (encInt n) w) := by
  go_enter Try.func11, Try.ntmps11
  go_wp2
  · go_ret
    rw [int1 (by assumption)]
    exact own_ret rfl rfl (by simp)
  · go_ret
    rw [int2 (by assumption) (by assumption)]
    exact own_ret rfl rfl (by simp)
  · go_ret
    rw [int3 (by assumption) (by assumption)]
    exact own_ret rfl rfl (by simp)
  · go_ret
    rw [int4 (by assumption) (by assumption)]
    exact own_ret rfl rfl (by simp)
  · go_ret
    rw [int5 (by assumption) (by assumption)]
    exact own_ret rfl rfl (by simp)
theorem int_n (n : Int) (m : Nat) (w : World) (hm : (encInt n).length = m) (h0 : 0 ≤ n) (h1 : n < 4294967296) : Calls Try.prog 11 #[.int .u32 n] w (Own w.heap.size m (encInt n) w) := by
  subst hm
  exact int n w h0 h1
theorem signed_n (n : Int) (m : Nat) (w : World) (hm : (encInt (n % 4294967296)).length = m) : Calls Try.prog 13 #[.int .i64 n] w (Own w.heap.size m (encInt (n % 4294967296)) w) := by
  have HM := Lib.hid hm
  clear hm
  go_enter Try.func13, Try.ntmps13
  go_wp2_with fail
  refine (int_n _ m w HM.out (by omega) (by omega)).mono ?_
  rintro e w1 ⟨A, c, rfl, hv, hk⟩
  have HV := Lib.hid hv
  have HK := Lib.hid hk
  clear hv hk
  go_wp2
  go_ret
  exact ⟨A, c, rfl, HV.out, HK.out⟩

/-! ### Long -/
/-- How much room the first byte has. -/
def room (j : Nat) : Int := if j = 8 then 1 else 2 ^ (7 - j)
theorem cases9 {j : Nat} (hj : j ≤ 8) : j = 0 ∨ j = 1 ∨ j = 2 ∨ j = 3 ∨ j = 4 ∨ j = 5 ∨ j = 6 ∨ j = 7 ∨ j = 8 := by omega
theorem rooms : room 0 = 128 ∧ room 1 = 64 ∧ room 2 = 32 ∧ room 3 = 16 ∧ room 4 = 8 ∧ room 5 = 4 ∧ room 6 = 2 ∧ room 7 = 1 ∧ room 8 = 1 := by decide
theorem foll_cond {n : Int} {j : Nat} (hj : j ≤ 8) : j < foll n ↔ (j < 8 ∧ room j ≤ n / 256 ^ j) := by
  have hr := rooms
  rcases cases9 hj with rfl | rfl | rfl | rfl | rfl | rfl | rfl | rfl | rfl
  all_goals simp only [Int.reducePow, Int.pow_zero]
  all_goals unfold foll
  all_goals repeat' split
  all_goals omega
theorem room_next {j : Nat} (hj : j < 7) : room j / 2 = room (j + 1) := by
  unfold room
  rcases cases9 (show j ≤ 8 by omega) with rfl | rfl | rfl | rfl | rfl | rfl | rfl | rfl | rfl
  all_goals first
    | rfl
    | omega
theorem ones_next {i : Nat} (hi : i < 8) : onesOf i + 128 / 2 ^ i = onesOf (i + 1) := by
  unfold onesOf
  rcases cases9 (show i ≤ 8 by omega) with rfl | rfl | rfl | rfl | rfl | rfl | rfl | rfl | rfl
  all_goals first
    | rfl
    | omega
theorem ones_in {i : Nat} (hi : i ≤ 8) : 0 ≤ onesOf i ∧ onesOf i < 256 := by
  unfold onesOf
  rcases cases9 hi with rfl | rfl | rfl | rfl | rfl | rfl | rfl | rfl | rfl
  all_goals decide

theorem long (n : Int) (w : World) (h0 : 0 ≤ n) (h1 : n < 18446744073709551616) : Calls Try.prog 20 #[.int .u64 n] w (Own w.heap.size (encLong n).length (encLong n) w) := by
  obtain ⟨i0, hi0, hz0, hz1, hz2⟩ := info_parts u8_info
  go_enter Try.func20, Try.ntmps20
  go_wp2
  go_loopw [3, 4, 5, 6] (fun low more rm left wr => ∃ (j : Nat) (A : Option Addr) (c : Nat), j ≤ foll n ∧ low = .slice A j c ∧ more = .int .i64 j ∧ rm = .int .u64 (room j) ∧ left = .int .u64 (n / 256 ^ j) ∧ wr.ownsRow w.heap.size 5 1 (.slice A j c) j (bv (be n j)) ∧ Keeps (fun _ => False) w wr) (fun _ more _ _ _ => 8 - (intOf more).toNat)
  case atStart => exact ⟨0, none, 0, Nat.zero_le _, rfl, rfl, rfl, by simp, World.ownsRow_nil _ _ _ _, Keeps.refl _ _⟩
  case round =>
    obtain ⟨j, A, c, hj, rfl, rfl, rfl, rfl, hv, hk⟩ := hrel
    have HV := Lib.hid hv
    have HK := Lib.hid hk
    have HF := foll_le n
    have HC := foll_cond (n := n) (j := j) (by omega)
    have hL0 : 0 ≤ n / 256 ^ j := Int.ediv_nonneg h0 (Int.pow_nonneg (by decide))
    have hL1 : n / 256 ^ j < 18446744073709551616 := Int.lt_of_le_of_lt (Int.ediv_le_self _ h0) h1
    obtain ⟨L, hL⟩ : ∃ L, L = n / 256 ^ j := ⟨_, rfl⟩
    rw [← hL] at HC hL0 hL1 ⊢
    have HL := Lib.hid hL
    clear hv hk hL
    by_cases hlt : j < foll n
    · obtain ⟨hj8, hrm⟩ := HC.1 hlt
      clear HC
      have HBE : Hid ([L % 256] ++ be n j = be n (j + 1)) := by
        show [L % 256] ++ be n j = be n (j + 1)
        rw [be_cons, HL.out]
        rfl
      have HLN : Hid (L / 256 = n / 256 ^ (j + 1)) := by
        show L / 256 = n / 256 ^ (j + 1)
        rw [HL.out, Int.pow_succ, Int.ediv_ediv_of_nonneg (Int.pow_nonneg (by decide))]
      have HON := Lib.hid (own_base (own_new wr [L % 256] #[.int .u8 (L % 256)] 1 rfl rfl (by omega)) HK.out.size)
      have HRM : Hid (room j / 2 = room (j + 1) ∨ j = 7) := by
        by_cases h7 : j = 7
        · exact .inr h7
        · exact .inl (room_next (by omega))
      have hro : 0 ≤ room j ∧ room j ≤ 128 := by
        have hr := rooms
        rcases cases9 (show j ≤ 8 by omega) with rfl | rfl | rfl | rfl | rfl | rfl | rfl | rfl | rfl <;> omega
      rcases HV.out.2 with ⟨hA, rfl⟩ | ⟨g', cap, cur, hA, hgb, hgh, _⟩
      · injection hA with hA1 _ hA2
        subst hA1
        subst hA2
        go_wp2_with (
          at_builtin
          refine wpList_append_own_none rfl (.tmp 20) (.tmp 21) _ rfl w.heap.size 5 i0 1 Try.underlying26 hi0 (.slice (some ⟨wr.heap.size, 0, none⟩) 1 1) 1 (bv [L % 256]) rfl HON.out rfl ?_)
        refine ⟨⟨1, _, 1, by omega, rfl, rfl, rfl, by rw [HLN.out], ?_, HK.out.alloc _⟩, by simp [intOf]⟩
        have := HON.out
        rw [show [L % 256] = be n 1 from HBE.out] at this
        exact this
      · injection hA with hA1 _ hA2
        subst hA1
        subst hA2
        have hnews := ((Lies.of_own HV.out).keeps (S := fun _ => False) ((Keeps.refl _ _).alloc (.cells #[.int .u8 (L % 256)] 5)) (fun _ _ _ => id)).news
        have HNW := Lib.hid hnews
        clear hnews
        go_wp2_with (
          at_builtin
          refine wpList_append_own_at _ rfl (.tmp 20) (.tmp 21) _ rfl w.heap.size 5 i0 _ 1 1 Try.underlying26 hi0 hz0 hz1 hz2 rfl (by omega) (.slice (some ⟨wr.heap.size, 0, none⟩) 1 1) 1 (bv [L % 256]) rfl
            HON.out ⟨g', 0, none⟩ j c (bv (be n j)) rfl (by rw [bv_len, be_len]; omega) HNW.out (bv_one _) (by simp only [maxLen]; omega) (by omega) (by have := HK.out.size; simp; omega) ?_
          intro v1 w1 hown1 hg1 hnil1 hat1
          have HKn : Hid (Keeps (fun _ => False) w w1) := ((HK.out.alloc _).grown hg1 (fun k hk => .inr (by have := HK.out.size; simp [Value.ownBlock] at hk; omega)))
          rw [Nat.add_comm] at hown1
          have HVn : Hid (w1.ownsRow w.heap.size 5 1 v1 (j + 1) (bv (be n (j + 1)))) := by
            show w1.ownsRow w.heap.size 5 1 v1 (j + 1) (bv (be n (j + 1)))
            rw [← HBE.out, bv_append]
            exact hown1
          obtain ⟨A1, c1, rfl, _⟩ := own_form hown1
          clear hown1 hg1 hnil1 hat1)
        · rename_i h7
          simp only [beq_iff_eq] at h7
          refine ⟨⟨j + 1, _, _, by omega, rfl, by go_num, ?_, by rw [HLN.out], HVn.out, HKn.out⟩, by simp [intOf]; omega⟩
          rw [show j = 7 by omega]
          rfl
        · rename_i h7
          simp only [beq_eq_false_iff_ne] at h7
          refine ⟨⟨j + 1, _, _, by omega, rfl, by go_num, ?_, by rw [HLN.out], HVn.out, HKn.out⟩, by simp [intOf]; omega⟩
          rcases HRM.out with h | h
          · rw [h]
          · omega
    · obtain rfl : j = foll n := by omega
      have HQ := Ib.mod_of HF (f := foll n) (a := L) hL0 (by rw [HL.out]; exact foll_q n h0 h1)
      obtain ⟨_, _, hx0, hx1⟩ := HQ
      have ho := ones_in HF
      have HE : Hid ([onesOf (foll n) + L] ++ be n (foll n) = encLong n) := by
        show [onesOf (foll n) + L] ++ be n (foll n) = encLong n
        rw [HL.out]
        rfl
      have HEL : Hid ((encLong n).length = foll n + 1) := enc_len n (foll n)
      have hc : (foll n < 8 ∧ L < room (foll n)) ∨ ¬ (foll n < 8) := by omega
      clear HC hlt hj
      generalize foll n = j at *
      rcases hc with ⟨hj8, hc⟩ | hc
      all_goals
        go_wp2
        go_loop [7, 8] (fun o i => ∃ k : Nat, k ≤ j ∧ o = .int .i64 (onesOf k) ∧ i = .int .i64 k) (fun _ i => j - (intOf i).toNat)
        case atStart => exact ⟨0, Nat.zero_le _, rfl, rfl⟩
        case round =>
          obtain ⟨k, hk, rfl, rfl⟩ := hrel
          by_cases hlt : k < j
          · have hi := ones_in (show k ≤ 8 by omega)
            have hi2 := ones_in (show k + 1 ≤ 8 by omega)
            have hnx := ones_next (show k < 8 by omega)
            go_wp2
            exact ⟨⟨k + 1, by omega, rfl, by go_num⟩, by simp [intOf]; omega⟩
          · obtain rfl : k = j := by omega
            have HON := Lib.hid (own_base (own_new wr [onesOf k + L] #[.int .u8 (onesOf k + L)] 1 rfl rfl (by omega)) HK.out.size)
            rcases HV.out.2 with ⟨hA, rfl⟩ | ⟨g', cap, cur, hA, hgb, hgh, _⟩
            · injection hA with hA1 _ hA2
              subst hA1
              subst hA2
              first
                | (exfalso; omega)
                | (go_wp2_with (
                     at_builtin
                     refine wpList_append_own_none rfl (.tmp 45) (.tmp 46) _ rfl w.heap.size 5 i0 1 Try.underlying26 hi0 (.slice (some ⟨wr.heap.size, 0, none⟩) 1 1) 1 (bv [onesOf 0 + L]) rfl HON.out rfl ?_)
                   go_ret
                   rw [HEL.out, ← HE.out]
                   exact ⟨_, _, rfl, HON.out, HK.out.alloc _⟩)
            · injection hA with hA1 _ hA2
              subst hA1
              subst hA2
              have hnews := ((Lies.of_own HV.out).keeps (S := fun _ => False) ((Keeps.refl _ _).alloc (.cells #[.int .u8 (onesOf k + L)] 5)) (fun _ _ _ => id)).news
              have HNW := Lib.hid hnews
              clear hnews
              go_wp2_with (
                at_builtin
                refine wpList_append_own_at _ rfl (.tmp 45) (.tmp 46) _ rfl w.heap.size 5 i0 _ 1 1 Try.underlying26 hi0 hz0 hz1 hz2 rfl (by omega) (.slice (some ⟨wr.heap.size, 0, none⟩) 1 1) 1 (bv [onesOf k + L]) rfl
                  HON.out ⟨g', 0, none⟩ k c (bv (be n k)) rfl (by rw [bv_len, be_len]; omega) HNW.out (bv_one _) (by simp only [maxLen]; omega) (by omega) (by have := HK.out.size; simp; omega) ?_
                intro v1 w1 hown1 hg1 hnil1 hat1
                have HKn : Hid (Keeps (fun _ => False) w w1) := ((HK.out.alloc _).grown hg1 (fun k hk => .inr (by have := HK.out.size; simp [Value.ownBlock] at hk; omega)))
                rw [Nat.add_comm] at hown1
                have HVn : Hid (w1.ownsRow w.heap.size 5 1 v1 (k + 1) (bv (encLong n))) := by
                  show w1.ownsRow w.heap.size 5 1 v1 (k + 1) (bv (encLong n))
                  rw [← HE.out, bv_append]
                  exact hown1
                obtain ⟨A1, c1, rfl, _⟩ := own_form hown1
                clear hown1 hg1 hnil1 hat1)
              go_ret
              rw [HEL.out]
              exact ⟨_, _, rfl, HVn.out, HKn.out⟩
theorem long_n (n : Int) (m : Nat) (w : World) (hm : (encLong n).length = m) (h0 : 0 ≤ n) (h1 : n < 18446744073709551616) : Calls Try.prog 20 #[.int .u64 n] w (Own w.heap.size m (encLong n) w) := by
  subst hm
  exact long n w h0 h1
end Go.Proofs.Ytnbgcepejhggnaa.Rf
