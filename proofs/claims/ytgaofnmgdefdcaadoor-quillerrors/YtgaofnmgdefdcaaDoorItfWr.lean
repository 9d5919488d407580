/- What itf's Writer puts, call by call: the bytes of numbers behind those that it has; of a nil one nothing. -/
import Derived.Test.YtgaofnmgdefdcaaDoorJItfNumWireRd
import Derived.Test.YtgaofnmgdefdcaaDoorWireWr
import Derived.Deep.RegionHeld3
namespace Go.Proofs.YtgaofnmgdefdcaaDoor.Iw
open Go.RowKit Go.Proofs.YtgaofnmgdefdcaaDoor.Gen Go.Proofs.YtgaofnmgdefdcaaDoor.Ww Go.Proofs.YtgaofnmgdefdcaaDoor.It

theorem puts_refl {base g : Nat} {v : Value} {ys : List Int} {w : World} (h : IsWr base g v ys w) : Puts base g v ys w (.returned (.tuple #[])) w := ⟨rfl, v, h, Keeps.refl _ _, .inl rfl⟩
theorem puts_trans {base g : Nat} {v v1 : Value} {zs : List Int} {w w1 w2 : World} {r : Ending} (k : Keeps (Its g v) w w1) (ho : v1.ownBlock = v.ownBlock ∨ ∃ b, v1.ownBlock = some b ∧ w.heap.size ≤ b) (h2 : Puts base g v1 zs w1 r w2) : Puts base g v zs w r w2 := by
  obtain ⟨hr, v2, hw2, hk2, ho2⟩ := h2
  refine ⟨hr, v2, hw2, ⟨hk2.os.trans k.os, hk2.tape.trans k.tape, hk2.output.trans k.output, Nat.le_trans k.size hk2.size, fun b hb hn => ?_⟩, ?_⟩
  · refine (hk2.block b (Nat.lt_of_lt_of_le hb k.size) ?_).trans (k.block b hb hn)
    rintro (rfl | h)
    · exact hn (.inl rfl)
    · rcases ho with ho | ⟨b', ho, hb'⟩
      · exact hn (.inr (ho ▸ h))
      · rw [ho] at h
        injection h with h
        omega
  · rcases ho2 with ho2 | ⟨b', ho2, hb'⟩
    · rw [ho2]
      exact ho
    · exact .inr ⟨b', ho2, Nat.le_trans k.size hb'⟩

theorem put_none (n f : Int) (w : World) : Calls Tryd.prog 55 #[.pointer none, .int .u64 n, .int .i64 f] w fun r w' => r = .returned (.tuple #[]) ∧ w' = w := by
  go_enter Tryd.func55, Tryd.ntmps55
  go_wp2
  refine bodyPost_ret (results_none rfl _ _ _) rfl ?_
  exact ⟨rfl, rfl⟩

theorem first_eq {n : Int} {f : Nat} (h0 : 0 ≤ n) (hf : f ≤ 8) (hq : n / 256 ^ f < 2 ^ (8 - f)) : bits .or .u8 (onesOf f) (IntKind.u8.wrap (n / 2 ^ (8 * f))) = onesOf f + n / 256 ^ f := by
  have hp : (2 : Int) ^ (8 * f) = 256 ^ f := by rw [Int.pow_mul]; rfl
  have hm : (2 : Int) ^ (8 - f) ≤ 2 ^ 8 := by
    have := Nat.pow_le_pow_right (n := 2) (by decide) (show 8 - f ≤ 8 by omega)
    have hc : (2 : Int) ^ (8 - f) = ((2 ^ (8 - f) : Nat) : Int) := by simp
    rw [hc]
    omega
  have hn : 0 ≤ n / 256 ^ f := Int.ediv_nonneg h0 (Int.pow_nonneg (by decide))
  rw [hp, IntWalk.u8_in _ ⟨hn, by omega⟩]
  exact or_ones hf hn hq

theorem put (g base : Nat) (v : Value) (ys : List Int) (n : Int) (f : Nat) (w : World) (h : IsWr base g v ys w) (hn : ys.length + 9 ≤ 1000000) (h0 : 0 ≤ n) (_h1 : n < 18446744073709551616) (hf : f ≤ 8) (hq : n / 256 ^ f < 2 ^ (8 - f)) :
    Calls Tryd.prog 55 #[.pointer (some ⟨g, 0, none⟩), .int .u64 n, .int .i64 f] w (Puts base g v (ys ++ enc n f) w) := by
  have H := Lib.hid h
  have HE := Lib.hid (first_eq h0 hf hq)
  have HB := Lib.hid (be_at f n)
  have HBL := Lib.hid (be_len f n)
  clear h hq
  have hs0 : (0 : Int) ≤ 8 * (f : Int) := by omega
  have hs1 : IntKind.i64.wrap (8 * (f : Int)) = 8 * (f : Int) := IntWalk.i64_in _ (by omega)
  have hs2 : (8 * (f : Int)).toNat = 8 * f := by omega
  go_enter Tryd.func55, Tryd.ntmps55
  go_wp2
  go_region_held3 (fun _ => True) (trivial)
    ((first | (go_at_call 65; refine (ones f _ hf).mono ?_; rintro e w1 ⟨rfl, rfl⟩) | (go_at_call 43; refine (byte g base v ys _ _ (by exact H.out) (by omega)).mono ?_; rintro e w1 hp; obtain rfl := hp.1; have HP := Lib.hid hp; clear hp)))
  have HP1 : Hid (Puts base g v (ys ++ (onesOf f + n / 256 ^ f) :: (be n f).take 0) w (Ending.returned (Value.tuple #[])) w1) := by
    have hp := HP.out
    rw [HE.out] at hp
    obtain ⟨hr, v1, hw, hk, ho⟩ := hp
    exact ⟨hr, v1, hw, hk.of_drew, ho⟩
  clear HP hs0 hs1 hs2 HE
  go_wp2
  go_loopw [22] (fun i wr => ∃ j : Nat, j ≤ f ∧ i = .int .i64 j ∧ Puts base g v (ys ++ (onesOf f + n / 256 ^ f) :: (be n f).take j) w (Ending.returned (Value.tuple #[])) wr) (fun i _ => f - (intOf i).toNat)
  case atStart => exact ⟨0, Nat.zero_le _, rfl, HP1.out⟩
  case round =>
    obtain ⟨j, hj, rfl, hh⟩ := hrel
    have HH := Lib.hid hh
    clear hh HP1
    by_cases hlt : j < f
    · obtain ⟨_, v1, hw, hk, ho⟩ := HH.out
      have HW := Lib.hid hw
      have HK := Lib.hid hk
      have HO := Lib.hid ho
      have HL : Hid ((ys ++ (onesOf f + n / 256 ^ f) :: (be n f).take j).length = ys.length + 1 + j) := by
        show (ys ++ (onesOf f + n / 256 ^ f) :: (be n f).take j).length = ys.length + 1 + j
        simp [HBL.out]
        omega
      clear hw hk ho HH
      have hs0 : (0 : Int) ≤ 8 * ((f : Int) - 1 - j) := by omega
      have hs1 : IntKind.i64.wrap (8 * ((f : Int) - 1 - j)) = 8 * ((f : Int) - 1 - j) := IntWalk.i64_in _ (by omega)
      have hs2 : (8 * ((f : Int) - 1 - j)).toNat = 8 * (f - 1 - j) := by omega
      have hs3 : IntKind.i64.wrap ((f : Int) - 1) = (f : Int) - 1 := IntWalk.i64_in _ (by omega)
      have hs4 : IntKind.i64.wrap ((f : Int) - 1 - j) = (f : Int) - 1 - j := IntWalk.i64_in _ (by omega)
      go_wp2
      go_region_held3 (fun _ => True) (trivial)
        ((go_at_call 43; refine (byte g base v1 _ _ _ (by exact HW.out) (by rw [HL.out]; omega)).mono ?_; rintro e w1 hp; obtain rfl := hp.1; have HP := Lib.hid hp; clear hp))
      have HP2 : Hid (Puts base g v (ys ++ (onesOf f + n / 256 ^ f) :: (be n f).take (j + 1)) w (Ending.returned (Value.tuple #[])) w1) := by
        have hp := HP.out
        obtain ⟨hr, v2, hw2, hk2, ho2⟩ := hp
        refine puts_trans HK.out HO.out ⟨hr, v2, ?_, hk2.of_drew, ho2⟩
        have he : IntKind.u8.wrap (n / 2 ^ (8 * (f - 1 - j))) = n / 2 ^ (8 * (f - 1 - j)) % 256 := IntKind.wrap_u8 _
        rw [he] at hw2
        rw [List.take_add_one, HB.out j hlt]
        simpa using hw2
      clear HP hs0 hs1 hs2 hs3 hs4
      go_wp2
      exact ⟨⟨j + 1, by omega, by go_num, HP2.out⟩, by simp [intOf]; omega⟩
    · obtain rfl : j = f := by omega
      go_wp2
      go_end0
      have h := HH.out
      rw [List.take_of_length_le (by rw [HBL.out]; exact Nat.le_refl _)] at h
      exact h

theorem long_none (n : Int) (w : World) (h0 : 0 ≤ n) (h1 : n < 18446744073709551616) : Calls Tryd.prog 54 #[.pointer none, .int .u64 n] w fun r w' => r = .returned (.tuple #[]) ∧ w' = w := by
  go_enter Tryd.func54, Tryd.ntmps54
  go_wp2_with fail
  refine (more n w h0 h1).mono ?_
  rintro e w1 ⟨rfl, rfl⟩
  go_wp2_with fail
  refine (put_none n _ _).mono ?_
  rintro e w2 ⟨rfl, rfl⟩
  go_wp2
  go_end0
  exact ⟨rfl, rfl⟩
theorem long (g base : Nat) (v : Value) (ys : List Int) (n : Int) (w : World) (h : IsWr base g v ys w) (hn : ys.length + 9 ≤ 1000000) (h0 : 0 ≤ n) (h1 : n < 18446744073709551616) :
    Calls Tryd.prog 54 #[.pointer (some ⟨g, 0, none⟩), .int .u64 n] w (Puts base g v (ys ++ encLong n) w) := by
  have H := Lib.hid h
  have HQ := Lib.hid (foll_q n h0 h1)
  clear h
  go_enter Tryd.func54, Tryd.ntmps54
  go_wp2_with fail
  refine (more n w h0 h1).mono ?_
  rintro e w1 ⟨rfl, rfl⟩
  go_wp2_with fail
  refine (put g base v ys n (foll n) _ H.out hn h0 h1 (foll_le n) HQ.out).mono ?_
  rintro e w2 hp
  obtain rfl := hp.1
  have HP := Lib.hid hp
  clear hp
  go_wp2
  go_end0
  exact HP.out
theorem and_low {n : Int} (h0 : 0 ≤ n) (h1 : n < 4294967296) : bits .and .u32 n 15 = n % 16 := by
  obtain ⟨n, rfl⟩ := Int.eq_ofNat_of_zero_le h0
  have h := u32_and_nat n 15 (by omega) (by omega)
  rw [Nat.and_two_pow_sub_one_eq_mod n 4] at h
  exact h
theorem int_word {n : Int} (h0 : 0 ≤ n) (h1 : n < 4294967296) : bits .or .u64 (n / 16 * 256) (IntKind.u64.wrap (bits .and .u32 n 15)) = n / 16 * 256 + n % 16 := by
  rw [and_low h0 h1, IntWalk.u64_in _ (by omega)]
  exact or_low (k := 8) (by omega) (by omega) (by omega) (by omega)
theorem int_none (n : Int) (w : World) (h0 : 0 ≤ n) (h1 : n < 4294967296) : Calls Tryd.prog 36 #[.pointer none, .int .u32 n] w fun r w' => r = .returned (.tuple #[]) ∧ w' = w := by
  by_cases hs : n < 268435456
  · have hd : decide ((foll n : Int) < 4) = true := by have := (foll_int n).2 hs; simp; omega
    go_enter Tryd.func36, Tryd.ntmps36
    go_wp2_with fail
    refine (more n w h0 (by omega)).mono ?_
    rintro e w1 ⟨rfl, rfl⟩
    go_wp2_with fail
    refine (long_none n _ h0 (by omega)).mono ?_
    rintro e w2 ⟨rfl, rfl⟩
    go_wp2
    refine bodyPost_ret (results_none rfl _ _ _) rfl ?_
    exact ⟨rfl, rfl⟩
  · have hd : decide ((foll n : Int) < 4) = false := by have := foll_int n; simp; omega
    go_enter Tryd.func36, Tryd.ntmps36
    go_wp2_with fail
    refine (more n w h0 (by omega)).mono ?_
    rintro e w1 ⟨rfl, rfl⟩
    go_wp2_with fail
    refine (put_none _ _ _).mono ?_
    rintro e w2 ⟨rfl, rfl⟩
    go_wp2
    go_end0
    exact ⟨rfl, rfl⟩
theorem int (g base : Nat) (v : Value) (ys : List Int) (n : Int) (w : World) (h : IsWr base g v ys w) (hn : ys.length + 9 ≤ 1000000) (h0 : 0 ≤ n) (h1 : n < 4294967296) :
    Calls Tryd.prog 36 #[.pointer (some ⟨g, 0, none⟩), .int .u32 n] w (Puts base g v (ys ++ encInt n) w) := by
  have H := Lib.hid h
  clear h
  by_cases hs : n < 268435456
  · have hd : decide ((foll n : Int) < 4) = true := by have := (foll_int n).2 hs; simp; omega
    have HE := Lib.hid (show encInt n = encLong n by simp [encInt, encLong, hs])
    go_enter Tryd.func36, Tryd.ntmps36
    go_wp2_with fail
    refine (more n w h0 (by omega)).mono ?_
    rintro e w1 ⟨rfl, rfl⟩
    go_wp2_with fail
    refine (long g base v ys n _ H.out hn h0 (by omega)).mono ?_
    rintro e w2 hp
    obtain rfl := hp.1
    have HP := Lib.hid hp
    clear hp
    go_wp2
    refine bodyPost_ret (results_none rfl _ _ _) rfl ?_
    rw [HE.out]
    exact HP.out
  · have hd : decide ((foll n : Int) < 4) = false := by have := foll_int n; simp; omega
    have HE := Lib.hid (show encInt n = enc (n / 16 * 256 + n % 16) 4 by simp [encInt, hs])
    have HI := Lib.hid (int_word h0 h1)
    go_enter Tryd.func36, Tryd.ntmps36
    go_wp2_with fail
    refine (more n w h0 (by omega)).mono ?_
    rintro e w1 ⟨rfl, rfl⟩
    go_wp2_with fail
    rw [HI.out]
    refine (put g base v ys (n / 16 * 256 + n % 16) 4 _ H.out hn (by omega) (by omega) (by omega) (by simp; omega)).mono ?_
    rintro e w2 hp
    obtain rfl := hp.1
    have HP := Lib.hid hp
    clear hp
    go_wp2
    go_end0
    rw [HE.out]
    exact HP.out
theorem signed_none (n : Int) (w : World) : Calls Tryd.prog 22 #[.pointer none, .int .i64 n] w fun r w' => r = .returned (.tuple #[]) ∧ w' = w := by
  go_enter Tryd.func22, Tryd.ntmps22
  go_wp2_with fail
  refine (int_none _ w (by omega) (by omega)).mono ?_
  rintro e w2 ⟨rfl, rfl⟩
  go_wp2
  go_end0
  exact ⟨rfl, rfl⟩
theorem signed (g base : Nat) (v : Value) (ys : List Int) (n : Int) (w : World) (h : IsWr base g v ys w) (hn : ys.length + 9 ≤ 1000000) :
    Calls Tryd.prog 22 #[.pointer (some ⟨g, 0, none⟩), .int .i64 n] w (Puts base g v (ys ++ encInt (n % 4294967296)) w) := by
  have H := Lib.hid h
  clear h
  go_enter Tryd.func22, Tryd.ntmps22
  go_wp2_with fail
  refine (int g base v ys _ _ H.out hn (by omega) (by omega)).mono ?_
  rintro e w2 hp
  obtain rfl := hp.1
  have HP := Lib.hid hp
  clear hp
  go_wp2
  go_end0
  exact HP.out
end Go.Proofs.YtgaofnmgdefdcaaDoor.Iw
