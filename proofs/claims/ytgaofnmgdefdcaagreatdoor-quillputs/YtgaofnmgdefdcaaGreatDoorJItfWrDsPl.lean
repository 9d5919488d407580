/- What itf's Writer puts, call by call: the bytes of numbers behind those that it has; of a nil one nothing. -/
/- A Writer beside a row of bytes of one's own (what is wanted): they lie apart, whatever is put or appended. Rows of numbers as bytes, one behind the other. -/
/- Ways to put a series, as plain data: whether they may be; their bytes; taken from bytes (desc). Names no function of the program. -/
import Derived.Test.YtgaofnmgdefdcaaGreatDoorJItfNumWireRd
import Derived.Test.YtgaofnmgdefdcaaGreatDoorWireWr
import Derived.Deep.RegionHeld3
import Derived.Test.YtgaofnmgdefdcaaGreatDoorItfBack
import Derived.Test.YtgaofnmgdefdcaaGreatDoorJHufNewHufNewC

namespace Go.Proofs.YtgaofnmgdefdcaaGreatDoor.Iw
open Go.RowKit Go.Proofs.YtgaofnmgdefdcaaGreatDoor.Gen Go.Proofs.YtgaofnmgdefdcaaGreatDoor.Ww Go.Proofs.YtgaofnmgdefdcaaGreatDoor.It

theorem puts_refl {base g : Nat} {v : Value} {ys : List Int} {w : World} (h : IsWr base g v ys w) : Puts base g v ys w (.returned (.tuple #[])) w := ⟨rfl, v, h, Keeps.refl _ _, .inl rfl⟩
theorem puts_trans {base g : Nat} {v v1 : Value} {zs : List Int} {w w1 w2 : World} {r : Ending} (k : Keeps (Its g v) w w1) (ho : v1.ownBlock = v.ownBlock ∨ ∃ b, v1.ownBlock = some b ∧ w.heap.size ≤ b) (h2 : Puts base g v1 zs w1 r w2) : Puts base g v zs w r w2 := by
  obtain ⟨hr, v2, hw2, hk2, ho2⟩ := h2
  refine ⟨hr, v2, hw2, ⟨hk2.os.trans k.os, hk2.tape.trans k.tape, hk2.output.trans k.output, Nat.le_trans k.size hk2.size, fun b hb hn => ?_⟩, ?_⟩
  · refine (hk2.block b (Nat.lt_of_lt_of_le hb k.size) ?_).trans (k.block b hb hn)
    rintro (rfl | h)
    · exact hn (.inl rfl)
    · rcases ho with ho | ⟨b', ho, hb'⟩
      · exact hn (.inr (ho ▸ h))
      · rw [ho] at h
        injection h with h
        omega
  · rcases ho2 with ho2 | ⟨b', ho2, hb'⟩
    · rw [ho2]
      exact ho
    · exact .inr ⟨b', ho2, Nat.le_trans k.size hb'⟩

theorem put_none (n f : Int) (w : World) : Calls Tryz.prog 90 #[.pointer none, .int .u64 n, .int .i64 f] w fun r w' => r = .returned (.tuple #[]) ∧ w' = w := by
  go_enter Tryz.func90, Tryz.ntmps90
  go_wp2
  refine bodyPost_ret (results_none rfl _ _ _) rfl ?_
  exact ⟨rfl, rfl⟩

theorem first_eq {n : Int} {f : Nat} (h0 : 0 ≤ n) (hf : f ≤ 8) (hq : n / 256 ^ f < 2 ^ (8 - f)) : bits .or .u8 (onesOf f) (IntKind.u8.wrap (n / 2 ^ (8 * f))) = onesOf f + n / 256 ^ f := by
  have hp : (2 : Int) ^ (8 * f) = 256 ^ f := by rw [Int.pow_mul]; rfl
  have hm : (2 : Int) ^ (8 - f) ≤ 2 ^ 8 := by
    have := Nat.pow_le_pow_right (n := 2) (by decide) (show 8 - f ≤ 8 by omega)
    have hc : (2 : Int) ^ (8 - f) = ((2 ^ (8 - f) : Nat) : Int) := by simp
    rw [hc]
    omega
  have hn : 0 ≤ n / 256 ^ f := Int.ediv_nonneg h0 (Int.pow_nonneg (by decide))
  rw [hp, IntWalk.u8_in _ ⟨hn, by omega⟩]
  exact or_ones hf hn hq

theorem put (g base : Nat) (v : Value) (ys : List Int) (n : Int) (f : Nat) (w : World) (h : IsWr base g v ys w) (hn : ys.length + 9 ≤ 1000000) (h0 : 0 ≤ n) (_h1 : n < 18446744073709551616) (hf : f ≤ 8) (hq : n / 256 ^ f < 2 ^ (8 - f)) :
    Calls Tryz.prog 90 #[.pointer (some ⟨g, 0, none⟩), .int .u64 n, .int .i64 f] w (Puts base g v (ys ++ enc n f) w) := by
  have H := Lib.hid h
  have HE := Lib.hid (first_eq h0 hf hq)
  have HB := Lib.hid (be_at f n)
  have HBL := Lib.hid (be_len f n)
  clear h hq
  have hs0 : (0 : Int) ≤ 8 * (f : Int) := by omega
  have hs1 : IntKind.i64.wrap (8 * (f : Int)) = 8 * (f : Int) := IntWalk.i64_in _ (by omega)
  have hs2 : (8 * (f : Int)).toNat = 8 * f := by omega
  go_enter Tryz.func90, Tryz.ntmps90
  go_wp2
  go_region_held3 (fun _ => True) (trivial)
    ((first | (go_at_call 106; refine (ones f _ hf).mono ?_; rintro e w1 ⟨rfl, rfl⟩) | (go_at_call 61; refine (byte g base v ys _ _ (by exact H.out) (by omega)).mono ?_; rintro e w1 hp; obtain rfl := hp.1; have HP := Lib.hid hp; clear hp)))
  have HP1 : Hid (Puts base g v (ys ++ (onesOf f + n / 256 ^ f) :: (be n f).take 0) w (Ending.returned (Value.tuple #[])) w1) := by
    have hp := HP.out
    rw [HE.out] at hp
    obtain ⟨hr, v1, hw, hk, ho⟩ := hp
    exact ⟨hr, v1, hw, hk.of_drew, ho⟩
  clear HP hs0 hs1 hs2 HE
  go_wp2
  go_loopw [22] (fun i wr => ∃ j : Nat, j ≤ f ∧ i = .int .i64 j ∧ Puts base g v (ys ++ (onesOf f + n / 256 ^ f) :: (be n f).take j) w (Ending.returned (Value.tuple #[])) wr) (fun i _ => f - (intOf i).toNat)
  case atStart => exact ⟨0, Nat.zero_le _, rfl, HP1.out⟩
  case round =>
    obtain ⟨j, hj, rfl, hh⟩ := hrel
    have HH := Lib.hid hh
    clear hh HP1
    by_cases hlt : j < f
    · obtain ⟨_, v1, hw, hk, ho⟩ := HH.out
      have HW := Lib.hid hw
      have HK := Lib.hid hk
      have HO := Lib.hid ho
      have HL : Hid ((ys ++ (onesOf f + n / 256 ^ f) :: (be n f).take j).length = ys.length + 1 + j) := by
        show (ys ++ (onesOf f + n / 256 ^ f) :: (be n f).take j).length = ys.length + 1 + j
        simp [HBL.out]
        omega
      clear hw hk ho HH
      have hs0 : (0 : Int) ≤ 8 * ((f : Int) - 1 - j) := by omega
      have hs1 : IntKind.i64.wrap (8 * ((f : Int) - 1 - j)) = 8 * ((f : Int) - 1 - j) := IntWalk.i64_in _ (by omega)
      have hs2 : (8 * ((f : Int) - 1 - j)).toNat = 8 * (f - 1 - j) := by omega
      have hs3 : IntKind.i64.wrap ((f : Int) - 1) = (f : Int) - 1 := IntWalk.i64_in _ (by omega)
      have hs4 : IntKind.i64.wrap ((f : Int) - 1 - j) = (f : Int) - 1 - j := IntWalk.i64_in _ (by omega)
      go_wp2
      go_region_held3 (fun _ => True) (trivial)
        ((go_at_call 61; refine (byte g base v1 _ _ _ (by exact HW.out) (by rw [HL.out]; omega)).mono ?_; rintro e w1 hp; obtain rfl := hp.1; have HP := Lib.hid hp; clear hp))
      have HP2 : Hid (Puts base g v (ys ++ (onesOf f + n / 256 ^ f) :: (be n f).take (j + 1)) w (Ending.returned (Value.tuple #[])) w1) := by
        have hp := HP.out
        obtain ⟨hr, v2, hw2, hk2, ho2⟩ := hp
        refine puts_trans HK.out HO.out ⟨hr, v2, ?_, hk2.of_drew, ho2⟩
        have he : IntKind.u8.wrap (n / 2 ^ (8 * (f - 1 - j))) = n / 2 ^ (8 * (f - 1 - j)) % 256 := IntKind.wrap_u8 _
        rw [he] at hw2
        rw [List.take_add_one, HB.out j hlt]
        simpa using hw2
      clear HP hs0 hs1 hs2 hs3 hs4
      go_wp2
      exact ⟨⟨j + 1, by omega, by go_num, HP2.out⟩, by simp [intOf]; omega⟩
    · obtain rfl : j = f := by omega
      go_wp2
      go_end0
      have h := HH.out
      rw [List.take_of_length_le (by rw [HBL.out]; exact Nat.le_refl _)] at h
      exact h

theorem long_none (n : Int) (w : World) (h0 : 0 ≤ n) (h1 : n < 18446744073709551616) : Calls Tryz.prog 89 #[.pointer none, .int .u64 n] w fun r w' => r = .returned (.tuple #[]) ∧ w' = w := by
  go_enter Tryz.func89, Tryz.ntmps89
  go_wp2_with fail
  refine (more n w h0 h1).mono ?_
  rintro e w1 ⟨rfl, rfl⟩
  go_wp2_with fail
  refine (put_none n _ _).mono ?_
  rintro e w2 ⟨rfl, rfl⟩
  go_wp2
  go_end0
  exact ⟨rfl, rfl⟩
theorem long (g base : Nat) (v : Value) (ys : List Int) (n : Int) (w : World) (h : IsWr base g v ys w) (hn : ys.length + 9 ≤ 1000000) (h0 : 0 ≤ n) (h1 : n < 18446744073709551616) :
    Calls Tryz.prog 89 #[.pointer (some ⟨g, 0, none⟩), .int .u64 n] w (Puts base g v (ys ++ encLong n) w) := by
  have H := Lib.hid h
  have HQ := Lib.hid (foll_q n h0 h1)
  clear h
  go_enter Tryz.func89, Tryz.ntmps89
  go_wp2_with fail
  refine (more n w h0 h1).mono ?_
  rintro e w1 ⟨rfl, rfl⟩
  go_wp2_with fail
  refine (put g base v ys n (foll n) _ H.out hn h0 h1 (foll_le n) HQ.out).mono ?_
  rintro e w2 hp
  obtain rfl := hp.1
  have HP := Lib.hid hp
  clear hp
  go_wp2
  go_end0
  exact HP.out
theorem and_low {n : Int} (h0 : 0 ≤ n) (h1 : n < 4294967296) : bits .and .u32 n 15 = n % 16 := by
  obtain ⟨n, rfl⟩ := Int.eq_ofNat_of_zero_le h0
  have h := u32_and_nat n 15 (by omega) (by omega)
  rw [Nat.and_two_pow_sub_one_eq_mod n 4] at h
  exact h
theorem int_word {n : Int} (h0 : 0 ≤ n) (h1 : n < 4294967296) : bits .or .u64 (n / 16 * 256) (IntKind.u64.wrap (bits .and .u32 n 15)) = n / 16 * 256 + n % 16 := by
  rw [and_low h0 h1, IntWalk.u64_in _ (by omega)]
  exact or_low (k := 8) (by omega) (by omega) (by omega) (by omega)
theorem int_none (n : Int) (w : World) (h0 : 0 ≤ n) (h1 : n < 4294967296) : Calls Tryz.prog 63 #[.pointer none, .int .u32 n] w fun r w' => r = .returned (.tuple #[]) ∧ w' = w := by
  by_cases hs : n < 268435456
  · have hd : decide ((foll n : Int) < 4) = true := by have := (foll_int n).2 hs; simp; omega
    go_enter Tryz.func63, Tryz.ntmps63
    go_wp2_with fail
    refine (more n w h0 (by omega)).mono ?_
    rintro e w1 ⟨rfl, rfl⟩
    go_wp2_with fail
    refine (long_none n _ h0 (by omega)).mono ?_
    rintro e w2 ⟨rfl, rfl⟩
    go_wp2
    refine bodyPost_ret (results_none rfl _ _ _) rfl ?_
    exact ⟨rfl, rfl⟩
  · have hd : decide ((foll n : Int) < 4) = false := by have := foll_int n; simp; omega
    go_enter Tryz.func63, Tryz.ntmps63
    go_wp2_with fail
    refine (more n w h0 (by omega)).mono ?_
    rintro e w1 ⟨rfl, rfl⟩
    go_wp2_with fail
    refine (put_none _ _ _).mono ?_
    rintro e w2 ⟨rfl, rfl⟩
    go_wp2
    go_end0
    exact ⟨rfl, rfl⟩
theorem int (g base : Nat) (v : Value) (ys : List Int) (n : Int) (w : World) (h : IsWr base g v ys w) (hn : ys.length + 9 ≤ 1000000) (h0 : 0 ≤ n) (h1 : n < 4294967296) :
    Calls Tryz.prog 63 #[.pointer (some ⟨g, 0, none⟩), .int .u32 n] w (Puts base g v (ys ++ encInt n) w) := by
  have H := Lib.hid h
  clear h
  by_cases hs : n < 268435456
  · have hd : decide ((foll n : Int) < 4) = true := by have := (foll_int n).2 hs; simp; omega
    have HE := Lib.hid (show encInt n = encLong n by simp [encInt, encLong, hs])
    go_enter Tryz.func63, Tryz.ntmps63
    go_wp2_with fail
    refine (more n w h0 (by omega)).mono ?_
    rintro e w1 ⟨rfl, rfl⟩
    go_wp2_with fail
    refine (long g base v ys n _ H.out hn h0 (by omega)).mono ?_
    rintro e w2 hp
    obtain rfl := hp.1
    have HP := Lib.hid hp
    clear hp
    go_wp2
    refine bodyPost_ret (results_none rfl _ _ _) rfl ?_
    rw [HE.out]
    exact HP.out
  · have hd : decide ((foll n : Int) < 4) = false := by have := foll_int n; simp; omega
    have HE := Lib.hid (show encInt n = enc (n / 16 * 256 + n % 16) 4 by simp [encInt, hs])
    have HI := Lib.hid (int_word h0 h1)
    go_enter Tryz.func63, Tryz.ntmps63
    go_wp2_with fail
    refine (more n w h0 (by omega)).mono ?_
    rintro e w1 ⟨rfl, rfl⟩
    go_wp2_with fail
    rw [HI.out]
    refine (put g base v ys (n / 16 * 256 + n % 16) 4 _ H.out hn (by omega) (by omega) (by omega) (by simp; omega)).mono ?_
    rintro e w2 hp
    obtain rfl := hp.1
    have HP := Lib.hid hp
    clear hp
    go_wp2
    go_end0
    rw [HE.out]
    exact HP.out
theorem signed_none (n : Int) (w : World) : Calls Tryz.prog 37 #[.pointer none, .int .i64 n] w fun r w' => r = .returned (.tuple #[]) ∧ w' = w := by
  go_enter Tryz.func37, Tryz.ntmps37
  go_wp2_with fail
  refine (int_none _ w (by omega) (by omega)).mono ?_
  rintro e w2 ⟨rfl, rfl⟩
  go_wp2
  go_end0
  exact ⟨rfl, rfl⟩
theorem signed (g base : Nat) (v : Value) (ys : List Int) (n : Int) (w : World) (h : IsWr base g v ys w) (hn : ys.length + 9 ≤ 1000000) :
    Calls Tryz.prog 37 #[.pointer (some ⟨g, 0, none⟩), .int .i64 n] w (Puts base g v (ys ++ encInt (n % 4294967296)) w) := by
  have H := Lib.hid h
  clear h
  go_enter Tryz.func37, Tryz.ntmps37
  go_wp2_with fail
  refine (int g base v ys _ _ H.out hn (by omega) (by omega)).mono ?_
  rintro e w2 hp
  obtain rfl := hp.1
  have HP := Lib.hid hp
  clear hp
  go_wp2
  go_end0
  exact HP.out
end Go.Proofs.YtgaofnmgdefdcaaGreatDoor.Iw

namespace Go.Proofs.YtgaofnmgdefdcaaGreatDoor.Tw
open Go.RowKit Go.Proofs.YtgaofnmgdefdcaaGreatDoor.Gen Go.Proofs.YtgaofnmgdefdcaaGreatDoor.Wr Go.Proofs.YtgaofnmgdefdcaaGreatDoor.Ww Go.Proofs.YtgaofnmgdefdcaaGreatDoor.It

def Two (base g : Nat) (ys xs : List Int) (want : Value) (n : Nat) (w : World) : Prop :=
  ∃ v, IsWr base g v ys w ∧ w.ownsRow base 5 1 want n (bv xs) ∧ ∀ b, Its g v b → want.ownBlock ≠ some b
theorem two_new (t : TypeId) (ht : t ≠ 5) (w : World) : Two w.heap.size w.heap.size [] [] (.slice none 0 0) 0 (w.alloc (.cells #[.slice none 0 0] t)) :=
  ⟨_, new_of t ht w, World.ownsRow_nil _ _ _ _, fun b _ => by simp [Value.ownBlock]⟩
/-- Something is put. -/
theorem two_put {base g : Nat} {v : Value} {ys zs xs : List Int} {want : Value} {n : Nat} {w w1 : World} {r : Ending} (ho : w.ownsRow base 5 1 want n (bv xs)) (ha : ∀ b, Its g v b → want.ownBlock ≠ some b) (hp : Puts base g v zs w r w1) (_h : IsWr base g v ys w) : Two base g zs xs want n w1 := by
  obtain ⟨_, v1, hw1, hk, hown⟩ := hp
  refine ⟨v1, hw1, own_keeps ho hk (fun b hb hi => ha b hi hb), fun b hb hi => ?_⟩
  rcases hb with rfl | hb
  · exact ha _ (.inl rfl) hi
  · rcases hown with hown | ⟨b', hown, hb'⟩
    · exact ha b (.inr (hown ▸ hb)) hi
    · rw [hown] at hb
      injection hb with hb
      have := (ho.lt b hi).2
      omega
/-- New memory is made. -/
theorem two_more {base g : Nat} {ys xs : List Int} {want : Value} {n : Nat} {w w1 : World} (h : Two base g ys xs want n w) (k : Keeps (fun _ => False) w w1) : Two base g ys xs want n w1 := by
  obtain ⟨v, hw, ho, ha⟩ := h
  exact ⟨v, hw.keeps k (fun _ _ => id), own_keeps ho k (fun _ _ => id), ha⟩
/-- Something is appended to the row. -/
theorem two_app {base g : Nat} {ys xs zs : List Int} {want want1 : Value} {n m : Nat} {w w1 : World} (h : Two base g ys xs want n w) (hg : w.grownBy w1 want.ownBlock) (ho1 : w1.ownsRow base 5 1 want1 m (bv zs)) (hat : want1.ownBlock = want.ownBlock ∨ want1.ownBlock = some w.heap.size) : Two base g ys zs want1 m w1 := by
  obtain ⟨v, hw, ho, ha⟩ := h
  have k : Keeps (fun b => want.ownBlock = some b) w w1 := (Keeps.refl _ _).grown hg (fun b hb => .inl hb)
  refine ⟨v, hw.keeps k (fun b hb hi => ha b hb hi), ho1, fun b hb hi => ?_⟩
  rcases hat with hat | hat
  · exact ha b hb (hat ▸ hi)
  · rw [hat] at hi
    injection hi with hi
    rcases hb with hb | hb
    · have := hw.lt
      omega
    · have := (hw.2.2.2.2.2.lt b hb).2
      omega
theorem own_some {w : World} {base : Nat} {A : Option Addr} {n c : Nat} {xs : List Value} (h : w.ownsRow base 5 1 (.slice A n c) n xs) (hn : 1 ≤ n) : ∃ ad, A = some ad := by
  rcases h.2 with ⟨_, h0⟩ | ⟨g', cap, cur, hv, _⟩
  · omega
  · injection hv with hA
    exact ⟨_, hA⟩

/-! ### numbers one behind the other -/
def encs (e : Int → List Int) (zs : List Int) : List Int := zs.flatMap e
theorem encs_snoc (e : Int → List Int) (zs : List Int) (x : Int) : encs e (zs ++ [x]) = encs e zs ++ e x := by simp [encs]
theorem take_snoc {zs : List Int} {j : Nat} {x : Int} (h : zs[j]? = some x) : zs.take (j + 1) = zs.take j ++ [x] := by
  rw [List.take_add_one, h]; rfl
theorem encs_take {e : Int → List Int} {zs : List Int} {j : Nat} {x : Int} (h : zs[j]? = some x) : encs e (zs.take (j + 1)) = encs e (zs.take j) ++ e x := by
  rw [take_snoc h, encs_snoc]
theorem encs_len {e : Int → List Int} {m : Nat} (h : ∀ x, (e x).length ≤ m) : ∀ zs, (encs e zs).length ≤ m * zs.length
  | [] => by simp [encs]
  | x :: zs => by
    have h1 := encs_len h zs
    have h2 := h x
    simp only [encs, List.flatMap_cons, List.length_append, List.length_cons, Nat.mul_add] at h1 ⊢
    omega
theorem encs_byte {e : Int → List Int} {zs : List Int} (h : ∀ n ∈ zs, ∀ x ∈ e n, 0 ≤ x ∧ x < 256) : ∀ x ∈ encs e zs, 0 ≤ x ∧ x < 256 := by
  intro x hx
  simp only [encs, List.mem_flatMap] at hx
  obtain ⟨n, hn, hx⟩ := hx
  exact h n hn x hx
/-- From where the number at place j begins. -/
theorem encs_drop (e : Int → List Int) {zs tail : List Int} {n j : Nat} {x : Int} (h : zs[j]? = some x) (hj : j < n) : ∃ rest, (encs e (zs.take n) ++ tail).drop (encs e (zs.take j)).length = e x ++ rest := by
  have h1 : (zs.take n)[j]? = some x := by rw [List.getElem?_take, if_pos hj, h]
  obtain ⟨hl, hx⟩ := List.getElem?_eq_some_iff.1 h1
  have h2 : zs.take n = zs.take j ++ x :: (zs.take n).drop (j + 1) := by
    have h3 : (zs.take n).take j = zs.take j := by rw [List.take_take, Nat.min_eq_left (by omega)]
    rw [← h3]
    conv => lhs; rw [← List.take_append_drop j (zs.take n)]
    rw [List.drop_eq_getElem_cons hl, hx]
  refine ⟨encs e ((zs.take n).drop (j + 1)) ++ tail, ?_⟩
  have h4 : encs e (zs.take n) = encs e (zs.take j) ++ (e x ++ encs e ((zs.take n).drop (j + 1))) := by
    conv => lhs; rw [h2]
    simp [encs]
  rw [h4, List.append_assoc, List.drop_left, List.append_assoc]
end Go.Proofs.YtgaofnmgdefdcaaGreatDoor.Tw

namespace Go.Proofs.YtgaofnmgdefdcaaGreatDoor.Ds
open Go.RowKit Go.Proofs.YtgaofnmgdefdcaaGreatDoor.Gen Go.Proofs.YtgaofnmgdefdcaaGreatDoor.Wr Go.Proofs.YtgaofnmgdefdcaaGreatDoor.It Go.Proofs.YtgaofnmgdefdcaaGreatDoor.Ir Go.Proofs.YtgaofnmgdefdcaaGreatDoor.Ib Go.Proofs.YtgaofnmgdefdcaaGreatDoor.Hr Go.Proofs.YtgaofnmgdefdcaaGreatDoor.Hn Go.Proofs.YtgaofnmgdefdcaaGreatDoor.Hk Go.Proofs.YtgaofnmgdefdcaaGreatDoor.Ln Go.Proofs.YtgaofnmgdefdcaaGreatDoor.Tw

/-- How numbers are put. -/
structure D where
  K : Int
  B : Int
  L : List G
  le : Int
  bi : Int
/-- How bytes are put. -/
structure E where
  d : D
  K : Int
  B : Int
  S : Int
def blkE (n : Int) : Int := if n < 1 ∨ 60000 < n then 2 else 0
def fixE (l b : Int) : Int := if l < -2147483647 ∨ 2147483647 < l ∨ b < 0 ∨ 31 < b then 2 else 0
/-- What huff.New says of entries. -/
def newE (L : List G) : Int :=
  if L.length = 0 ∨ 256 < L.length then 7 else match (List.range L.length).find? (fun i => decide (errAt L i ≠ 0)) with
    | some i => errAt L i
    | none => if 2 ^ 20 < posOf (nats' L) then 13 else 0
theorem newE_of {w w' : World} {L : List G} {r : Ending} (h : NewAns w w' L r) : ∃ p, r = .returned (.tuple #[.pointer p, .int .i64 (newE L)]) := by
  have hnone : (∀ i, i < L.length → errAt L i = 0) → (List.range L.length).find? (fun i => decide (errAt L i ≠ 0)) = none := by
    intro h
    rw [List.find?_eq_none]
    intro i hi
    simp at hi
    simp [h i hi]
  rcases h with ⟨h1, rfl⟩ | ⟨h1, i, hi, hlt, hne, rfl⟩ | ⟨h1, h2, h3, rfl⟩ | ⟨h1, h2, h3, p, rfl, _⟩
  · exact ⟨none, by rw [newE, if_pos h1]⟩
  · refine ⟨none, ?_⟩
    have hf : (List.range L.length).find? (fun i => decide (errAt L i ≠ 0)) = some i := by
      rw [List.find?_range_eq_some]
      exact ⟨by simpa using hne, by simpa using hi, fun j hj => by simp [hlt j hj]⟩
    rw [newE, if_neg (by omega), hf]
  · exact ⟨none, by rw [newE, if_neg (by omega), hnone h2]; simp [h3]⟩
  · refine ⟨some ⟨p, 0, none⟩, ?_⟩
    have : newE L = 0 := by rw [newE, if_neg (by omega), hnone h2]; simp [show ¬ 2 ^ 20 < posOf (nats' L) by omega]
    rw [this]
/-- May it be one? -/
def chkI (d : D) : Int := if d.K = 1 then blkE d.B else if d.K = 3 then newE d.L else if d.K = 6 then fixE d.le d.bi else 5
def chkA (a : E) : Int := if blkE a.B ≠ 0 then blkE a.B else if a.K = 4 then chkI a.d else if a.K = 5 then 0 else 5

/-- Its value, the entries' row told apart. -/
def dv (A : Option Addr) (n c : Nat) (d : D) : Array Value := #[.int .u8 d.K, .int .i64 d.B, .slice A n c, .int .i64 d.le, .int .i64 d.bi]
def av (A : Option Addr) (n c : Nat) (a : E) : Array Value := #[.int .u8 a.d.K, .int .i64 a.d.B, .slice A n c, .int .i64 a.d.le, .int .i64 a.d.bi, .int .u8 a.K, .int .i64 a.B, .int .u8 a.S]
/-- Its entries lie there. -/
def Ents (w : World) (A : Option Addr) (n : Nat) (L : List G) : Prop := RowAt w A (gvs L) ∧ L.length = n ∧ n ≤ 1000
theorem Ents.keeps {S : Nat → Prop} {w w1 : World} {A : Option Addr} {n : Nat} {L : List G} (h : Ents w A n L) (k : Keeps S w w1) (hn : 0 < n → ∀ b o, A = some ⟨b, o, none⟩ → ¬ S b) : Ents w1 A n L := by
  refine ⟨?_, h.2⟩
  rcases Nat.eq_zero_or_pos n with h0 | h0
  · have : L = [] := List.eq_nil_of_length_eq_zero (by rw [h.2.1, h0])
    exact .inl (by rw [this]; rfl)
  · exact h.1.keeps k (hn h0)
theorem Ents.more {w w1 : World} {A : Option Addr} {n : Nat} {L : List G} (h : Ents w A n L) (k : Keeps (fun _ => False) w w1) : Ents w1 A n L := h.keeps k (fun _ _ _ _ => id)
theorem Ents.lt {w : World} {b o n : Nat} {L : List G} (h : Ents w (some ⟨b, o, none⟩) n L) (h0 : 0 < n) : b < w.heap.size := by
  rcases h.1 with h1 | ⟨b', o', e, hb, _⟩
  · have := gvs_len L
    rw [h1, h.2.1] at this
    simp at this
    omega
  · injection e with e
    injection e with e1
    omega
theorem dv_one (A : Option Addr) (n c : Nat) (d : D) : (dv A n c d).all (·.oneCell') = true := by simp [dv, Value.oneCell']
theorem av_one (A : Option Addr) (n c : Nat) (a : E) : (av A n c a).all (·.oneCell') = true := by simp [av, Value.oneCell']
theorem dv_info (A : Option Addr) (n c : Nat) (d : D) : (Tryz.prog.info? 43).map (·.size) = some (dv A n c d).size := by kernel_rfl
theorem av_info (A : Option Addr) (n c : Nat) (a : E) : (Tryz.prog.info? 45).map (·.size) = some (av A n c a).size := by kernel_rfl

/-! ### its bytes -/
def sg (n : Int) : Int := n % 4294967296
def symB (L : List G) : List Int := encs (fun n => encInt (sg n)) (L.map (·.1))
def sizB (L : List G) : List Int := encs encInt (L.map (·.2))
def entB (L : List G) : List Int := encInt L.length ++ (symB L ++ sizB L)
def bodI (d : D) : List Int := if d.K = 1 then encInt d.B else if d.K = 3 then entB d.L else if d.K = 6 then encInt (sg d.le) ++ encInt d.bi else []
def bytI (d : D) : List Int := encInt d.K ++ bodI d
def bytA (a : E) : List Int := encInt a.K ++ (encInt a.B ++ if a.K = 5 then [a.S] else bytI a.d)
theorem entB_len (L : List G) : (entB L).length ≤ 5 + 10 * L.length := by
  have h1 := encInt_len (L.length : Int)
  have h2 := encs_len (e := fun n => encInt (sg n)) (m := 5) (fun x => (encInt_len _).2) (L.map (·.1))
  have h3 := encs_len (e := encInt) (m := 5) (fun x => (encInt_len _).2) (L.map (·.2))
  simp only [List.length_map] at h2 h3
  simp only [entB, symB, sizB, List.length_append]
  omega
theorem bytI_len (d : D) : (bytI d).length ≤ 20 + 10 * d.L.length := by
  have h1 := encInt_len d.K
  have h2 := encInt_len d.B
  have h3 := encInt_len (sg d.le)
  have h4 := encInt_len d.bi
  have h5 := entB_len d.L
  unfold bytI bodI
  rw [List.length_append]
  split
  · omega
  · split
    · omega
    · split
      · rw [List.length_append]; omega
      · simp; omega
theorem bytA_len (a : E) : (bytA a).length ≤ 40 + 10 * a.d.L.length := by
  have h1 := encInt_len a.K
  have h2 := encInt_len a.B
  have h3 := bytI_len a.d
  unfold bytA
  rw [List.length_append, List.length_append]
  split
  · simp; omega
  · omega
end Go.Proofs.YtgaofnmgdefdcaaGreatDoor.Ds
