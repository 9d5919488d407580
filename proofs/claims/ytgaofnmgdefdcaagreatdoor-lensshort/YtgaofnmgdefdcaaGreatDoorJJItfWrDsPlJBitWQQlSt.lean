/- What itf's Writer puts, call by call: the bytes of numbers behind those that it has; of a nil one nothing. -/
/- A Writer beside a row of bytes of one's own (what is wanted): they lie apart, whatever is put or appended. Rows of numbers as bytes, one behind the other. -/
/- Ways to put a series, as plain data: whether they may be; their bytes; taken from bytes (desc). Names no function of the program. -/
/- A bits.Writer at the head of a Quill: what it does, call by call; the Quill's two other cells stay (written by tools/quill/bwq.py out of BitWr). -/
/- What a Quill keeps: codes, by their entries' keys; blocks, by their numbers; its row of bits. What hangs on other blocks stays. -/
import Derived.Test.YtgaofnmgdefdcaaGreatDoorJBitLenJItfNumWireRd
import Derived.Test.YtgaofnmgdefdcaaGreatDoorWireWr
import Derived.Deep.RegionHeld3
import Derived.Test.YtgaofnmgdefdcaaGreatDoorItfBack
import Derived.Test.YtgaofnmgdefdcaaGreatDoorJJHufWordHufSfJHufNewHufNewC
import Derived.Test.YtgaofnmgdefdcaaGreatDoorJJHufLiteCloneJQlHdChMp


namespace Go.Proofs.YtgaofnmgdefdcaaGreatDoor.Iw
open Go.RowKit Go.Proofs.YtgaofnmgdefdcaaGreatDoor.Gen Go.Proofs.YtgaofnmgdefdcaaGreatDoor.Ww Go.Proofs.YtgaofnmgdefdcaaGreatDoor.It

theorem puts_refl {base g : Nat} {v : Value} {ys : List Int} {w : World} (h : IsWr base g v ys w) : Puts base g v ys w (.returned (.tuple #[])) w := ⟨rfl, v, h, Keeps.refl _ _, .inl rfl⟩
theorem puts_trans {base g : Nat} {v v1 : Value} {zs : List Int} {w w1 w2 : World} {r : Ending} (k : Keeps (Its g v) w w1) (ho : v1.ownBlock = v.ownBlock ∨ ∃ b, v1.ownBlock = some b ∧ w.heap.size ≤ b) (h2 : Puts base g v1 zs w1 r w2) : Puts base g v zs w r w2 := by
  obtain ⟨hr, v2, hw2, hk2, ho2⟩ := h2
  refine ⟨hr, v2, hw2, ⟨hk2.os.trans k.os, hk2.tape.trans k.tape, hk2.output.trans k.output, Nat.le_trans k.size hk2.size, fun b hb hn => ?_⟩, ?_⟩
  · refine (hk2.block b (Nat.lt_of_lt_of_le hb k.size) ?_).trans (k.block b hb hn)
    rintro (rfl | h)
    · exact hn (.inl rfl)
    · rcases ho with ho | ⟨b', ho, hb'⟩
      · exact hn (.inr (ho ▸ h))
      · rw [ho] at h
        injection h with h
        omega
  · rcases ho2 with ho2 | ⟨b', ho2, hb'⟩
    · rw [ho2]
      exact ho
    · exact .inr ⟨b', ho2, Nat.le_trans k.size hb'⟩

theorem put_none (n f : Int) (w : World) : Calls Tryz.prog 90 #[.pointer none, .int .u64 n, .int .i64 f] w fun r w' => r = .returned (.tuple #[]) ∧ w' = w := by
  go_enter Tryz.func90, Tryz.ntmps90
  go_wp2
  refine bodyPost_ret (results_none rfl _ _ _) rfl ?_
  exact ⟨rfl, rfl⟩

theorem first_eq {n : Int} {f : Nat} (h0 : 0 ≤ n) (hf : f ≤ 8) (hq : n / 256 ^ f < 2 ^ (8 - f)) : bits .or .u8 (onesOf f) (IntKind.u8.wrap (n / 2 ^ (8 * f))) = onesOf f + n / 256 ^ f := by
  have hp : (2 : Int) ^ (8 * f) = 256 ^ f := by rw [Int.pow_mul]; rfl
  have hm : (2 : Int) ^ (8 - f) ≤ 2 ^ 8 := by
    have := Nat.pow_le_pow_right (n := 2) (by decide) (show 8 - f ≤ 8 by omega)
    have hc : (2 : Int) ^ (8 - f) = ((2 ^ (8 - f) : Nat) : Int) := by simp
    rw [hc]
    omega
  have hn : 0 ≤ n / 256 ^ f := Int.ediv_nonneg h0 (Int.pow_nonneg (by decide))
  rw [hp, IntWalk.u8_in _ ⟨hn, by omega⟩]
  exact or_ones hf hn hq

theorem put (g base : Nat) (v : Value) (ys : List Int) (n : Int) (f : Nat) (w : World) (h : IsWr base g v ys w) (hn : ys.length + 9 ≤ 1000000) (h0 : 0 ≤ n) (_h1 : n < 18446744073709551616) (hf : f ≤ 8) (hq : n / 256 ^ f < 2 ^ (8 - f)) :
    Calls Tryz.prog 90 #[.pointer (some ⟨g, 0, none⟩), .int .u64 n, .int .i64 f] w (Puts base g v (ys ++ enc n f) w) := by
  have H := Lib.hid h
  have HE := Lib.hid (first_eq h0 hf hq)
  have HB := Lib.hid (be_at f n)
  have HBL := Lib.hid (be_len f n)
  clear h hq
  have hs0 : (0 : Int) ≤ 8 * (f : Int) := by omega
  have hs1 : IntKind.i64.wrap (8 * (f : Int)) = 8 * (f : Int) := IntWalk.i64_in _ (by omega)
  have hs2 : (8 * (f : Int)).toNat = 8 * f := by omega
  go_enter Tryz.func90, Tryz.ntmps90
  go_wp2
  go_region_held3 (fun _ => True) (trivial)
    ((first | (go_at_call 106; refine (ones f _ hf).mono ?_; rintro e w1 ⟨rfl, rfl⟩) | (go_at_call 61; refine (byte g base v ys _ _ (by exact H.out) (by omega)).mono ?_; rintro e w1 hp; obtain rfl := hp.1; have HP := Lib.hid hp; clear hp)))
  have HP1 : Hid (Puts base g v (ys ++ (onesOf f + n / 256 ^ f) :: (be n f).take 0) w (Ending.returned (Value.tuple #[])) w1) := by
    have hp := HP.out
    rw [HE.out] at hp
    obtain ⟨hr, v1, hw, hk, ho⟩ := hp
    exact ⟨hr, v1, hw, hk.of_drew, ho⟩
  clear HP hs0 hs1 hs2 HE
  go_wp2
  go_loopw [22] (fun i wr => ∃ j : Nat, j ≤ f ∧ i = .int .i64 j ∧ Puts base g v (ys ++ (onesOf f + n / 256 ^ f) :: (be n f).take j) w (Ending.returned (Value.tuple #[])) wr) (fun i _ => f - (intOf i).toNat)
  case atStart => exact ⟨0, Nat.zero_le _, rfl, HP1.out⟩
  case round =>
    obtain ⟨j, hj, rfl, hh⟩ := hrel
    have HH := Lib.hid hh
    clear hh HP1
    by_cases hlt : j < f
    · obtain ⟨_, v1, hw, hk, ho⟩ := HH.out
      have HW := Lib.hid hw
      have HK := Lib.hid hk
      have HO := Lib.hid ho
      have HL : Hid ((ys ++ (onesOf f + n / 256 ^ f) :: (be n f).take j).length = ys.length + 1 + j) := by
        show (ys ++ (onesOf f + n / 256 ^ f) :: (be n f).take j).length = ys.length + 1 + j
        simp [HBL.out]
        omega
      clear hw hk ho HH
      have hs0 : (0 : Int) ≤ 8 * ((f : Int) - 1 - j) := by omega
      have hs1 : IntKind.i64.wrap (8 * ((f : Int) - 1 - j)) = 8 * ((f : Int) - 1 - j) := IntWalk.i64_in _ (by omega)
      have hs2 : (8 * ((f : Int) - 1 - j)).toNat = 8 * (f - 1 - j) := by omega
      have hs3 : IntKind.i64.wrap ((f : Int) - 1) = (f : Int) - 1 := IntWalk.i64_in _ (by omega)
      have hs4 : IntKind.i64.wrap ((f : Int) - 1 - j) = (f : Int) - 1 - j := IntWalk.i64_in _ (by omega)
      go_wp2
      go_region_held3 (fun _ => True) (trivial)
        ((go_at_call 61; refine (byte g base v1 _ _ _ (by exact HW.out) (by rw [HL.out]; omega)).mono ?_; rintro e w1 hp; obtain rfl := hp.1; have HP := Lib.hid hp; clear hp))
      have HP2 : Hid (Puts base g v (ys ++ (onesOf f + n / 256 ^ f) :: (be n f).take (j + 1)) w (Ending.returned (Value.tuple #[])) w1) := by
        have hp := HP.out
        obtain ⟨hr, v2, hw2, hk2, ho2⟩ := hp
        refine puts_trans HK.out HO.out ⟨hr, v2, ?_, hk2.of_drew, ho2⟩
        have he : IntKind.u8.wrap (n / 2 ^ (8 * (f - 1 - j))) = n / 2 ^ (8 * (f - 1 - j)) % 256 := IntKind.wrap_u8 _
        rw [he] at hw2
        rw [List.take_add_one, HB.out j hlt]
        simpa using hw2
      clear HP hs0 hs1 hs2 hs3 hs4
      go_wp2
      exact ⟨⟨j + 1, by omega, by go_num, HP2.out⟩, by simp [intOf]; omega⟩
    · obtain rfl : j = f := by omega
      go_wp2
      go_end0
      have h := HH.out
      rw [List.take_of_length_le (by rw [HBL.out]; exact Nat.le_refl _)] at h
      exact h

theorem long_none (n : Int) (w : World) (h0 : 0 ≤ n) (h1 : n < 18446744073709551616) : Calls Tryz.prog 89 #[.pointer none, .int .u64 n] w fun r w' => r = .returned (.tuple #[]) ∧ w' = w := by
  go_enter Tryz.func89, Tryz.ntmps89
  go_wp2_with fail
  refine (more n w h0 h1).mono ?_
  rintro e w1 ⟨rfl, rfl⟩
  go_wp2_with fail
  refine (put_none n _ _).mono ?_
  rintro e w2 ⟨rfl, rfl⟩
  go_wp2
  go_end0
  exact ⟨rfl, rfl⟩
theorem long (g base : Nat) (v : Value) (ys : List Int) (n : Int) (w : World) (h : IsWr base g v ys w) (hn : ys.length + 9 ≤ 1000000) (h0 : 0 ≤ n) (h1 : n < 18446744073709551616) :
    Calls Tryz.prog 89 #[.pointer (some ⟨g, 0, none⟩), .int .u64 n] w (Puts base g v (ys ++ encLong n) w) := by
  have H := Lib.hid h
  have HQ := Lib.hid (foll_q n h0 h1)
  clear h
  go_enter Tryz.func89, Tryz.ntmps89
  go_wp2_with fail
  refine (more n w h0 h1).mono ?_
  rintro e w1 ⟨rfl, rfl⟩
  go_wp2_with fail
  refine (put g base v ys n (foll n) _ H.out hn h0 h1 (foll_le n) HQ.out).mono ?_
  rintro e w2 hp
  obtain rfl := hp.1
  have HP := Lib.hid hp
  clear hp
  go_wp2
  go_end0
  exact HP.out
theorem and_low {n : Int} (h0 : 0 ≤ n) (h1 : n < 4294967296) : bits .and .u32 n 15 = n % 16 := by
  obtain ⟨n, rfl⟩ := Int.eq_ofNat_of_zero_le h0
  have h := u32_and_nat n 15 (by omega) (by omega)
  rw [Nat.and_two_pow_sub_one_eq_mod n 4] at h
  exact h
theorem int_word {n : Int} (h0 : 0 ≤ n) (h1 : n < 4294967296) : bits .or .u64 (n / 16 * 256) (IntKind.u64.wrap (bits .and .u32 n 15)) = n / 16 * 256 + n % 16 := by
  rw [and_low h0 h1, IntWalk.u64_in _ (by omega)]
  exact or_low (k := 8) (by omega) (by omega) (by omega) (by omega)
theorem int_none (n : Int) (w : World) (h0 : 0 ≤ n) (h1 : n < 4294967296) : Calls Tryz.prog 63 #[.pointer none, .int .u32 n] w fun r w' => r = .returned (.tuple #[]) ∧ w' = w := by
  by_cases hs : n < 268435456
  · have hd : decide ((foll n : Int) < 4) = true := by have := (foll_int n).2 hs; simp; omega
    go_enter Tryz.func63, Tryz.ntmps63
    go_wp2_with fail
    refine (more n w h0 (by omega)).mono ?_
    rintro e w1 ⟨rfl, rfl⟩
    go_wp2_with fail
    refine (long_none n _ h0 (by omega)).mono ?_
    rintro e w2 ⟨rfl, rfl⟩
    go_wp2
    refine bodyPost_ret (results_none rfl _ _ _) rfl ?_
    exact ⟨rfl, rfl⟩
  · have hd : decide ((foll n : Int) < 4) = false := by have := foll_int n; simp; omega
    go_enter Tryz.func63, Tryz.ntmps63
    go_wp2_with fail
    refine (more n w h0 (by omega)).mono ?_
    rintro e w1 ⟨rfl, rfl⟩
    go_wp2_with fail
    refine (put_none _ _ _).mono ?_
    rintro e w2 ⟨rfl, rfl⟩
    go_wp2
    go_end0
    exact ⟨rfl, rfl⟩
theorem int (g base : Nat) (v : Value) (ys : List Int) (n : Int) (w : World) (h : IsWr base g v ys w) (hn : ys.length + 9 ≤ 1000000) (h0 : 0 ≤ n) (h1 : n < 4294967296) :
    Calls Tryz.prog 63 #[.pointer (some ⟨g, 0, none⟩), .int .u32 n] w (Puts base g v (ys ++ encInt n) w) := by
  have H := Lib.hid h
  clear h
  by_cases hs : n < 268435456
  · have hd : decide ((foll n : Int) < 4) = true := by have := (foll_int n).2 hs; simp; omega
    have HE := Lib.hid (show encInt n = encLong n by simp [encInt, encLong, hs])
    go_enter Tryz.func63, Tryz.ntmps63
    go_wp2_with fail
    refine (more n w h0 (by omega)).mono ?_
    rintro e w1 ⟨rfl, rfl⟩
    go_wp2_with fail
    refine (long g base v ys n _ H.out hn h0 (by omega)).mono ?_
    rintro e w2 hp
    obtain rfl := hp.1
    have HP := Lib.hid hp
    clear hp
    go_wp2
    refine bodyPost_ret (results_none rfl _ _ _) rfl ?_
    rw [HE.out]
    exact HP.out
  · have hd : decide ((foll n : Int) < 4) = false := by have := foll_int n; simp; omega
    have HE := Lib.hid (show encInt n = enc (n / 16 * 256 + n % 16) 4 by simp [encInt, hs])
    have HI := Lib.hid (int_word h0 h1)
    go_enter Tryz.func63, Tryz.ntmps63
    go_wp2_with fail
    refine (more n w h0 (by omega)).mono ?_
    rintro e w1 ⟨rfl, rfl⟩
    go_wp2_with fail
    rw [HI.out]
    refine (put g base v ys (n / 16 * 256 + n % 16) 4 _ H.out hn (by omega) (by omega) (by omega) (by simp; omega)).mono ?_
    rintro e w2 hp
    obtain rfl := hp.1
    have HP := Lib.hid hp
    clear hp
    go_wp2
    go_end0
    rw [HE.out]
    exact HP.out
theorem signed_none (n : Int) (w : World) : Calls Tryz.prog 37 #[.pointer none, .int .i64 n] w fun r w' => r = .returned (.tuple #[]) ∧ w' = w := by
  go_enter Tryz.func37, Tryz.ntmps37
  go_wp2_with fail
  refine (int_none _ w (by omega) (by omega)).mono ?_
  rintro e w2 ⟨rfl, rfl⟩
  go_wp2
  go_end0
  exact ⟨rfl, rfl⟩
theorem signed (g base : Nat) (v : Value) (ys : List Int) (n : Int) (w : World) (h : IsWr base g v ys w) (hn : ys.length + 9 ≤ 1000000) :
    Calls Tryz.prog 37 #[.pointer (some ⟨g, 0, none⟩), .int .i64 n] w (Puts base g v (ys ++ encInt (n % 4294967296)) w) := by
  have H := Lib.hid h
  clear h
  go_enter Tryz.func37, Tryz.ntmps37
  go_wp2_with fail
  refine (int g base v ys _ _ H.out hn (by omega) (by omega)).mono ?_
  rintro e w2 hp
  obtain rfl := hp.1
  have HP := Lib.hid hp
  clear hp
  go_wp2
  go_end0
  exact HP.out
end Go.Proofs.YtgaofnmgdefdcaaGreatDoor.Iw

namespace Go.Proofs.YtgaofnmgdefdcaaGreatDoor.Tw
open Go.RowKit Go.Proofs.YtgaofnmgdefdcaaGreatDoor.Gen Go.Proofs.YtgaofnmgdefdcaaGreatDoor.Wr Go.Proofs.YtgaofnmgdefdcaaGreatDoor.Ww Go.Proofs.YtgaofnmgdefdcaaGreatDoor.It

def Two (base g : Nat) (ys xs : List Int) (want : Value) (n : Nat) (w : World) : Prop :=
  ∃ v, IsWr base g v ys w ∧ w.ownsRow base 5 1 want n (bv xs) ∧ ∀ b, Its g v b → want.ownBlock ≠ some b
theorem two_new (t : TypeId) (ht : t ≠ 5) (w : World) : Two w.heap.size w.heap.size [] [] (.slice none 0 0) 0 (w.alloc (.cells #[.slice none 0 0] t)) :=
  ⟨_, new_of t ht w, World.ownsRow_nil _ _ _ _, fun b _ => by simp [Value.ownBlock]⟩
/-- Something is put. -/
theorem two_put {base g : Nat} {v : Value} {ys zs xs : List Int} {want : Value} {n : Nat} {w w1 : World} {r : Ending} (ho : w.ownsRow base 5 1 want n (bv xs)) (ha : ∀ b, Its g v b → want.ownBlock ≠ some b) (hp : Puts base g v zs w r w1) (_h : IsWr base g v ys w) : Two base g zs xs want n w1 := by
  obtain ⟨_, v1, hw1, hk, hown⟩ := hp
  refine ⟨v1, hw1, own_keeps ho hk (fun b hb hi => ha b hi hb), fun b hb hi => ?_⟩
  rcases hb with rfl | hb
  · exact ha _ (.inl rfl) hi
  · rcases hown with hown | ⟨b', hown, hb'⟩
    · exact ha b (.inr (hown ▸ hb)) hi
    · rw [hown] at hb
      injection hb with hb
      have := (ho.lt b hi).2
      omega
/-- New memory is made. -/
theorem two_more {base g : Nat} {ys xs : List Int} {want : Value} {n : Nat} {w w1 : World} (h : Two base g ys xs want n w) (k : Keeps (fun _ => False) w w1) : Two base g ys xs want n w1 := by
  obtain ⟨v, hw, ho, ha⟩ := h
  exact ⟨v, hw.keeps k (fun _ _ => id), own_keeps ho k (fun _ _ => id), ha⟩
/-- Something is appended to the row. -/
theorem two_app {base g : Nat} {ys xs zs : List Int} {want want1 : Value} {n m : Nat} {w w1 : World} (h : Two base g ys xs want n w) (hg : w.grownBy w1 want.ownBlock) (ho1 : w1.ownsRow base 5 1 want1 m (bv zs)) (hat : want1.ownBlock = want.ownBlock ∨ want1.ownBlock = some w.heap.size) : Two base g ys zs want1 m w1 := by
  obtain ⟨v, hw, ho, ha⟩ := h
  have k : Keeps (fun b => want.ownBlock = some b) w w1 := (Keeps.refl _ _).grown hg (fun b hb => .inl hb)
  refine ⟨v, hw.keeps k (fun b hb hi => ha b hb hi), ho1, fun b hb hi => ?_⟩
  rcases hat with hat | hat
  · exact ha b hb (hat ▸ hi)
  · rw [hat] at hi
    injection hi with hi
    rcases hb with hb | hb
    · have := hw.lt
      omega
    · have := (hw.2.2.2.2.2.lt b hb).2
      omega
theorem own_some {w : World} {base : Nat} {A : Option Addr} {n c : Nat} {xs : List Value} (h : w.ownsRow base 5 1 (.slice A n c) n xs) (hn : 1 ≤ n) : ∃ ad, A = some ad := by
  rcases h.2 with ⟨_, h0⟩ | ⟨g', cap, cur, hv, _⟩
  · omega
  · injection hv with hA
    exact ⟨_, hA⟩

/-! ### numbers one behind the other -/
def encs (e : Int → List Int) (zs : List Int) : List Int := zs.flatMap e
theorem encs_snoc (e : Int → List Int) (zs : List Int) (x : Int) : encs e (zs ++ [x]) = encs e zs ++ e x := by simp [encs]
theorem take_snoc {zs : List Int} {j : Nat} {x : Int} (h : zs[j]? = some x) : zs.take (j + 1) = zs.take j ++ [x] := by
  rw [List.take_add_one, h]; rfl
theorem encs_take {e : Int → List Int} {zs : List Int} {j : Nat} {x : Int} (h : zs[j]? = some x) : encs e (zs.take (j + 1)) = encs e (zs.take j) ++ e x := by
  rw [take_snoc h, encs_snoc]
theorem encs_len {e : Int → List Int} {m : Nat} (h : ∀ x, (e x).length ≤ m) : ∀ zs, (encs e zs).length ≤ m * zs.length
  | [] => by simp [encs]
  | x :: zs => by
    have h1 := encs_len h zs
    have h2 := h x
    simp only [encs, List.flatMap_cons, List.length_append, List.length_cons, Nat.mul_add] at h1 ⊢
    omega
theorem encs_byte {e : Int → List Int} {zs : List Int} (h : ∀ n ∈ zs, ∀ x ∈ e n, 0 ≤ x ∧ x < 256) : ∀ x ∈ encs e zs, 0 ≤ x ∧ x < 256 := by
  intro x hx
  simp only [encs, List.mem_flatMap] at hx
  obtain ⟨n, hn, hx⟩ := hx
  exact h n hn x hx
/-- From where the number at place j begins. -/
theorem encs_drop (e : Int → List Int) {zs tail : List Int} {n j : Nat} {x : Int} (h : zs[j]? = some x) (hj : j < n) : ∃ rest, (encs e (zs.take n) ++ tail).drop (encs e (zs.take j)).length = e x ++ rest := by
  have h1 : (zs.take n)[j]? = some x := by rw [List.getElem?_take, if_pos hj, h]
  obtain ⟨hl, hx⟩ := List.getElem?_eq_some_iff.1 h1
  have h2 : zs.take n = zs.take j ++ x :: (zs.take n).drop (j + 1) := by
    have h3 : (zs.take n).take j = zs.take j := by rw [List.take_take, Nat.min_eq_left (by omega)]
    rw [← h3]
    conv => lhs; rw [← List.take_append_drop j (zs.take n)]
    rw [List.drop_eq_getElem_cons hl, hx]
  refine ⟨encs e ((zs.take n).drop (j + 1)) ++ tail, ?_⟩
  have h4 : encs e (zs.take n) = encs e (zs.take j) ++ (e x ++ encs e ((zs.take n).drop (j + 1))) := by
    conv => lhs; rw [h2]
    simp [encs]
  rw [h4, List.append_assoc, List.drop_left, List.append_assoc]
end Go.Proofs.YtgaofnmgdefdcaaGreatDoor.Tw

namespace Go.Proofs.YtgaofnmgdefdcaaGreatDoor.Ds
open Go.RowKit Go.Proofs.YtgaofnmgdefdcaaGreatDoor.Gen Go.Proofs.YtgaofnmgdefdcaaGreatDoor.Wr Go.Proofs.YtgaofnmgdefdcaaGreatDoor.It Go.Proofs.YtgaofnmgdefdcaaGreatDoor.Ir Go.Proofs.YtgaofnmgdefdcaaGreatDoor.Ib Go.Proofs.YtgaofnmgdefdcaaGreatDoor.Hr Go.Proofs.YtgaofnmgdefdcaaGreatDoor.Hn Go.Proofs.YtgaofnmgdefdcaaGreatDoor.Hk Go.Proofs.YtgaofnmgdefdcaaGreatDoor.Ln Go.Proofs.YtgaofnmgdefdcaaGreatDoor.Tw

/-- How numbers are put. -/
structure D where
  K : Int
  B : Int
  L : List G
  le : Int
  bi : Int
/-- How bytes are put. -/
structure E where
  d : D
  K : Int
  B : Int
  S : Int
def blkE (n : Int) : Int := if n < 1 ∨ 60000 < n then 2 else 0
def fixE (l b : Int) : Int := if l < -2147483647 ∨ 2147483647 < l ∨ b < 0 ∨ 31 < b then 2 else 0
/-- What huff.New says of entries. -/
def newE (L : List G) : Int :=
  if L.length = 0 ∨ 256 < L.length then 7 else match (List.range L.length).find? (fun i => decide (errAt L i ≠ 0)) with
    | some i => errAt L i
    | none => if 2 ^ 20 < posOf (nats' L) then 13 else 0
theorem newE_of {w w' : World} {L : List G} {r : Ending} (h : NewAns w w' L r) : ∃ p, r = .returned (.tuple #[.pointer p, .int .i64 (newE L)]) := by
  have hnone : (∀ i, i < L.length → errAt L i = 0) → (List.range L.length).find? (fun i => decide (errAt L i ≠ 0)) = none := by
    intro h
    rw [List.find?_eq_none]
    intro i hi
    simp at hi
    simp [h i hi]
  rcases h with ⟨h1, rfl⟩ | ⟨h1, i, hi, hlt, hne, rfl⟩ | ⟨h1, h2, h3, rfl⟩ | ⟨h1, h2, h3, p, rfl, _⟩
  · exact ⟨none, by rw [newE, if_pos h1]⟩
  · refine ⟨none, ?_⟩
    have hf : (List.range L.length).find? (fun i => decide (errAt L i ≠ 0)) = some i := by
      rw [List.find?_range_eq_some]
      exact ⟨by simpa using hne, by simpa using hi, fun j hj => by simp [hlt j hj]⟩
    rw [newE, if_neg (by omega), hf]
  · exact ⟨none, by rw [newE, if_neg (by omega), hnone h2]; simp [h3]⟩
  · refine ⟨some ⟨p, 0, none⟩, ?_⟩
    have : newE L = 0 := by rw [newE, if_neg (by omega), hnone h2]; simp [show ¬ 2 ^ 20 < posOf (nats' L) by omega]
    rw [this]
/-- May it be one? -/
def chkI (d : D) : Int := if d.K = 1 then blkE d.B else if d.K = 3 then newE d.L else if d.K = 6 then fixE d.le d.bi else 5
def chkA (a : E) : Int := if blkE a.B ≠ 0 then blkE a.B else if a.K = 4 then chkI a.d else if a.K = 5 then 0 else 5

/-- Its value, the entries' row told apart. -/
def dv (A : Option Addr) (n c : Nat) (d : D) : Array Value := #[.int .u8 d.K, .int .i64 d.B, .slice A n c, .int .i64 d.le, .int .i64 d.bi]
def av (A : Option Addr) (n c : Nat) (a : E) : Array Value := #[.int .u8 a.d.K, .int .i64 a.d.B, .slice A n c, .int .i64 a.d.le, .int .i64 a.d.bi, .int .u8 a.K, .int .i64 a.B, .int .u8 a.S]
/-- Its entries lie there. -/
def Ents (w : World) (A : Option Addr) (n : Nat) (L : List G) : Prop := RowAt w A (gvs L) ∧ L.length = n ∧ n ≤ 1000
theorem Ents.keeps {S : Nat → Prop} {w w1 : World} {A : Option Addr} {n : Nat} {L : List G} (h : Ents w A n L) (k : Keeps S w w1) (hn : 0 < n → ∀ b o, A = some ⟨b, o, none⟩ → ¬ S b) : Ents w1 A n L := by
  refine ⟨?_, h.2⟩
  rcases Nat.eq_zero_or_pos n with h0 | h0
  · have : L = [] := List.eq_nil_of_length_eq_zero (by rw [h.2.1, h0])
    exact .inl (by rw [this]; rfl)
  · exact h.1.keeps k (hn h0)
theorem Ents.more {w w1 : World} {A : Option Addr} {n : Nat} {L : List G} (h : Ents w A n L) (k : Keeps (fun _ => False) w w1) : Ents w1 A n L := h.keeps k (fun _ _ _ _ => id)
theorem Ents.lt {w : World} {b o n : Nat} {L : List G} (h : Ents w (some ⟨b, o, none⟩) n L) (h0 : 0 < n) : b < w.heap.size := by
  rcases h.1 with h1 | ⟨b', o', e, hb, _⟩
  · have := gvs_len L
    rw [h1, h.2.1] at this
    simp at this
    omega
  · injection e with e
    injection e with e1
    omega
theorem dv_one (A : Option Addr) (n c : Nat) (d : D) : (dv A n c d).all (·.oneCell') = true := by simp [dv, Value.oneCell']
theorem av_one (A : Option Addr) (n c : Nat) (a : E) : (av A n c a).all (·.oneCell') = true := by simp [av, Value.oneCell']
theorem dv_info (A : Option Addr) (n c : Nat) (d : D) : (Tryz.prog.info? 43).map (·.size) = some (dv A n c d).size := by kernel_rfl
theorem av_info (A : Option Addr) (n c : Nat) (a : E) : (Tryz.prog.info? 45).map (·.size) = some (av A n c a).size := by kernel_rfl

/-! ### its bytes -/
def sg (n : Int) : Int := n % 4294967296
def symB (L : List G) : List Int := encs (fun n => encInt (sg n)) (L.map (·.1))
def sizB (L : List G) : List Int := encs encInt (L.map (·.2))
def entB (L : List G) : List Int := encInt L.length ++ (symB L ++ sizB L)
def bodI (d : D) : List Int := if d.K = 1 then encInt d.B else if d.K = 3 then entB d.L else if d.K = 6 then encInt (sg d.le) ++ encInt d.bi else []
def bytI (d : D) : List Int := encInt d.K ++ bodI d
def bytA (a : E) : List Int := encInt a.K ++ (encInt a.B ++ if a.K = 5 then [a.S] else bytI a.d)
theorem entB_len (L : List G) : (entB L).length ≤ 5 + 10 * L.length := by
  have h1 := encInt_len (L.length : Int)
  have h2 := encs_len (e := fun n => encInt (sg n)) (m := 5) (fun x => (encInt_len _).2) (L.map (·.1))
  have h3 := encs_len (e := encInt) (m := 5) (fun x => (encInt_len _).2) (L.map (·.2))
  simp only [List.length_map] at h2 h3
  simp only [entB, symB, sizB, List.length_append]
  omega
theorem bytI_len (d : D) : (bytI d).length ≤ 20 + 10 * d.L.length := by
  have h1 := encInt_len d.K
  have h2 := encInt_len d.B
  have h3 := encInt_len (sg d.le)
  have h4 := encInt_len d.bi
  have h5 := entB_len d.L
  unfold bytI bodI
  rw [List.length_append]
  split
  · omega
  · split
    · omega
    · split
      · rw [List.length_append]; omega
      · simp; omega
theorem bytA_len (a : E) : (bytA a).length ≤ 40 + 10 * a.d.L.length := by
  have h1 := encInt_len a.K
  have h2 := encInt_len a.B
  have h3 := bytI_len a.d
  unfold bytA
  rw [List.length_append, List.length_append]
  split
  · simp; omega
  · omega
end Go.Proofs.YtgaofnmgdefdcaaGreatDoor.Ds


namespace Go.Proofs.YtgaofnmgdefdcaaGreatDoor.Bq
open Go.RowKit Go.Proofs.YtgaofnmgdefdcaaGreatDoor.Gen Go.Proofs.YtgaofnmgdefdcaaGreatDoor.Cl Go.Proofs.YtgaofnmgdefdcaaGreatDoor.Bp Go.Proofs.YtgaofnmgdefdcaaGreatDoor.Bf
open Go.Proofs.YtgaofnmgdefdcaaGreatDoor.Bw hiding At IsBw Puts At.keeps At.drew At.ne At.set IsBw.keeps IsBw.its stored bytes put
variable {m1 m2 : Value}

/-- Block g is a Writer: whole bytes xs, in a row of its own, v; of last the lowest o bits are open. -/
structure At (m1 m2 : Value) (base g : Nat) (v : Value) (xs : List Int) (last o : Nat) (w : World) : Prop where
  low : base ≤ g
  size : base ≤ w.heap.size
  form : ∃ A c, v = .slice A xs.length c
  blk : Blk w g 77 #[v, .int .u64 last, .int .i64 o, m1, m2]
  own : w.ownsRow base 5 1 v xs.length (bv xs)
  fit : last < 18446744073709551616
  byte : ∀ x ∈ xs, 0 ≤ x ∧ x < 256
/-- It has these bits. -/
def IsBw (m1 m2 : Value) (base g : Nat) (v : Value) (l : List Nat) (w : World) : Prop := ∃ xs last o, At m1 m2 base g v xs last o w ∧ o < 8 ∧ l = bitsOf xs ++ tb last o
/-- Behind a put. -/
def Puts (m1 m2 : Value) (base g : Nat) (v : Value) (l : List Nat) (w : World) (r : Ending) (w' : World) : Prop :=
  r = .returned (.tuple #[]) ∧ ∃ v', IsBw m1 m2 base g v' l w' ∧ Moves g v v' w w'

theorem At.keeps {S : Nat → Prop} {base g : Nat} {v : Value} {xs : List Int} {last o : Nat} {w w1 : World} (h : At m1 m2 base g v xs last o w) (k : Keeps S w w1) (hn : ∀ b, Its g v b → ¬ S b) : At m1 m2 base g v xs last o w1 :=
  ⟨h.low, Nat.le_trans h.size k.size, h.form, h.blk.keeps k (hn g (.inl rfl)), own_keeps h.own k fun b hb => hn b (.inr hb), h.fit, h.byte⟩
theorem At.drew {base g : Nat} {v : Value} {xs : List Int} {last o : Nat} {w : World} (h : At m1 m2 base g v xs last o w) : At m1 m2 base g v xs last o w.drew := h.keeps (S := fun _ => False) ((Keeps.refl _ _).drewN 1) fun _ _ => id
theorem At.ne {base g : Nat} {v : Value} {xs : List Int} {last o : Nat} {w : World} (h : At m1 m2 base g v xs last o w) : ∀ b, v.ownBlock = some b → b ≠ g := fun b hb e => by
  subst e
  exact own_ne h.own h.blk (by decide) hb
theorem At.set {base g : Nat} {v : Value} {xs : List Int} {last o last' o' : Nat} {w : World} (h : At m1 m2 base g v xs last o w) (i : Nat) (u : Value) (hl : last' < 18446744073709551616)
    (hs : (#[v, .int .u64 last, .int .i64 o, m1, m2] : Array Value).setIfInBounds i u = #[v, .int .u64 last', .int .i64 o', m1, m2]) : At m1 m2 base g v xs last' o' (w.setCell ⟨g, i, none⟩ u) :=
  ⟨h.low, by simpa [World.setCell] using h.size, h.form, hs ▸ h.blk.setCell i u, own_keeps (S := (· = g)) h.own ((Keeps.refl _ _).setOwn _ _) h.ne, hl, h.byte⟩
theorem IsBw.keeps {S : Nat → Prop} {base g : Nat} {v : Value} {l : List Nat} {w w1 : World} (h : IsBw m1 m2 base g v l w) (k : Keeps S w w1) (hn : ∀ b, Its g v b → ¬ S b) : IsBw m1 m2 base g v l w1 := by
  obtain ⟨xs, last, o, h, h2⟩ := h
  exact ⟨xs, last, o, h.keeps k hn, h2⟩
theorem IsBw.its {base g : Nat} {v : Value} {l : List Nat} {w : World} (h : IsBw m1 m2 base g v l w) : ∀ k, Its g v k → base ≤ k ∧ k < w.heap.size := by
  obtain ⟨xs, last, o, h, _⟩ := h
  rintro k (rfl | hk)
  · exact ⟨h.low, h.blk.lt⟩
  · exact h.own.lt k hk
/-- The end of a round of Put: the row that append gave is stored into the Writer. -/
theorem stored {base g : Nat} {v v3 : Value} {xs : List Int} {x last o : Nat} {w w3 : World} (h : At m1 m2 base g v xs last o w) (h7 : Blk w3 g 77 #[v, .int .u64 last, .int .i64 o, m1, m2])
    (ho : w3.ownsRow base 5 1 v3 (xs ++ [(x : Int)]).length (bv (xs ++ [(x : Int)]))) (hx : x < 256) (hk : Keeps (Its g v) w w3) (hat : v3.ownBlock = v.ownBlock ∨ ∃ b, v3.ownBlock = some b ∧ w.heap.size ≤ b) :
    At m1 m2 base g v3 (xs ++ [(x : Int)]) last o (w3.setCell ⟨g, 0, none⟩ v3) ∧ Moves g v v3 w (w3.setCell ⟨g, 0, none⟩ v3) := by
  refine ⟨⟨h.low, ?_, ?_, ?_, ?_, h.fit, ?_⟩, hk.setCell (p := ⟨g, 0, none⟩) (.inl (.inl rfl)) _, hat⟩
  · have := hk.size
    have := h.size
    simp [World.setCell]
    omega
  · obtain ⟨A', c', h, _⟩ := own_form ho
    exact ⟨A', c', h⟩
  · simpa using h7.setCell 0 v3
  · exact own_keeps (S := (· = g)) ho ((Keeps.refl _ _).setOwn _ _) fun b hb' e => by subst e; exact own_ne ho h7 (by decide) hb'
  · intro y hy
    rcases List.mem_append.1 hy with hy | hy
    · exact h.byte y hy
    · rw [List.mem_singleton.1 hy]
      omega

theorem bytes (g base : Nat) (v : Value) (l : List Nat) (w : World) (h : IsBw m1 m2 base g v l w) (hl : l.length ≤ 7999000) :
    Calls Tryz.prog 45 #[.pointer (some ⟨g, 0, none⟩)] w (Packed w.heap.size l w) := by
  obtain ⟨xs, last, o, h, ho, rfl⟩ := h
  obtain ⟨A, c, rfl⟩ := h.form
  have h0 : w.cell? ⟨g, 0, none⟩ = some (.slice A xs.length c) := h.blk.cell 0
  have hxl : xs.length < 1000000 := by
    rw [List.length_append, bitsOf_len, tb_len] at hl
    omega
  have H := Lib.hid h
  clear h hl
  go_enter Tryz.func45, Tryz.ntmps45
  go_wp2_with fail
  refine (clone A c xs w (Lies.of_own H.out.own) (by omega)).mono ?_
  rintro e w1 ⟨A1, c1, rfl, hv, hk⟩
  have HV := Lib.hid hv
  have HK := Lib.hid hk
  have H1 := Lib.hid (H.out.keeps hk (fun _ _ => id))
  have h2 : w1.cell? ⟨g, 2, none⟩ = some (.int .i64 o) := H1.out.blk.cell 2
  clear hv hk h0
  by_cases h00 : o = 0
  · subst h00
    go_wp2
    go_ret
    exact ⟨A1, c1, xs, _, rfl, rfl, by simpa [tb] using whole_pack H.out.byte, H.out.byte, HV.out, HK.out⟩
  · obtain ⟨i0, hi0, hz0, hz1, hz2⟩ := info_parts u8_info
    have h1 : w1.cell? ⟨g, 1, none⟩ = some (.int .u64 last) := H1.out.blk.cell 1
    have hpos : 0 < o := by omega
    have hs0 : (0 : Int) ≤ 8 - (o : Int) := by omega
    have hs1 : IntKind.i64.wrap (8 - (o : Int)) = 8 - (o : Int) := IntWalk.i64_in _ (by omega)
    have hs2 : (8 - (o : Int)).toNat = 8 - o := by omega
    obtain ⟨L, hL⟩ : ∃ L, last * 2 ^ (8 - o) % 18446744073709551616 = L := ⟨_, rfl⟩
    obtain ⟨x, hx⟩ : ∃ x, L % 256 = x := ⟨_, rfl⟩
    have hwl : IntKind.u64.wrap ((last : Int) * 2 ^ (8 - o)) = (L : Int) := by rw [IntKind.wrap_u64, ← hL]; simp
    have hw8 : IntKind.u8.wrap (L : Int) = (x : Int) := by rw [IntKind.wrap_u8, ← hx]; simp
    have HX : Hid (last * 2 ^ (8 - o) % 256 = x) := by
      show last * 2 ^ (8 - o) % 256 = x
      rw [← hx, ← hL]
      omega
    have HXB : Hid (x < 256) := by show x < 256; omega
    have hnews : ∀ j u, [Value.int .u8 (x : Int)][j]? = some u → (w1.alloc (.cells #[.int .u8 (x : Int)] 5)).cell? ((⟨w1.heap.size, 0, none⟩ : Addr).add j) = some u := by
      intro j u hu
      rw [add_none, (Blk.new w1 5 #[.int .u8 (x : Int)]).cell]
      simpa using hu
    have HNW := Lib.hid hnews
    have e1 : (w1.alloc (.cells #[.int .u8 (x : Int)] 5)).cell? ⟨g, 1, none⟩ = some (.int .u64 last) := (H1.out.blk.alloc _).cell 1
    have e2 : (w1.alloc (.cells #[.int .u8 (x : Int)] 5)).cell? ⟨g, 2, none⟩ = some (.int .i64 o) := (H1.out.blk.alloc _).cell 2
    clear hnews hx hL
    go_wp2
    go_region_held3 (fun w' => w'.cell? ⟨g, 1, none⟩ = some (.int .u64 last) ∧ w'.cell? ⟨g, 2, none⟩ = some (.int .i64 o)) (first | exact ⟨e1, e2⟩ | exact ⟨h1, h2⟩ | exact ⟨k1, k2⟩)
      ((refine step_append_lies _ (by rfl) _ _ _ (by rfl) w.heap.size 5 i0 _ 1 1 Tryz.underlying29 hi0 hz0 hz1 hz2 rfl (by omega) (.slice A1 xs.length c1) xs.length (bv xs) (by rfl) (by exact HV.out.alloc _) ⟨w1.heap.size, 0, none⟩ 1 1 [.int .u8 (x : Int)] (by rfl) rfl (by exact HNW.out) (by simp [Value.oneCell']) (by omega) (by simp only [maxLen]; omega) (by omega) (by have := HK.out.size; simp; omega) _ rfl ?_
        intro g3 cap3 w3 hown3 hgrow3 hat3 hlt3
        have h7 : Blk w3 g 77 #[.slice A xs.length c, .int .u64 last, .int .i64 o, m1, m2] := Blk.grown (by exact H1.out.blk.alloc _) hgrow3 (fun e => by have hx1 := (HV.out.lt _ e).1; have hx2 := H.out.blk.lt; omega)
        have k1 : w3.cell? ⟨g, 1, none⟩ = some (.int .u64 last) := h7.cell 1
        have k2 : w3.cell? ⟨g, 2, none⟩ = some (.int .i64 o) := h7.cell 2
        have HO3 := Lib.hid hown3
        have HG3 := Lib.hid hgrow3
        clear h7 hown3 hgrow3 hat3 hlt3))
    go_wp2
    go_ret
    refine ⟨_, _, xs ++ [(x : Int)], _, by simp, rfl, part_pack H.out.byte hpos ho HX.out, ?_, by simpa [bv_append, bv] using HO3.out, Keeps.grown (w1 := (w1.alloc (.cells #[.int .u8 (x : Int)] 5)).drew) (by exact (HK.out.alloc _).drewN 1) HG3.out (fun k hk => .inr (HV.out.lt k hk).1)⟩
    intro y hy
    rcases List.mem_append.1 hy with hy | hy
    · exact H.out.byte y hy
    · rw [List.mem_singleton.1 hy]
      have := HXB.out
      omega
end Go.Proofs.YtgaofnmgdefdcaaGreatDoor.Bq

namespace Go.Proofs.YtgaofnmgdefdcaaGreatDoor.Qs
open Go.RowKit Go.Proofs.YtgaofnmgdefdcaaGreatDoor.Gen Go.Proofs.YtgaofnmgdefdcaaGreatDoor.Mp Go.Proofs.YtgaofnmgdefdcaaGreatDoor.Cm Go.Proofs.YtgaofnmgdefdcaaGreatDoor.Hr Go.Proofs.YtgaofnmgdefdcaaGreatDoor.Hn Go.Proofs.YtgaofnmgdefdcaaGreatDoor.Hk Go.Proofs.YtgaofnmgdefdcaaGreatDoor.Ln Go.Proofs.YtgaofnmgdefdcaaGreatDoor.Ds Go.Proofs.YtgaofnmgdefdcaaGreatDoor.Qh Go.Proofs.YtgaofnmgdefdcaaGreatDoor.Ww

/-! ### codes that are kept -/
def cv (A : Option Addr) (n c p : Nat) : Value := .agg #[.slice A n c, .pointer (some ⟨p, 0, none⟩)]
/-- Entries, and the code that was made of them; these lie in blocks of C. -/
def One (C : Nat → Prop) (v : Value) (w : World) : Prop := ∃ A n c p L, v = cv A n c p ∧ newE L = 0 ∧ Held C (fun u => Ents u A n L ∧ IsCode 0 u p (wordsOf (nats' L))) w
structure KeptAt (F C : Nat → Prop) (N b : Nat) (m : List (Lit × Value)) (w : World) : Prop where
  inF : F b
  out : ¬ C b
  sub : ∀ k, C k → F k
  len : m.length ≤ N
  map : IsM Tryz.prog 9 w b m
  all : ∀ e ∈ m, One C e.2 w
/-- Codes are kept in the map mv, in blocks of F, at most N. -/
def Kept (F : Nat → Prop) (N : Nat) (mv : Value) (w : World) : Prop :=
  (∀ k, F k → k < w.heap.size) ∧ (mv = .map none ∨ ∃ b m C, mv = .map (some b) ∧ KeptAt F C N b m w)
section
variable {F F' C C1 S : Nat → Prop} {N N' b : Nat} {m : List (Lit × Value)} {mv v : Value} {w w1 : World}
theorem One.keeps (h : One C v w) (k : Keeps S w w1) (hn : ∀ b, C b → ¬ S b) : One C v w1 := by
  obtain ⟨A, n, c, p, L, h1, h2, h3⟩ := h
  exact ⟨A, n, c, p, L, h1, h2, h3.keeps k hn⟩
theorem One.mono (h : One C v w) (hF : ∀ k, C k → F k) (hl : ∀ k, F k → k < w.heap.size) : One F v w := by
  obtain ⟨A, n, c, p, L, h1, h2, h3⟩ := h
  exact ⟨A, n, c, p, L, h1, h2, h3.mono hF hl⟩
theorem One.lt (h : One C v w) : ∀ k, C k → k < w.heap.size := by
  obtain ⟨A, n, c, p, L, h1, h2, h3⟩ := h
  exact h3.1
theorem Kept.start (w : World) : Kept (fun _ => False) 0 (.map none) w := ⟨fun _ h => h.elim, .inl rfl⟩
theorem KeptAt.keeps (h : KeptAt F C N b m w) (k : Keeps S w w1) (hn : ∀ b, F b → ¬ S b) : KeptAt F C N b m w1 :=
  ⟨h.inF, h.out, h.sub, h.len, h.map.keeps k (hn _ h.inF), fun e he => (h.all e he).keeps k fun b hb => hn b (h.sub b hb)⟩
theorem Kept.keeps (h : Kept F N mv w) (k : Keeps S w w1) (hn : ∀ b, F b → ¬ S b) : Kept F N mv w1 := by
  refine ⟨fun b hb => Nat.lt_of_lt_of_le (h.1 b hb) k.size, ?_⟩
  rcases h.2 with h2 | ⟨b, m, C, h2, h3⟩
  · exact .inl h2
  · exact .inr ⟨b, m, C, h2, h3.keeps k hn⟩
theorem Kept.le (h : Kept F N mv w) (hN : N ≤ N') : Kept F N' mv w := by
  refine ⟨h.1, ?_⟩
  rcases h.2 with h2 | ⟨b, m, C, h2, h3⟩
  · exact .inl h2
  · exact .inr ⟨b, m, C, h2, h3.inF, h3.out, h3.sub, Nat.le_trans h3.len hN, h3.map, h3.all⟩
theorem KeptAt.new (w : World) : KeptAt (· = w.heap.size) (fun _ => False) 0 w.heap.size [] (w.alloc (.map #[] 0)) :=
  ⟨rfl, id, fun _ h => h.elim, Nat.le_refl _, IsM.new _ _ w, fun e he => (by cases he)⟩
theorem KeptAt.held (h : KeptAt F C N b m w) (hF : ∀ k, F k → k < w.heap.size) {e : Lit × Value} (he : e ∈ m) : One F e.2 w := (h.all e he).mono h.sub hF
theorem upd_len (m : List (Lit × Value)) (kl : Lit) (v : Value) : (upd m kl v).length ≤ m.length + 1 := by
  have := List.length_filter_le (fun p : Lit × Value => !p.1.sameKey kl) m
  simp only [upd, List.length_append, List.length_singleton]
  omega
theorem KeptAt.put {kl : Lit} (h : KeptAt F C N b m w) (hl : ∀ k, F k → k < w.heap.size) (hu : IsM Tryz.prog 9 w1 b (upd m kl v)) (k : Keeps (· = b) w w1) (hv : One C1 v w) (h1 : ¬ C1 b) :
    KeptAt (fun k => F k ∨ C1 k) (fun k => C k ∨ C1 k) (N + 1) b (upd m kl v) w1 := by
  have hb : ∀ x, C x ∨ C1 x → x < w.heap.size := fun x hx => hx.elim (fun hx => hl x (h.sub x hx)) (hv.lt x)
  refine ⟨.inl h.inF, fun hx => hx.elim h.out h1, fun x hx => hx.imp (h.sub x) id, ?_, hu, fun e he => ?_⟩
  · have := upd_len m kl v
    have := h.len
    omega
  · have hne : ∀ x, C x ∨ C1 x → ¬ x = b := fun x hx e => by subst e; exact hx.elim h.out h1
    rcases List.mem_append.1 he with he | he
    · exact ((h.all e ((List.mem_filter.1 he).1)).mono (fun _ => .inl) hb).keeps k hne
    · rw [List.mem_singleton.1 he]
      exact (hv.mono (fun _ => .inr) hb).keeps k hne
theorem code_held {B p : Nat} {W : List (Int × Nat × Nat)} (h : IsCode B w p W) : Held (fun k => B ≤ k ∧ k < w.heap.size) (fun u => IsCode 0 u p W) w :=
  ⟨fun _ hk => hk.2, fun S w1 k hn => by
    obtain ⟨bw, bn, h1, h2, h3, _, _, _⟩ := h.keeps k fun b hb hlt => hn b ⟨hb, hlt⟩
    exact ⟨bw, bn, h1, h2, h3, Nat.zero_le _, Nat.zero_le _, Nat.zero_le _⟩⟩
end

/-! ### blocks, each a Writer -/
/-- Where a Writer lies, its row, its bytes. -/
abbrev W1 := Nat × Value × List Int
abbrev Gs := Nat → Option W1
def pu (G : Gs) (i : Nat) (e : W1) : Gs := fun j => if j = i then some e else G j
theorem pu_at (G : Gs) (i : Nat) (e : W1) : pu G i e i = some e := by simp [pu]
theorem pu_ne (G : Gs) {i j : Nat} (e : W1) (h : j ≠ i) : pu G i e j = G j := by simp [pu, h]
theorem pu_pu (G : Gs) (i : Nat) (e f : W1) : pu (pu G i e) i f = pu G i f := by funext j; unfold pu; split <;> rfl
def wptr (e : W1) : Value := .pointer (some ⟨e.1, 0, none⟩)
def ikv (i : Nat) : Value := .int .i64 (i : Int)
def ikl (i : Nat) : Lit := .int .i64 (i : Int)
theorem int_ks : Ks Tryz.prog 3 60001 ikv ikl where
  keyed := Go.Maps.int_keyed Tryz.underlying3
  ok i hi := Go.Maps.keyOf_int_mk Tryz.underlying3 (by
    have hm : IntKind.i64.min = -9223372036854775808 ∧ IntKind.i64.max = 9223372036854775807 := by decide
    simp [Lit.wf, hm.1, hm.2]
    omega)
  inj i j _ _ h := by unfold ikv at h; injection h with _ h; omega
structure WmsAt (F : Nat → Prop) (b : Nat) (G : Gs) (w : World) : Prop where
  inF : F b
  map : IsF Tryz.prog 3 60001 ikl w b (fun i => (G i).map wptr)
  wr : ∀ i e, G i = some e → i < 60001 ∧ IsWr 0 e.1 e.2.1 e.2.2 w ∧ ∀ k, Its e.1 e.2.1 k → F k ∧ k ≠ b
  apart : ∀ i j e f, i ≠ j → G i = some e → G j = some f → ∀ k, Its e.1 e.2.1 k → ¬ Its f.1 f.2.1 k
def Wms (F : Nat → Prop) (mv : Value) (G : Gs) (w : World) : Prop :=
  (∀ k, F k → k < w.heap.size) ∧ ((mv = .map none ∧ ∀ i, G i = none) ∨ ∃ b, mv = .map (some b) ∧ WmsAt F b G w)
section
variable {F F' S : Nat → Prop} {b i : Nat} {G : Gs} {mv : Value} {w w1 : World}
theorem Wms.start (w : World) : Wms (fun _ => False) (.map none) (fun _ => none) w := ⟨fun _ h => h.elim, .inl ⟨rfl, fun _ => rfl⟩⟩
theorem its_lt {g : Nat} {v : Value} {ys : List Int} (h : IsWr 0 g v ys w) : ∀ k, Its g v k → k < w.heap.size := by
  rintro k (rfl | hk)
  · exact h.lt
  · exact (h.2.2.2.2.2.lt k hk).2
theorem WmsAt.keeps (h : WmsAt F b G w) (k : Keeps S w w1) (hn : ∀ b, F b → ¬ S b) : WmsAt F b G w1 :=
  ⟨h.inF, h.map.keeps k (hn _ h.inF), fun i e he => by
    obtain ⟨h1, h2, h3⟩ := h.wr i e he
    exact ⟨h1, h2.keeps k fun x hx => hn x (h3 x hx).1, h3⟩, h.apart⟩
theorem Wms.keeps (h : Wms F mv G w) (k : Keeps S w w1) (hn : ∀ b, F b → ¬ S b) : Wms F mv G w1 := by
  refine ⟨fun b hb => Nat.lt_of_lt_of_le (h.1 b hb) k.size, ?_⟩
  rcases h.2 with h2 | ⟨b, h2, h3⟩
  · exact .inl h2
  · exact .inr ⟨b, h2, h3.keeps k hn⟩
theorem WmsAt.new (w : World) : WmsAt (· = w.heap.size) w.heap.size (fun _ => none) (w.alloc (.map #[] 0)) :=
  ⟨rfl, IsF.new _ _ _ _ w, fun i e h => (by cases h), fun i j e f _ h => (by cases h)⟩
theorem WmsAt.mono (h : WmsAt F b G w) (hF : ∀ k, F k → F' k) : WmsAt F' b G w :=
  ⟨hF _ h.inF, h.map, fun i e he => ⟨(h.wr i e he).1, (h.wr i e he).2.1, fun k hk => ⟨hF k ((h.wr i e he).2.2 k hk).1, ((h.wr i e he).2.2 k hk).2⟩⟩, h.apart⟩
/-- Something is put into a block that is there. -/
theorem WmsAt.put {g : Nat} {v : Value} {ys zs : List Int} {r : Ending} (h : WmsAt F b G w) (hl : ∀ k, F k → k < w.heap.size) (hG : G i = some (g, v, ys)) (hp : Puts 0 g v zs w r w1) :
    ∃ v', WmsAt (fun k => F k ∨ (w.heap.size ≤ k ∧ k < w1.heap.size)) b (pu G i (g, v', zs)) w1 ∧ Step F (fun k => F k ∨ (w.heap.size ≤ k ∧ k < w1.heap.size)) w w1 := by
  obtain ⟨_, v', hw, hk, ho⟩ := hp
  obtain ⟨hi, hwr, hits⟩ := h.wr i _ hG
  have hsub : ∀ k, Its g v' k → Its g v k ∨ (w.heap.size ≤ k ∧ k < w1.heap.size) := by
    intro k hx
    have hlt := its_lt hw k hx
    rcases hx with rfl | hx
    · exact .inl (.inl rfl)
    · rcases ho with ho | ⟨b', ho, hb'⟩
      · exact .inl (.inr (ho ▸ hx))
      · rw [ho] at hx
        injection hx with hx
        subst hx
        exact .inr ⟨hb', hlt⟩
  have hb := hl b h.inF
  refine ⟨v', ⟨.inl h.inF, ?_, ?_, ?_⟩, ⟨hk.mono fun k _ hx => (hits k hx).1, fun k hx => hx.imp id And.left⟩⟩
  · refine (h.map.keeps hk fun hx => (hits b hx).2 rfl).congr fun j _ => ?_
    by_cases hj : j = i
    · subst hj
      rw [pu_at, hG]
      rfl
    · rw [pu_ne G _ hj]
  · intro j e he
    by_cases hj : j = i
    · subst hj
      rw [pu_at] at he
      injection he with he
      subst he
      refine ⟨hi, hw, fun k hx => ?_⟩
      rcases hsub k hx with h1 | h1
      · exact ⟨.inl (hits k h1).1, (hits k h1).2⟩
      · exact ⟨.inr h1, by omega⟩
    · rw [pu_ne G _ hj] at he
      obtain ⟨h1, h2, h3⟩ := h.wr j e he
      exact ⟨h1, h2.keeps hk fun x hx => h.apart j i e _ hj he hG x hx, fun k hx => ⟨.inl (h3 k hx).1, (h3 k hx).2⟩⟩
  · have key : ∀ j f, j ≠ i → G j = some f → ∀ k, Its g v' k → ¬ Its f.1 f.2.1 k := by
      intro j f hj hf k hx hy
      have h2 := its_lt (h.wr j f hf).2.1 k hy
      rcases hsub k hx with h1 | h1
      · exact h.apart i j _ f (Ne.symm hj) hG hf k h1 hy
      · omega
    intro x y e f hxy he hf k hx hy
    by_cases hxi : x = i
    · subst hxi
      rw [pu_at] at he
      injection he with he
      subst he
      rw [pu_ne G _ (Ne.symm hxy)] at hf
      exact key y f (Ne.symm hxy) hf k hx hy
    · rw [pu_ne G _ hxi] at he
      by_cases hyi : y = i
      · subst hyi
        rw [pu_at] at hf
        injection hf with hf
        subst hf
        exact key x e hxi he k hy hx
      · rw [pu_ne G _ hyi] at hf
        exact h.apart x y e f hxy he hf k hx hy
/-- A block that wasn't there is laid, with nothing in it. -/
theorem WmsAt.add (h : WmsAt F b G w) (hl : ∀ k, F k → k < w.heap.size) (hi : i < 60001) (hG : G i = none)
    (hm : IsF Tryz.prog 3 60001 ikl w1 b (putF (fun i => (G i).map wptr) i (.pointer (some ⟨w.heap.size, 0, none⟩)))) (k : Keeps (· = b) (w.alloc (.cells #[.slice none 0 0] 85)) w1) :
    WmsAt (fun k => F k ∨ k = w.heap.size) b (pu G i (w.heap.size, .slice none 0 0, [])) w1 := by
  have hb := hl b h.inF
  have hk := (Keeps.refl (fun _ => False) w).alloc (.cells #[.slice none 0 0] 85)
  have h0 := new_of 85 (by decide) w
  have hnew : IsWr 0 w.heap.size (.slice none 0 0) [] (w.alloc (.cells #[.slice none 0 0] 85)) :=
    ⟨Nat.zero_le _, Nat.zero_le _, h0.2.2.1, h0.2.2.2.1, h0.2.2.2.2.1, own_base h0.2.2.2.2.2 (Nat.zero_le _)⟩
  have hits : ∀ k, Its w.heap.size (.slice none 0 0) k → k = w.heap.size := by
    rintro k (rfl | hx)
    · rfl
    · simp [Value.ownBlock] at hx
  refine ⟨.inl h.inF, hm.congr fun j _ => ?_, ?_, ?_⟩
  · unfold putF pu
    split <;> rfl
  · intro j e he
    by_cases hj : j = i
    · subst hj
      rw [pu_at] at he
      injection he with he
      subst he
      refine ⟨hi, hnew.keeps k fun x hx e => ?_, fun x hx => ⟨.inr (hits x hx), ?_⟩⟩
      · have := hits x hx
        omega
      · have := hits x hx
        omega
    · rw [pu_ne G _ hj] at he
      obtain ⟨h1, h2, h3⟩ := h.wr j e he
      exact ⟨h1, (h2.keeps hk fun _ _ => id).keeps k fun x hx => (h3 x hx).2, fun x hx => ⟨.inl (h3 x hx).1, (h3 x hx).2⟩⟩
  · intro x y e f hxy he hf k hx hy
    by_cases hxi : x = i
    · subst hxi
      rw [pu_at] at he
      injection he with he
      subst he
      rw [pu_ne G _ (Ne.symm hxy)] at hf
      have h1 := its_lt (h.wr y f hf).2.1 k hy
      have h2 := hits k hx
      omega
    · rw [pu_ne G _ hxi] at he
      by_cases hyi : y = i
      · subst hyi
        rw [pu_at] at hf
        injection hf with hf
        subst hf
        have h1 := its_lt (h.wr x e he).2.1 k hx
        have h2 := hits k hy
        omega
      · rw [pu_ne G _ hyi] at hf
        exact h.apart x y e f hxy he hf k hx hy
end

/-! ### a Quill -/
structure QlAt (F Fb Fc : Nat → Prop) (B g : Nat) (v mb mc : Value) (l : List Nat) (G : Gs) (N : Nat) (w : World) : Prop where
  row : Bq.IsBw mb mc 0 g v l w
  wms : Wms Fb mb G w
  kept : Kept Fc N mc w
  ab : ∀ k, Bw.Its g v k → ¬ Fb k ∧ ¬ Fc k
  bc : ∀ k, Fb k → ¬ Fc k
  all : ∀ k, F k ↔ Bw.Its g v k ∨ Fb k ∨ Fc k
  low : ∀ k, F k → B ≤ k
/-- At block g lies a Quill, in blocks of F: its row of bits is l, its blocks are G; at most N codes are kept. -/
def Ql (F : Nat → Prop) (B g : Nat) (l : List Nat) (G : Gs) (N : Nat) (w : World) : Prop := ∃ Fb Fc v mb mc, QlAt F Fb Fc B g v mb mc l G N w
section
variable {F Fb Fc S : Nat → Prop} {B g N N' : Nat} {v mb mc : Value} {l : List Nat} {G : Gs} {w w1 : World}
theorem QlAt.keeps (h : QlAt F Fb Fc B g v mb mc l G N w) (k : Keeps S w w1) (hn : ∀ b, F b → ¬ S b) : QlAt F Fb Fc B g v mb mc l G N w1 :=
  ⟨h.row.keeps k fun b hb => hn b ((h.all b).2 (.inl hb)), h.wms.keeps k fun b hb => hn b ((h.all b).2 (.inr (.inl hb))), h.kept.keeps k fun b hb => hn b ((h.all b).2 (.inr (.inr hb))), h.ab, h.bc, h.all, h.low⟩
theorem Ql.keeps (h : Ql F B g l G N w) (k : Keeps S w w1) (hn : ∀ b, F b → ¬ S b) : Ql F B g l G N w1 := by
  obtain ⟨Fb, Fc, v, mb, mc, h⟩ := h
  exact ⟨Fb, Fc, v, mb, mc, h.keeps k hn⟩
theorem Ql.more (h : Ql F B g l G N w) (k : Keeps (fun _ => False) w w1) : Ql F B g l G N w1 := h.keeps k fun _ _ => id
theorem Ql.le (h : Ql F B g l G N w) (hN : N ≤ N') : Ql F B g l G N' w := by
  obtain ⟨Fb, Fc, v, mb, mc, h⟩ := h
  exact ⟨Fb, Fc, v, mb, mc, h.row, h.wms, h.kept.le hN, h.ab, h.bc, h.all, h.low⟩
theorem Ql.low (h : Ql F B g l G N w) : ∀ k, F k → B ≤ k := by
  obtain ⟨Fb, Fc, v, mb, mc, h⟩ := h
  exact h.low
theorem QlAt.lt (h : QlAt F Fb Fc B g v mb mc l G N w) : ∀ k, F k → k < w.heap.size := fun k hk => by
  rcases (h.all k).1 hk with h1 | h1 | h1
  · exact (h.row.its k h1).2
  · exact h.wms.1 k h1
  · exact h.kept.1 k h1
theorem Ql.lt (h : Ql F B g l G N w) : ∀ k, F k → k < w.heap.size := by
  obtain ⟨Fb, Fc, v, mb, mc, h⟩ := h
  exact h.lt
theorem Ql.held (h : Ql F B g l G N w) : Held F (Ql F B g l G N) w := ⟨h.lt, fun S w1 k hn => h.keeps k hn⟩
/-- Its cells; with other maps in them it is a row of bits all the same. -/
theorem row_cells (h : Bq.IsBw mb mc 0 g v l w) : ∃ last o : Nat, Blk w g 77 #[v, .int .u64 last, .int .i64 o, mb, mc] ∧
    ∀ S w1 mb' mc', Keeps S w w1 → (∀ k, v.ownBlock = some k → ¬ S k) → Blk w1 g 77 #[v, .int .u64 last, .int .i64 o, mb', mc'] → Bq.IsBw mb' mc' 0 g v l w1 := by
  obtain ⟨xs, last, o, h, h2⟩ := h
  refine ⟨last, o, h.blk, fun S w1 mb' mc' k hn hb => ⟨xs, last, o, ⟨h.low, Nat.le_trans h.size k.size, h.form, hb, own_keeps h.own k hn, h.fit, h.byte⟩, h2⟩⟩
theorem Ql.start (w : World) : Ql (· = w.heap.size) w.heap.size w.heap.size [] (fun _ => none) 0 (w.alloc (.cells #[.slice none 0 0, .int .u64 0, .int .i64 0, .map none, .map none] 77)) := by
  refine ⟨fun _ => False, fun _ => False, .slice none 0 0, .map none, .map none, ⟨[], 0, 0, ⟨Nat.zero_le _, Nat.zero_le _, ⟨none, 0, rfl⟩, Blk.new _ _ _, World.ownsRow_nil _ _ _ _, by decide, by simp⟩, by decide, rfl⟩, Wms.start _, Kept.start _, fun _ _ => ⟨id, id⟩, fun _ h => h.elim, fun k => ?_, fun k hk => by omega⟩
  constructor
  · intro h
    exact .inl (.inl h)
  · rintro ((h | h) | h | h)
    · exact h
    · simp [Value.ownBlock] at h
    · exact h.elim
    · exact h.elim
end
end Go.Proofs.YtgaofnmgdefdcaaGreatDoor.Qs
