/- What itf's Reader takes, call by call: numbers, or the first error; only the block of wire's Reader that it embeds turns, and new memory is made. -/
import Derived.Test.YtgaofnmgdefdcaaGreatDoorJItfNumWireRd
import Derived.Deep.RegionHeld3
import Derived.Handy
namespace Go.Proofs.YtgaofnmgdefdcaaGreatDoor.Ir
open Go.RowKit Go.Proofs.YtgaofnmgdefdcaaGreatDoor.Gen Go.Proofs.YtgaofnmgdefdcaaGreatDoor.Wr Go.Proofs.YtgaofnmgdefdcaaGreatDoor.It

/-- The value that itf's Reader is. -/
def rd (g : Nat) : Value := .agg #[.pointer (some ⟨g, 0, none⟩)]
/-- A new one. -/
def NewItf (base : Nat) (xs : List Int) (w : World) (r : Ending) (w' : World) : Prop :=
  ∃ g, r = .returned (rd g) ∧ IsRd base g ⟨xs, 0, 0⟩ w' ∧ Keeps (fun _ => False) w w'
theorem iread (A : Option Addr) (n c : Nat) (xs : List Int) (w : World) (hx : xs.length = n) (hl : Lies w A xs) (hn : n ≤ 1000000) (hb : ∀ x ∈ xs, 0 ≤ x ∧ x < 256) :
    Calls Tryz.prog 48 #[.slice A n c] w (NewItf w.heap.size xs w) := by
  have HB := Lib.hid hb
  have HL := Lib.hid hl
  have HX := Lib.hid hx
  clear hb hl hx
  go_enter Tryz.func48, Tryz.ntmps48
  go_wp2_with fail
  refine (read_n A n c xs _ HX.out (HL.out.keeps (S := fun _ => False) ((Keeps.refl _ _).alloc _) (fun _ _ _ => id)) hn HB.out).mono ?_
  rintro e w1 ⟨g, rfl, hr, hk⟩
  have hx : Blk w1 w.heap.size 110 #[.pointer none] := (Blk.new w 110 #[.pointer none]).keeps hk id
  have hx0 : w1.cell? ⟨w.heap.size, 0, none⟩ = some (.pointer none) := hx.cell 0
  have hx1 : w1.frozen? ⟨w.heap.size, 0, none⟩ = false := hx.frozen 0
  have HR := Lib.hid hr
  have HK := Lib.hid hk
  have HXB := Lib.hid hx
  clear hr hk hx
  go_wp2
  generalize hW : w1.setCell ⟨w.heap.size, 0, none⟩ (.pointer (some ⟨g, 0, none⟩)) = W
  have hw2 : W.cell? ⟨w.heap.size, 0, none⟩ = some (.pointer (some ⟨g, 0, none⟩)) := by
    subst hW
    exact (HXB.out.setCell 0 _).cell 0
  refine bodyPost_ret (v := rd g) (by simp [results, Tryz.results48, go_sem, hw2]; rfl) rfl ?_
  subst hW
  have hgs := HR.out.1
  simp at hgs
  refine ⟨g, rfl, ?_, (((Keeps.refl _ _).alloc _).trans HK.out).setCell (p := ⟨w.heap.size, 0, none⟩) (.inr (Nat.le_refl _)) _⟩
  obtain ⟨_, ho, A2, c2, hb, hv, hrb⟩ := HR.out
  refine ⟨by omega, ho, A2, c2, hb.setFar (p := ⟨w.heap.size, 0, none⟩) (by simp; omega) _, own_base (own_keeps (S := (· = w.heap.size)) hv ((Keeps.refl _ _).setOwn _ _) (fun b hb e => ?_)) (by simp), hrb⟩
  have := (hv.lt b hb).1
  simp at this
  omega

/-- The block in which a call keeps the Reader that it was handed; behind it only block g has turned, and new memory was made. -/
def Box (w : World) (g : Nat) (W : World) : Prop := Blk W w.heap.size 110 #[.pointer (some ⟨g, 0, none⟩)] ∧ Keeps (· = g) w W ∧ g < w.heap.size
theorem Box.new (w : World) (g : Nat) (h : g < w.heap.size) : Box w g (w.alloc (.cells #[.pointer (some ⟨g, 0, none⟩)] 110)) := ⟨Blk.new _ _ _, (Keeps.refl _ _).alloc _, h⟩
theorem Box.next {w W W1 : World} {g : Nat} (h : Box w g W) (k : Keeps (· = g) W W1) : Box w g W1 := ⟨h.1.keeps k (fun e => by have := h.2.2; omega), h.2.1.trans k, h.2.2⟩
theorem Box.cell {w W : World} {g : Nat} (h : Box w g W) : W.cell? ⟨w.heap.size, 0, none⟩ = some (.pointer (some ⟨g, 0, none⟩)) := h.1.cell 0
theorem Box.rd {w W : World} {g base : Nat} {s : RS} (_h : Box w g W) (hr : IsRd base g s w) (hW : W = w.alloc (.cells #[.pointer (some ⟨g, 0, none⟩)] 110)) : IsRd base g s W := by
  subst hW
  exact hr.keeps (S := fun _ => False) ((Keeps.refl _ _).alloc _) (fun _ _ => id)

/-- The bytes that follow, one by one, behind n. -/
def RS.gath (s : RS) (n : Int) : Nat → Int × RS
  | 0 => (n, s)
  | j + 1 => ((RS.gath s n j).1 * 256 + (RS.gath s n j).2.byte.1, (RS.gath s n j).2.byte.2)
/-- The bits of a number, how many bytes followed (at most so many), and the Reader behind it. -/
def RS.num (s : RS) (most : Nat) : Int × Nat × RS :=
  ((RS.gath s.byte.2 (s.byte.1 % 2 ^ (8 - min (lead s.byte.1) most)) (min (lead s.byte.1) most)).1, min (lead s.byte.1) most, (RS.gath s.byte.2 (s.byte.1 % 2 ^ (8 - min (lead s.byte.1) most)) (min (lead s.byte.1) most)).2)
def RS.needs (s : RS) (n : Int) (f : Nat) : Int × RS := if foll n < f then (0, s.fail 4) else (if s.e = 0 then n else 0, s)
theorem gath_ok {s : RS} (h : s.ok) {n : Int} {m : Nat} (h0 : 0 ≤ n) (h1 : n < 2 ^ m) : ∀ j, (RS.gath s n j).2.ok ∧ 0 ≤ (RS.gath s n j).1 ∧ (RS.gath s n j).1 < 2 ^ (m + 8 * j)
  | 0 => ⟨h, h0, h1⟩
  | j + 1 => by
    obtain ⟨k1, k2, k3⟩ := gath_ok h h0 h1 j
    obtain ⟨b1, b2, b3⟩ := RS.byte_ok k1
    refine ⟨b1, ?_, ?_⟩
    · simp only [RS.gath]
      omega
    · simp only [RS.gath]
      rw [show m + 8 * (j + 1) = m + 8 * j + 8 by omega, Int.pow_add]
      omega

theorem needs (g : Nat) (s : RS) (base : Nat) (n : Int) (f : Nat) (w : World) (h : IsRd base g s w) (h0 : 0 ≤ n) (h1 : n < 18446744073709551616) :
    Calls Tryz.prog 136 #[rd g, .int .u64 n, .int .i64 f] w (Turns base g (.int .u64 (RS.needs s n f).1) (RS.needs s n f).2 w) := by
  have H := Lib.hid h
  clear h
  unfold rd
  go_enter Tryz.func136, Tryz.ntmps136
  go_wp2_with fail
  generalize hW : w.alloc (.cells #[.pointer (some ⟨g, 0, none⟩)] 110) = W
  have HX : Hid (Box w g W) := by subst hW; exact Box.new w g H.out.lt
  have HR := Lib.hid (HX.out.rd H.out hW.symm)
  have hx := HX.out.cell
  clear hW H
  refine (more n _ h0 h1).mono ?_
  rintro e w1 ⟨rfl, rfl⟩
  by_cases hf : foll n < f
  · have HE := Lib.hid (show RS.needs s n f = (0, s.fail 4) by simp [RS.needs, hf])
    have hne : ((s.fail 4).e != 0) = true := by
      by_cases he : s.e = 0
      · simp [RS.fail, he]
      · simp [RS.fail, he]
    go_wp2_with fail
    refine (Wr.fail g s base 4 _ HR.out).mono ?_
    rintro e w2 ⟨rfl, hr, hk⟩
    have HX2 := Lib.hid (HX.out.next hk)
    have HR2 := Lib.hid hr
    have hx2 := HX2.out.cell
    clear hr hk
    go_wp2_with fail
    refine (Wr.err g _ base _ HR2.out).mono ?_
    rintro e w3 ⟨rfl, rfl⟩
    go_wp2
    go_ret
    rw [HE.out]
    exact ⟨rfl, HR2.out, HX2.out.2.1⟩
  · by_cases he : s.e = 0
    · have HE := Lib.hid (show RS.needs s n f = (n, s) by simp [RS.needs, hf, he])
      have hne : (s.e != 0) = false := by simp [he]
      clear he
      go_wp2_with fail
      refine (Wr.err g _ base _ HR.out).mono ?_
      rintro e w3 ⟨rfl, rfl⟩
      go_wp2
      go_ret
      rw [HE.out]
      exact ⟨rfl, HR.out, HX.out.2.1⟩
    · have HE := Lib.hid (show RS.needs s n f = (0, s) by simp [RS.needs, hf, he])
      have hne : (s.e != 0) = true := by simp [he]
      clear he
      go_wp2_with fail
      refine (Wr.err g _ base _ HR.out).mono ?_
      rintro e w3 ⟨rfl, rfl⟩
      go_wp2
      go_ret
      rw [HE.out]
      exact ⟨rfl, HR.out, HX.out.2.1⟩

theorem step_or {a b : Int} (ha : 0 ≤ a) (ha' : a < 2 ^ 56) (hb : 0 ≤ b) (hb' : b < 256) : bits .or .u64 (a * 256 % 18446744073709551616) b = a * 256 + b := by
  rw [Int.emod_eq_of_lt (by omega) (by omega)]
  exact or_low (k := 8) ha hb (by omega) (by omega)

theorem take (g : Nat) (s : RS) (base most : Nat) (w : World) (h : IsRd base g s w) (hm : most ≤ 8) :
    Calls Tryz.prog 135 #[rd g, .int .i64 most] w fun r w' => r = .returned (.tuple #[.int .u64 (RS.num s most).1, .int .i64 (RS.num s most).2.1]) ∧ IsRd base g (RS.num s most).2.2 w' ∧ Keeps (· = g) w w' := by
  have H := Lib.hid h
  obtain ⟨hok, hb0, hb1⟩ := RS.byte_ok h.2.1
  clear h
  obtain ⟨hl1, hl2⟩ := lead_eq hb0 hb1
  have HL1 := Lib.hid hl1
  have HL2 := Lib.hid hl2
  obtain ⟨f, hf⟩ : ∃ f, f = min (lead s.byte.1) most := ⟨_, rfl⟩
  have hf8 : f ≤ 8 := by omega
  have HN : Hid (bits .andNot .u8 s.byte.1 (onesOf f) = s.byte.1 % 2 ^ (8 - f)) := not_ones hf8 hb0 hb1
  have hm0 : 0 ≤ s.byte.1 % 2 ^ (8 - f) := Int.emod_nonneg _ (by have : (0 : Int) < 2 ^ (8 - f) := Int.pow_pos (by decide); omega)
  have hm1 : s.byte.1 % 2 ^ (8 - f) < 2 ^ (8 - f) := Int.emod_lt_of_pos _ (Int.pow_pos (by decide))
  have HG := Lib.hid (gath_ok hok hm0 hm1)
  have HE : Hid (RS.num s most = ((RS.gath s.byte.2 (s.byte.1 % 2 ^ (8 - f)) f).1, f, (RS.gath s.byte.2 (s.byte.1 % 2 ^ (8 - f)) f).2)) := by
    show RS.num s most = _
    rw [hf]
    rfl
  have HF : Hid (min ((lead s.byte.1 : Int)) (most : Int) = (f : Int)) := by
    show min ((lead s.byte.1 : Int)) (most : Int) = (f : Int)
    omega
  have hm2 : s.byte.1 % 2 ^ (8 - f) < 256 := by
    have := Nat.pow_le_pow_right (n := 2) (by decide) (show 8 - f ≤ 8 by omega)
    have hc : (2 : Int) ^ (8 - f) = ((2 ^ (8 - f) : Nat) : Int) := by simp
    omega
  clear hf hl1 hl2 hok hm1
  unfold rd
  go_enter Tryz.func135, Tryz.ntmps135
  go_wp2_with fail
  generalize hW : w.alloc (.cells #[.pointer (some ⟨g, 0, none⟩)] 110) = W
  have HX : Hid (Box w g W) := by subst hW; exact Box.new w g H.out.lt
  have HR := Lib.hid (HX.out.rd H.out hW.symm)
  have hx := HX.out.cell
  clear hW H
  refine (Wr.byte g s base _ HR.out).mono ?_
  rintro e w1 ⟨rfl, hr, hk⟩
  have HX1 := Lib.hid (HX.out.next hk)
  have HR1 := Lib.hid hr
  have hx1 := HX1.out.cell
  clear hr hk HX HR hx
  generalize s.byte.1 = b at *
  go_wp2_with fail
  rw [HL1.out]
  refine (Bl.lead8 (255 - b) _ (by omega) (by omega)).mono ?_
  rintro e w2 ⟨rfl, rfl⟩
  rw [HL2.out]
  go_wp2_with fail
  rw [HF.out]
  refine (ones f _ hf8).mono ?_
  rintro e w3 ⟨rfl, rfl⟩
  go_wp2_with fail
  rw [HN.out, IntWalk.u64_in _ ⟨hm0, by omega⟩]
  generalize b % 2 ^ (8 - f) = m at *
  generalize s.byte.2 = s1 at *
  clear HN HL1 HL2 HF
  go_loopw [8, 23] (fun n i wr => ∃ j : Nat, j ≤ f ∧ n = .int .u64 (RS.gath s1 m j).1 ∧ i = .int .i64 j ∧ IsRd base g (RS.gath s1 m j).2 wr ∧ Box w g wr) (fun _ i _ => f - (intOf i).toNat)
  case atStart => exact ⟨0, Nat.zero_le _, rfl, rfl, HR1.out, HX1.out⟩
  case round =>
    obtain ⟨j, hj, rfl, rfl, hr, hb⟩ := hrel
    have HR := Lib.hid hr
    have HB := Lib.hid hb
    have hx := hb.cell
    clear hr hb HR1 HX1 hx1
    by_cases hlt : j < f
    · obtain ⟨hg0, hg1, hg2⟩ := HG.out j
      have hg3 : (RS.gath s1 m j).1 < 72057594037927936 := by
        refine Int.lt_of_lt_of_le hg2 ?_
        have := Nat.pow_le_pow_right (n := 2) (by decide) (show 8 - f + 8 * j ≤ 56 by omega)
        have hc : (2 : Int) ^ (8 - f + 8 * j) = ((2 ^ (8 - f + 8 * j) : Nat) : Int) := by simp
        omega
      obtain ⟨hq0, hq1, hq2⟩ := RS.byte_ok hg0
      have HS : Hid (bits .or .u64 ((RS.gath s1 m j).1 * 256) (RS.gath s1 m j).2.byte.1 = (RS.gath s1 m (j + 1)).1) := or_low (k := 8) hg1 hq1 (by omega) (by omega)
      clear hg0 hg2 hq0
      go_wp2_with fail
      refine (Wr.byte g _ base _ HR.out).mono ?_
      rintro e w4 ⟨rfl, hr, hk⟩
      have HR2 : Hid (IsRd base g (RS.gath s1 m (j + 1)).2 w4) := hr
      have HB2 := Lib.hid (HB.out.next hk)
      clear hr hk
      go_wp2
      refine ⟨⟨j + 1, by omega, ?_, by go_num, HR2.out, HB2.out⟩, by simp [intOf]; omega⟩
      rw [HS.out]
    · obtain rfl : j = f := by omega
      go_wp2
      go_ret2
      rw [HE.out]
      exact ⟨rfl, HR.out, HB.out.2.1⟩

/-- The next number of 64 bits, or an error; the Reader behind it. -/
def RS.long (s : RS) : Int × RS := RS.needs (RS.num s 8).2.2 (RS.num s 8).1 (RS.num s 8).2.1
theorem num_ok {s : RS} (h : s.ok) (most : Nat) (hm : most ≤ 8) : (RS.num s most).2.2.ok ∧ 0 ≤ (RS.num s most).1 ∧ (RS.num s most).1 < 2 ^ (8 + 7 * (RS.num s most).2.1) ∧ (RS.num s most).2.1 ≤ most := by
  obtain ⟨h1, h2, h3⟩ := RS.byte_ok h
  have hf : min (lead s.byte.1) most ≤ 8 := by omega
  obtain ⟨g1, g2, g3⟩ := gath_ok h1 (n := s.byte.1 % 2 ^ (8 - min (lead s.byte.1) most)) (m := 8 - min (lead s.byte.1) most) (Int.emod_nonneg _ (by have : (0 : Int) < 2 ^ (8 - min (lead s.byte.1) most) := Int.pow_pos (by decide); omega)) (Int.emod_lt_of_pos _ (Int.pow_pos (by decide))) (min (lead s.byte.1) most)
  refine ⟨g1, g2, ?_, by simp only [RS.num]; omega⟩
  simp only [RS.num]
  rw [show 8 + 7 * min (lead s.byte.1) most = 8 - min (lead s.byte.1) most + 8 * min (lead s.byte.1) most by omega]
  exact g3
theorem num_lt {s : RS} (h : s.ok) (most : Nat) (hm : most ≤ 8) : (RS.num s most).1 < 18446744073709551616 := by
  obtain ⟨_, _, h3, h4⟩ := num_ok h most hm
  refine Int.lt_of_lt_of_le h3 ?_
  have := Nat.pow_le_pow_right (n := 2) (by decide) (show 8 + 7 * (RS.num s most).2.1 ≤ 64 by omega)
  have hc : (2 : Int) ^ (8 + 7 * (RS.num s most).2.1) = ((2 ^ (8 + 7 * (RS.num s most).2.1) : Nat) : Int) := by simp
  omega
/-- The next number of 32 bits, or an error; the Reader behind it. -/
def five (p : Int × Nat × RS) : Int × RS :=
  if p.2.1 < 4 then RS.needs p.2.2 p.1 p.2.1 else if 15 < p.1 % 256 then (0, p.2.2.fail 4) else RS.needs p.2.2 (p.1 / 256 * 16 + p.1 % 256) 4
def RS.int (s : RS) : Int × RS := five (RS.num s 4)
theorem needs_in (s : RS) {n : Int} (f : Nat) (h : 0 ≤ n) : 0 ≤ (RS.needs s n f).1 ∧ (RS.needs s n f).1 ≤ n := by
  unfold RS.needs
  split
  · exact ⟨Int.le_refl _, h⟩
  · split
    · exact ⟨h, Int.le_refl _⟩
    · exact ⟨Int.le_refl _, h⟩
theorem fail_e (s : RS) : (s.fail 4).e ≠ 0 := by
  by_cases he : s.e = 0
  · simp [RS.fail, he]
  · simp [RS.fail, he]
theorem needs_bad (s : RS) (n : Int) (f : Nat) (h : s.e ≠ 0) : RS.needs s n f = (0, s) := by
  unfold RS.needs
  split
  · rw [show s.fail 4 = s by simp [RS.fail, h]]
  · rfl
theorem and_255 {n : Int} (h0 : 0 ≤ n) (h1 : n < 18446744073709551616) : bits .and .u64 n 255 = n % 256 := by
  obtain ⟨n, rfl⟩ := Int.eq_ofNat_of_zero_le h0
  have h := u64_and_nat n 255 (by omega) (by omega)
  rw [Nat.and_two_pow_sub_one_eq_mod n 8] at h
  exact h
theorem or_in {a b : Int} (ha : 0 ≤ a) (ha' : a < 18446744073709551616) (hb : 0 ≤ b) (hb' : b < 18446744073709551616) : 0 ≤ bits .or .u64 a b ∧ bits .or .u64 a b < 18446744073709551616 := by
  obtain ⟨a, rfl⟩ := Int.eq_ofNat_of_zero_le ha
  obtain ⟨b, rfl⟩ := Int.eq_ofNat_of_zero_le hb
  rw [u64_or_nat a b (by omega) (by omega)]
  have := Nat.or_lt_two_pow (x := a) (y := b) (n := 64) (by omega) (by omega)
  omega

theorem int (g : Nat) (s : RS) (base : Nat) (w : World) (h : IsRd base g s w) : Calls Tryz.prog 127 #[rd g] w (Turns base g (.int .u32 (RS.int s).1) (RS.int s).2 w) := by
  have H := Lib.hid h
  obtain ⟨hk1, hk2, hk3, hk4⟩ := num_ok h.2.1 4 (by omega)
  have hk5 := num_lt h.2.1 4 (by omega)
  have HK3 := Lib.hid hk3
  have HI : Hid (RS.int s = five (RS.num s 4)) := rfl
  have hT := fun W (hr : IsRd base g s W) => take g s base 4 W hr (by omega)
  have HT := Lib.hid hT
  clear h hk1 hk3 hT
  generalize RS.num s 4 = p at *
  obtain ⟨n, f, s1⟩ := p
  simp only at hk2 hk4 hk5
  unfold rd
  go_enter Tryz.func127, Tryz.ntmps127
  go_wp2_with fail
  generalize hW : w.alloc (.cells #[.pointer (some ⟨g, 0, none⟩)] 110) = W
  have HX : Hid (Box w g W) := by subst hW; exact Box.new w g H.out.lt
  have HR := Lib.hid (HX.out.rd H.out hW.symm)
  have hx := HX.out.cell
  clear hW H
  refine (HT.out W HR.out).mono ?_
  rintro e w1 ⟨rfl, hr1, hkk1⟩
  have HX1 := Lib.hid (HX.out.next hkk1)
  have HR1 := Lib.hid hr1
  have hx1 := HX1.out.cell
  clear hr1 hkk1 HT HX HR hx
  by_cases hf : f < 4
  · have hn : n < 536870912 := by
      have h3 : n < 2 ^ (8 + 7 * f) := HK3.out
      refine Int.lt_of_lt_of_le h3 ?_
      have := Nat.pow_le_pow_right (n := 2) (by decide) (show 8 + 7 * f ≤ 29 by omega)
      have hc : (2 : Int) ^ (8 + 7 * f) = ((2 ^ (8 + 7 * f) : Nat) : Int) := by simp
      omega
    have HE : Hid (RS.int s = RS.needs s1 n f) := HI.out.trans (by simp [five, hf])
    obtain ⟨hv0, hv1⟩ := needs_in s1 f hk2
    clear HI
    go_wp2_with fail
    refine (needs g _ base _ _ _ HR1.out hk2 hk5).mono ?_
    rintro e w2 ⟨rfl, hr2, hkk2⟩
    have HX2 := Lib.hid (HX1.out.next hkk2)
    have HR2 := Lib.hid hr2
    clear hr2 hkk2
    go_wp2
    go_ret
    rw [HE.out]
    exact ⟨rfl, HR2.out, HX2.out.2.1⟩
  · obtain rfl : f = 4 := by omega
    have hn : n < 68719476736 := HK3.out
    have ha := and_255 hk2 hk5
    by_cases hl : 15 < n % 256
    · have HE : Hid (RS.int s = (0, s1.fail 4)) := HI.out.trans (by simp [five, hl])
      clear HI
      obtain ⟨hb0, hb1⟩ := or_in (a := n / 256 * 16) (b := n % 256) (by omega) (by omega) (by omega) (by omega)
      have HB := Lib.hid (needs_bad (s1.fail 4) (bits .or .u64 (n / 256 * 16) (n % 256)) 4 (fail_e s1))
      go_wp2_with fail
      refine (Wr.fail g _ base 4 _ HR1.out).mono ?_
      rintro e w2 ⟨rfl, hr2, hkk2⟩
      have HX2 := Lib.hid (HX1.out.next hkk2)
      have HR2 := Lib.hid hr2
      have hx2 := HX2.out.cell
      clear hr2 hkk2
      go_wp2_with fail
      refine (needs g _ base _ 4 _ HR2.out hb0 hb1).mono ?_
      rintro e w3 ⟨rfl, hr3, hkk3⟩
      rw [HB.out] at hr3 ⊢
      have HX3 := Lib.hid (HX2.out.next hkk3)
      have HR3 := Lib.hid hr3
      clear hr3 hkk3
      go_wp2
      go_ret
      rw [HE.out]
      exact ⟨rfl, HR3.out, HX3.out.2.1⟩
    · have HE : Hid (RS.int s = RS.needs s1 (n / 256 * 16 + n % 256) 4) := HI.out.trans (by simp [five, hl])
      clear HI
      have HO := Lib.hid (or_low (a := n / 256) (b := n % 256) (k := 4) (by omega) (by omega) (by omega) (by omega))
      obtain ⟨hv0, hv1⟩ := needs_in s1 (n := n / 256 * 16 + n % 256) 4 (by omega)
      go_wp2_with fail
      rw [show bits .or .u64 (n / 256 * 16) (n % 256) = n / 256 * 16 + n % 256 from HO.out]
      refine (needs g _ base _ 4 _ HR1.out (by omega) (by omega)).mono ?_
      rintro e w3 ⟨rfl, hr3, hkk3⟩
      have HX3 := Lib.hid (HX1.out.next hkk3)
      have HR3 := Lib.hid hr3
      clear hr3 hkk3
      go_wp2
      go_ret
      rw [HE.out]
      exact ⟨rfl, HR3.out, HX3.out.2.1⟩

theorem byte_in {s : RS} (h : s.ok) : s.byte.2.ok := (RS.byte_ok h).1
theorem fail_ok {s : RS} (h : s.ok) (e : Int) : (s.fail e).ok := by
  unfold RS.fail
  split
  · exact h
  · exact h
theorem needs_ok {s : RS} (h : s.ok) (n : Int) (f : Nat) : (RS.needs s n f).2.ok := by
  unfold RS.needs
  split
  · exact fail_ok h 4
  · exact h
/-- A number of 32 bits with its sign. -/
def sign32 (n : Int) : Int := if n < 2147483648 then n else n - 4294967296
theorem int_in {s : RS} (h : s.ok) : 0 ≤ (RS.int s).1 ∧ (RS.int s).1 < 4294967296 := by
  obtain ⟨k1, k2, k3, k4⟩ := num_ok h 4 (by omega)
  unfold RS.int five
  by_cases hf : (RS.num s 4).2.1 < 4
  · rw [if_pos hf]
    have hn : (RS.num s 4).1 < 536870912 := by
      refine Int.lt_of_lt_of_le k3 ?_
      have := Nat.pow_le_pow_right (n := 2) (by decide) (show 8 + 7 * (RS.num s 4).2.1 ≤ 29 by omega)
      have hc : (2 : Int) ^ (8 + 7 * (RS.num s 4).2.1) = ((2 ^ (8 + 7 * (RS.num s 4).2.1) : Nat) : Int) := by simp
      omega
    have := needs_in (RS.num s 4).2.2 (RS.num s 4).2.1 k2
    omega
  · rw [if_neg hf]
    split
    · simp
    · rename_i hl
      have h4 : (RS.num s 4).2.1 = 4 := by omega
      rw [h4] at k3
      have := needs_in (RS.num s 4).2.2 (n := (RS.num s 4).1 / 256 * 16 + (RS.num s 4).1 % 256) 4 (by omega)
      omega
theorem signed (g : Nat) (s : RS) (base : Nat) (w : World) (h : IsRd base g s w) : Calls Tryz.prog 117 #[rd g] w (Turns base g (.int .i64 (sign32 (RS.int s).1)) (RS.int s).2 w) := by
  have H := Lib.hid h
  obtain ⟨hv0, hv1⟩ := int_in h.2.1
  clear h
  have HI := Lib.hid (fun W hr => int g s base W hr)
  have HS : Hid (sign32 (RS.int s).1 = wrap64 (wrap32 (RS.int s).1)) := by
    show sign32 (RS.int s).1 = wrap64 (wrap32 (RS.int s).1)
    unfold wrap64 wrap32 sign32
    split
    · omega
    · omega
  unfold rd at HI ⊢
  go_enter Tryz.func117, Tryz.ntmps117
  go_wp2_with fail
  generalize hW : w.alloc (.cells #[.pointer (some ⟨g, 0, none⟩)] 110) = W
  have HX : Hid (Box w g W) := by subst hW; exact Box.new w g H.out.lt
  have HR := Lib.hid (HX.out.rd H.out hW.symm)
  clear hW H
  refine (HI.out W HR.out).mono ?_
  rintro e w1 ⟨rfl, hr1, hkk1⟩
  have HX1 := Lib.hid (HX.out.next hkk1)
  have HR1 := Lib.hid hr1
  clear hr1 hkk1 HI HX HR
  go_wp2
  go_ret
  exact ⟨by rw [HS.out]; rfl, HR1.out, HX1.out.2.1⟩
/-- Count: a number, at most a certain one. -/
def RS.count (s : RS) (most : Int) : Int × RS := if most < (RS.int s).1 then (0, (RS.int s).2.fail 7) else RS.int s
end Go.Proofs.YtgaofnmgdefdcaaGreatDoor.Ir
