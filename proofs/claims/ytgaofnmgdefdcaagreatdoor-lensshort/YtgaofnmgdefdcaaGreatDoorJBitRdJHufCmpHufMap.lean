/- What bits' Reader does, call by call: the bits that it takes, whether it has ended; only its own block turns, and new memory is made; a nil one has ended. -/
/- What a Lens keeps: the row's Reader, blocks' Readers, codes, an error; each lies in blocks of its own, told by labels. Names no function of the program. -/
/- cmp.Compare of whole numbers. -/
/- Maps as lists of their entries (key, value), the order left open: made, written, looked up, ranged over. No program is named here. -/
import Derived.Test.YtgaofnmgdefdcaaGreatDoorJBitFnBitRef
import Derived.Deep.RegionHeld3
import Derived.Test.YtgaofnmgdefdcaaGreatDoorJBitWQQlSt
import Derived.Test.YtgaofnmgdefdcaaGreatDoorItfRd
import Derived.Test.YtgaofnmgdefdcaaGreatDoorJJHufRowHufEvBitPlain
import Derived.Lib.Small
import Derived.Test.YtgaofnmgdefdcaaGreatDoorJGenJGenHufPm
import Derived.Maps.Own
import Derived.Maps.OwnOps
import Derived.Maps.OwnSet
import Derived.Maps.RangeWalk

namespace Go.Proofs.YtgaofnmgdefdcaaGreatDoor.Br
open Go.RowKit Go.Proofs.YtgaofnmgdefdcaaGreatDoor.Gen Go.Proofs.YtgaofnmgdefdcaaGreatDoor.Cl Go.Proofs.YtgaofnmgdefdcaaGreatDoor.Bp Go.Proofs.YtgaofnmgdefdcaaGreatDoor.Bf

theorem size_u8 (w : World) : (sizeOf 5).run Tryz.prog w = .ok 1 w := by
  obtain ⟨i0, hi0, hz0, hz1, hz2⟩ := info_parts u8_info
  simp [sizeOf, typeInfo, hi0, hz1]
/-- A Reader as plain data: its bytes, how many bits were taken, has it ended? -/
structure BS where
  xs : List Int
  k : Nat
  ended : Bool
/-- All its bits; how many are left. -/
def BS.bits (s : BS) : List Nat := ofB (s.xs.map Int.toNat)
def BS.ok (s : BS) : Prop := s.k ≤ 8 * s.xs.length ∧ s.xs.length ≤ 1000000 ∧ ∀ x ∈ s.xs, 0 ≤ x ∧ x < 256
theorem BS.len (s : BS) : s.bits.length = 8 * s.xs.length := by simp [BS.bits, ofB_len]
/-- In memory: block g is a Reader, and its bytes lie in a row of its own, below it; both from block base on. -/
def IsBr (base g : Nat) (s : BS) (w : World) : Prop :=
  base ≤ g ∧ s.ok ∧ ∃ A c, Blk w g 138 #[.slice A s.xs.length c, .int .i64 s.k, .bool s.ended] ∧ w.ownsRow base 5 1 (.slice A s.xs.length c) s.xs.length (bv s.xs) ∧ ∀ b, (Value.slice A s.xs.length c).ownBlock = some b → b < g
theorem IsBr.low {S : Nat → Prop} {base g : Nat} {s : BS} {w w1 : World} (h : IsBr base g s w) (k : Keeps S w w1) (hn : ∀ b, base ≤ b → b ≤ g → ¬ S b) : IsBr base g s w1 := by
  obtain ⟨hg, ho, A, c, hb, hv, hrb⟩ := h
  exact ⟨hg, ho, A, c, hb.keeps k (hn g hg (Nat.le_refl _)), own_keeps hv k (fun b hb' => hn b ((hv.lt b hb').1) (Nat.le_of_lt (hrb b hb'))), hrb⟩
theorem IsBr.keeps {S : Nat → Prop} {base g : Nat} {s : BS} {w w1 : World} (h : IsBr base g s w) (k : Keeps S w w1) (hn : ∀ b, base ≤ b → ¬ S b) : IsBr base g s w1 := h.low k fun b hb _ => hn b hb
theorem IsBr.lt {base g : Nat} {s : BS} {w : World} (h : IsBr base g s w) : g < w.heap.size := by
  obtain ⟨_, _, A, c, hb, _⟩ := h
  exact hb.lt
theorem IsBr.drewN {base g : Nat} {s : BS} {w : World} (h : IsBr base g s w) (n : Nat) : IsBr base g s (w.drewN n) := h.keeps (S := fun _ => False) ((Keeps.refl _ _).drewN n) fun _ _ => id
theorem IsBr.setEnded {base g : Nat} {s : BS} {w : World} (h : IsBr base g s w) (e : Bool) : IsBr base g { s with ended := e } (w.setCell ⟨g, 2, none⟩ (.bool e)) := by
  obtain ⟨hg, ho, A, c, hb, hv, hrb⟩ := h
  refine ⟨hg, ho, A, c, by simpa using hb.setCell 2 (.bool e), own_keeps (S := (· = g)) hv ((Keeps.refl _ _).setOwn _ _) (fun b hb' e => ?_), hrb⟩
  subst e
  exact own_ne hv hb (by decide) hb'
theorem IsBr.setAt {base g : Nat} {s : BS} {w : World} (h : IsBr base g s w) (k : Nat) (hk : k ≤ 8 * s.xs.length) : IsBr base g { s with k := k } (w.setCell ⟨g, 1, none⟩ (.int .i64 k)) := by
  obtain ⟨hg, ho, A, c, hb, hv, hrb⟩ := h
  refine ⟨hg, ⟨hk, ho.2⟩, A, c, by simpa using hb.setCell 1 (.int .i64 k), own_keeps (S := (· = g)) hv ((Keeps.refl _ _).setOwn _ _) (fun b hb' e => ?_), hrb⟩
  subst e
  exact own_ne hv hb (by decide) hb'
/-- A new Reader. -/
def NewBr (base : Nat) (xs : List Int) (w : World) (r : Ending) (w' : World) : Prop :=
  ∃ g, r = .returned (.pointer (some ⟨g, 0, none⟩)) ∧ IsBr base g ⟨xs, 0, false⟩ w' ∧ Keeps (fun _ => False) w w'
theorem read_n (A : Option Addr) (n c : Nat) (xs : List Int) (w : World) (hx : xs.length = n) (hl : Lies w A xs) (hn : n ≤ 1000000) (hb : ∀ x ∈ xs, 0 ≤ x ∧ x < 256) :
    Calls Tryz.prog 47 #[.slice A n c] w (NewBr w.heap.size xs w) := by
  subst hx
  have H := Lib.hid hb
  clear hb
  go_enter Tryz.func47, Tryz.ntmps47
  go_wp2_with fail
  refine (clone A c xs w hl (Nat.le_trans hn (by decide))).mono ?_
  rintro e w1 ⟨A1, c1, rfl, hv, hk⟩
  go_wp2
  go_ret
  exact ⟨w1.heap.size, rfl, ⟨hk.size, ⟨Nat.zero_le _, hn, H.out⟩, A1, c1, Blk.new _ _ _, hv.alloc _, fun b hb => (hv.lt b hb).2⟩, hk.alloc _⟩
theorem ended_none (w : World) : Calls Tryz.prog 99 #[.pointer none] w fun r w' => r = .returned (.bool true) ∧ w' = w := by
  go_enter Tryz.func99, Tryz.ntmps99
  go_wp2
  go_ret
  exact ⟨rfl, rfl⟩
theorem ended (g : Nat) (s : BS) (base : Nat) (w : World) (h : IsBr base g s w) : Calls Tryz.prog 99 #[.pointer (some ⟨g, 0, none⟩)] w fun r w' => r = .returned (.bool s.ended) ∧ w' = w := by
  obtain ⟨hg, ho, A, c, hb, hv, hrb⟩ := h
  have h2 : w.cell? ⟨g, 2, none⟩ = some (.bool s.ended) := hb.cell 2
  clear hg ho hb hv hrb
  go_enter Tryz.func99, Tryz.ntmps99
  go_wp2
  go_ret
  exact ⟨rfl, rfl⟩
theorem ended_q (g : Nat) (s : BS) (e : Bool) (base : Nat) (w : World) (h : IsBr base g s w) (he : s.ended = e) : Calls Tryz.prog 99 #[.pointer (some ⟨g, 0, none⟩)] w fun r w' => r = .returned (.bool e) ∧ w' = w := by
  subst he
  exact ended g s base w h
/-- Behind a call that turns the Reader in block g alone: it answers v, and is s. -/
def Turns (base g : Nat) (v : Value) (s : BS) (w : World) (r : Ending) (w' : World) : Prop :=
  r = .returned v ∧ IsBr base g s w' ∧ Keeps (· = g) w w'
theorem fail_none (w : World) : Calls Tryz.prog 54 #[.pointer none] w fun r w' => r = .returned (.tuple #[]) ∧ w' = w := by
  go_enter Tryz.func54, Tryz.ntmps54
  go_wp2
  go_end0
  exact ⟨rfl, rfl⟩
theorem fail (g : Nat) (s : BS) (base : Nat) (w : World) (h : IsBr base g s w) : Calls Tryz.prog 54 #[.pointer (some ⟨g, 0, none⟩)] w (Turns base g (.tuple #[]) { s with ended := true } w) := by
  have H := Lib.hid h
  obtain ⟨hg, ho, A, c, hb, hv, hrb⟩ := h
  have h2 : w.cell? ⟨g, 2, none⟩ = some (.bool s.ended) := hb.cell 2
  have h3 : w.frozen? ⟨g, 2, none⟩ = false := hb.frozen 2
  clear hg ho hb hv hrb
  go_enter Tryz.func54, Tryz.ntmps54
  go_wp2
  go_end0
  exact ⟨rfl, H.out.setEnded true, (Keeps.refl _ _).setOwn _ _⟩
theorem left (g : Nat) (s : BS) (base : Nat) (m : Nat) (w : World) (h : IsBr base g s w) (hm : 8 * s.xs.length = s.k + m) : Calls Tryz.prog 77 #[.pointer (some ⟨g, 0, none⟩)] w fun r w' => r = .returned (.int .i64 m) ∧ ∃ n, w' = w.drewN n := by
  obtain ⟨hg, ho, A, c, hb, hv, hrb⟩ := h
  have h0 : w.cell? ⟨g, 0, none⟩ = some (.slice A s.xs.length c) := hb.cell 0
  have h1 : w.cell? ⟨g, 1, none⟩ = some (.int .i64 s.k) := hb.cell 1
  obtain ⟨ho1, ho2, _⟩ := ho
  clear hg hb hv hrb
  have hq : 8 * (s.xs.length : Int) - (s.k : Int) = (m : Int) := by omega
  have HQ := Lib.hid hq
  clear hq hm
  go_enter Tryz.func77, Tryz.ntmps77
  go_wp2
  go_quiet (fail)
  go_wp2
  go_ret
  exact ⟨by rw [← HQ.out]; rfl, _, rfl⟩
theorem look (g : Nat) (s : BS) (base : Nat) (m : Nat) (w : World) (h : IsBr base g s w) (hm : s.k + m ≤ 8 * s.xs.length) (h32 : m ≤ 32) :
    Calls Tryz.prog 78 #[.pointer (some ⟨g, 0, none⟩), .int .i64 m] w fun r w' => r = .returned (.int .u32 ((num (piece s.bits s.k m) : Nat) : Int)) ∧ ∃ n, w' = w.drewN n := by
  obtain ⟨hg, ⟨ho1, ho2, hbt⟩, A, c, hb, hv, hrb⟩ := h
  have h0 : w.cell? ⟨g, 0, none⟩ = some (.slice A s.xs.length c) := hb.cell 0
  have h1 : w.cell? ⟨g, 1, none⟩ = some (.int .i64 s.k) := hb.cell 1
  clear hg hb hrb
  obtain ⟨q, j, hkq, hj8⟩ : ∃ q j, s.k = 8 * q + j ∧ j < 8 := ⟨s.k / 8, s.k % 8, by omega, by omega⟩
  obtain ⟨p, hp⟩ : ∃ p, (s.k + m + 7) / 8 = q + p := ⟨(s.k + m + 7) / 8 - q, by omega⟩
  have hq : (s.k : Int) / 8 = (q : Int) := by omega
  have hbe : ((s.k : Int) + (m : Int) + 8 - 1) / 8 = (q : Int) + (p : Int) := by omega
  have hp5 : p ≤ 5 := by omega
  have hqp : q + p ≤ s.xs.length := by omega
  have hfit : j + m ≤ 8 * p ∧ 8 * p < j + m + 8 := by omega
  have hc : s.xs.length ≤ c := by obtain ⟨_, _, hq, hle⟩ := own_form hv; injection hq with _ _ hq; omega
  have HLI := Lib.hid ((Lies.of_own hv).cutAt c q p hc hqp)
  have hsl := fun w => run_cut (P := Tryz.prog) 29 5 A s.xs.length c q p .i64 .i64 Tryz.underlying29 size_u8 (by omega) w
  obtain ⟨mid, hmid⟩ : ∃ mid, mid = (s.xs.drop q).take p := ⟨_, rfl⟩
  rw [← hmid] at HLI
  have HML : Hid (mid.length = p) := by
    show mid.length = p
    rw [hmid]
    simp
    omega
  have HMB : Hid (∀ x ∈ mid, 0 ≤ x ∧ x < 256) := fun x hx => hbt x (by rw [hmid] at hx; exact List.mem_of_mem_drop (List.mem_of_mem_take hx))
  have HPC : Hid (piece s.bits s.k m = piece (ofB (mid.map Int.toNat)) j m) := by
    show piece s.bits s.k m = piece (ofB (mid.map Int.toNat)) j m
    rw [hkq, BS.bits, piece_mid hfit.1, hmid, List.map_take, List.map_drop]
  have HFIT := Lib.hid hfit
  have HKQ := Lib.hid hkq
  have HHM := Lib.hid hm
  clear hmid hfit hkq hv hbt hp
  go_enter Tryz.func78, Tryz.ntmps78
  go_wp2
  rw [hbe]
  clear hbe
  go_quiet (fail)
  go_wp2
  generalize cutAt A c q = A2 at *
  clear hsl h0 h1 hq
  go_loop [7, 32] (fun n i => ∃ d : Nat, d ≤ p ∧ n = .int .u64 ((num (ofB ((mid.take d).map Int.toNat)) : Nat) : Int) ∧ i = .int .i64 d) (fun _ i => p - (intOf i).toNat)
  case atStart => exact ⟨0, Nat.zero_le _, by simp [ofB, num], rfl⟩
  case round =>
    obtain ⟨d, hd, rfl, rfl⟩ := hrel
    by_cases hlt : d < p
    · obtain ⟨b, o, x, rfl, hcell, hx, hN⟩ : ∃ b o x, A2 = some ⟨b, o, none⟩ ∧ w.cell? ⟨b, o + d, none⟩ = some (.int .u8 ((x : Nat) : Int)) ∧ x < 256 ∧ Hid (num (ofB ((mid.take (d + 1)).map Int.toNat)) = num (ofB ((mid.take d).map Int.toNat)) * 256 + x) := by
        have hml := HML.out
        rcases HLI.out with h | ⟨b, o, h, _, hcl⟩
        · rw [h] at hml; simp at hml; omega
        · have hy := HMB.out (mid.getD d 0) (by rw [List.getD_eq_getElem?_getD, List.getElem?_eq_getElem (by omega)]; simp)
          refine ⟨b, o, (mid.getD d 0).toNat, h, ?_, by omega, ?_⟩
          · rw [show (((mid.getD d 0).toNat : Nat) : Int) = mid.getD d 0 by omega]
            exact hcl d (by omega)
          · show num (ofB ((mid.take (d + 1)).map Int.toNat)) = num (ofB ((mid.take d).map Int.toNat)) * 256 + (mid.getD d 0).toNat
            rw [List.take_add_one, List.getElem?_eq_getElem (by omega), List.map_append]
            simp only [Option.toList, List.map_cons, List.map_nil]
            rw [List.getD_eq_getElem?_getD, List.getElem?_eq_getElem (by omega)] at hy ⊢
            exact num_byte (by simp at hy ⊢; omega)
      have hlim : num (ofB ((mid.take d).map Int.toNat)) < 4294967296 := by
        have h1 := num_ofB_lt ((mid.take d).map Int.toNat)
        have h2 : 2 ^ (8 * ((mid.take d).map Int.toNat).length) ≤ 2 ^ 32 := Nat.pow_le_pow_right (by decide) (by simp; omega)
        omega
      obtain ⟨N, hNN⟩ : ∃ N, num (ofB ((mid.take d).map Int.toNat)) = N := ⟨_, rfl⟩
      rw [hNN] at hN hlim ⊢
      have hor := or_byte hlim hx
      clear hNN
      go_wp2
      go_round
      case rel => exact ⟨d + 1, by omega, by rw [hN.out]; rfl, by go_num⟩
      case measure => simp [intOf]; omega
    · obtain rfl : d = p := by omega
      have hml := HML.out
      rw [List.take_of_length_le (by omega)]
      have hlim : num (ofB (mid.map Int.toNat)) < 1099511627776 := by
        have h1 := num_ofB_lt (mid.map Int.toNat)
        have h2 : 2 ^ (8 * (mid.map Int.toNat).length) ≤ 2 ^ 40 := Nat.pow_le_pow_right (by decide) (by simp; omega)
        omega
      obtain ⟨r, hr⟩ : ∃ r, 8 * d = j + m + r := ⟨8 * d - (j + m), by have := HFIT.out; omega⟩
      have hr1 : 8 * ((q : Int) + (d : Int)) - ((s.k : Int) + (m : Int)) = (r : Int) := by have := HKQ.out; omega
      have hr8 : r < 8 := by have := HFIT.out; omega
      have HNP := Lib.hid (num_piece (l := ofB (mid.map Int.toNat)) (j := j) (s := m) (r := r) (ofB_bit _) (by rw [ofB_len]; simp; omega))
      rw [← HPC.out] at HNP
      obtain ⟨N, hNN⟩ : ∃ N, num (ofB (mid.map Int.toNat)) = N := ⟨_, rfl⟩
      rw [hNN] at HNP hlim ⊢
      obtain ⟨Z, hZ⟩ : ∃ Z, N / 2 ^ r = Z := ⟨_, rfl⟩
      rw [hZ] at HNP
      have hZ1 : (N : Int) / 2 ^ r = (Z : Int) := by rw [← hZ]; simp
      have hZ2 : Z < 1099511627776 := by have := Nat.div_le_self N (2 ^ r); omega
      clear hr hNN hZ hml
      go_wp2_with fail
      refine (lowest_q Z m _ _ (by omega) h32 HNP.out).mono ?_
      rintro e w2 ⟨rfl, rfl⟩
      go_wp2
      go_ret
      exact ⟨rfl, _, rfl⟩
theorem look_n (g : Nat) (s : BS) (base : Nat) (m : Nat) (v : Nat) (w : World) (h : IsBr base g s w) (hm : s.k + m ≤ 8 * s.xs.length) (h32 : m ≤ 32) (hv : num (piece s.bits s.k m) = v) :
    Calls Tryz.prog 78 #[.pointer (some ⟨g, 0, none⟩), .int .i64 m] w fun r w' => r = .returned (.int .u32 (v : Int)) ∧ ∃ n, w' = w.drewN n := by
  subst hv
  exact look g s base m w h hm h32
theorem take_none (z : Int) (w : World) : Calls Tryz.prog 98 #[.pointer none, .int .i64 z] w fun r w' => r = .returned (.int .u32 0) ∧ w' = w := by
  go_enter Tryz.func98, Tryz.ntmps98
  go_wp2_with fail
  refine (near z _).mono ?_
  rintro e w1 ⟨rfl, rfl⟩
  go_wp2_with fail
  refine (ended_none _).mono ?_
  rintro e w1 ⟨rfl, rfl⟩
  go_wp2_with fail
  refine (fail_none _).mono ?_
  rintro e w1 ⟨rfl, rfl⟩
  go_wp2
  go_ret
  exact ⟨rfl, rfl⟩
/-- What is taken, and the Reader behind it. -/
def BS.take (s : BS) (m : Nat) : Nat × BS := if s.ended = true ∨ 8 * s.xs.length < s.k + m then (0, { s with ended := true }) else (num (piece s.bits s.k m), { s with k := s.k + m })
theorem take (g : Nat) (s : BS) (base : Nat) (z : Int) (w : World) (h : IsBr base g s w) :
    Calls Tryz.prog 98 #[.pointer (some ⟨g, 0, none⟩), .int .i64 z] w (Turns base g (.int .u32 (((s.take (sz z)).1 : Nat) : Int)) (s.take (sz z)).2 w) := by
  have H := Lib.hid h
  have hz := sz_le z
  obtain ⟨hk, hlen, _⟩ := h.2.1
  clear h
  by_cases he : s.ended = true
  · have HT := Lib.hid (show s.take (sz z) = (0, { s with ended := true }) by simp [BS.take, he])
    go_enter Tryz.func98, Tryz.ntmps98
    go_wp2_with fail
    refine (near z _).mono ?_
    rintro e w1 ⟨rfl, rfl⟩
    go_wp2_with fail
    refine (ended g s base _ H.out).mono ?_
    rintro e w1 ⟨rfl, rfl⟩
    rw [he]
    go_wp2_with fail
    refine (fail g s base _ H.out).mono ?_
    rintro e w2 ⟨rfl, hr, hk⟩
    go_wp2
    go_ret
    rw [HT.out]
    exact ⟨rfl, hr, hk⟩
  · have he' : s.ended = false := by simpa using he
    obtain ⟨m, hm⟩ : ∃ m, 8 * s.xs.length = s.k + m := ⟨8 * s.xs.length - s.k, by omega⟩
    by_cases hlt : m < sz z
    · have HT := Lib.hid (show s.take (sz z) = (0, { s with ended := true }) by unfold BS.take; rw [if_pos (Or.inr (by omega))])
      go_enter Tryz.func98, Tryz.ntmps98
      go_wp2_with fail
      refine (near z _).mono ?_
      rintro e w1 ⟨rfl, rfl⟩
      generalize sz z = t at *
      have hd : decide ((m : Int) < (t : Int)) = true := by simp; omega
      have HM := Lib.hid hm
      clear hm he
      go_wp2_with fail
      refine (ended g s base _ H.out).mono ?_
      rintro e w1 ⟨rfl, rfl⟩
      rw [he']
      go_wp2_with fail
      refine (left g s base m _ H.out HM.out).mono ?_
      rintro e w2 ⟨rfl, nd, rfl⟩
      go_wp2_with fail
      refine (fail g s base _ (H.out.drewN _)).mono ?_
      rintro e w3 ⟨rfl, hr, hk⟩
      go_wp2
      go_ret
      rw [HT.out]
      exact ⟨rfl, hr, ((Keeps.refl _ _).drewN _).trans hk⟩
    · have HT := Lib.hid (show s.take (sz z) = (num (piece s.bits s.k (sz z)), { s with k := s.k + sz z }) by unfold BS.take; rw [if_neg (by simp [he']; omega)])
      go_enter Tryz.func98, Tryz.ntmps98
      go_wp2_with fail
      refine (near z _).mono ?_
      rintro e w1 ⟨rfl, rfl⟩
      generalize sz z = t at *
      have hd : decide ((m : Int) < (t : Int)) = false := by simp; omega
      have HM := Lib.hid hm
      have HTM : Hid (s.k + t ≤ 8 * s.xs.length) := by show s.k + t ≤ 8 * s.xs.length; omega
      obtain ⟨hg, ho, A, c, hb, hv, hrb⟩ := H.out
      have h1 : w1.cell? ⟨g, 1, none⟩ = some (.int .i64 s.k) := hb.cell 1
      have h3 : w1.frozen? ⟨g, 1, none⟩ = false := hb.frozen 1
      clear hm he hg ho hb hv hrb
      go_wp2_with fail
      refine (ended g s base _ H.out).mono ?_
      rintro e w1 ⟨rfl, rfl⟩
      rw [he']
      go_wp2_with fail
      refine (left g s base m _ H.out HM.out).mono ?_
      rintro e w2 ⟨rfl, nd, rfl⟩
      go_wp2_with fail
      refine (look_n g s base t _ _ (H.out.drewN _) HTM.out hz rfl).mono ?_
      rintro e w3 ⟨rfl, nd2, rfl⟩
      generalize num (piece s.bits s.k t) = V at *
      go_wp2
      go_ret
      rw [HT.out]
      exact ⟨rfl, by simpa using (H.out.drewN (nd + nd2)).setAt (s.k + t) HTM.out, ((Keeps.refl _ _).drewN _).setOwn _ _⟩
theorem take_q (g : Nat) (s s1 : BS) (base : Nat) (z V : Int) (t : Nat) (w : World) (h : IsBr base g s w) (ht : sz z = t) (hV : ((s.take t).1 : Int) = V) (hs : (s.take t).2 = s1) :
    Calls Tryz.prog 98 #[.pointer (some ⟨g, 0, none⟩), .int .i64 z] w (Turns base g (.int .u32 V) s1 w) := by
  subst ht
  subst hV
  subst hs
  exact take g s base z w h
theorem take_far {s : BS} {t : Nat} (h : s.ended = true ∨ 8 * s.xs.length < s.k + t) : s.take t = (0, { s with ended := true }) := by simp only [BS.take, if_pos h]
theorem take_near {s : BS} {t : Nat} (he : s.ended = false) (h : s.k + t ≤ 8 * s.xs.length) : s.take t = (num (piece s.bits s.k t), { s with k := s.k + t }) := by
  unfold BS.take
  rw [if_neg (by simp [he]; omega)]
theorem end_none (w : World) : Calls Tryz.prog 51 #[.pointer none] w fun r w' => r = .returned (.int .i64 1) ∧ w' = w := by
  go_enter Tryz.func51, Tryz.ntmps51
  go_wp2
  go_ret
  exact ⟨rfl, rfl⟩
/-- How it stands at the end. -/
def BS.fin (s : BS) : Int := if s.ended = true then 3 else if 8 ≤ 8 * s.xs.length - s.k ∨ num (piece s.bits s.k (8 * s.xs.length - s.k)) ≠ 0 then 10 else 0
theorem end_ended (g : Nat) (s : BS) (base : Nat) (w : World) (h : IsBr base g s w) (he : s.ended = true) : Calls Tryz.prog 51 #[.pointer (some ⟨g, 0, none⟩)] w fun r w' => r = .returned (.int .i64 3) ∧ w' = w := by
  obtain ⟨hg, ho, A, c, hb, hv, hrb⟩ := h
  have h2 : w.cell? ⟨g, 2, none⟩ = some (.bool s.ended) := hb.cell 2
  rw [he] at h2
  clear hg ho hb hv hrb
  go_enter Tryz.func51, Tryz.ntmps51
  go_wp2
  go_ret
  exact ⟨rfl, rfl⟩
theorem end_ (g : Nat) (s : BS) (base : Nat) (w : World) (h : IsBr base g s w) : Calls Tryz.prog 51 #[.pointer (some ⟨g, 0, none⟩)] w fun r w' => r = .returned (.int .i64 s.fin) ∧ ∃ n, w' = w.drewN n := by
  by_cases he : s.ended = true
  · exact (end_ended g s base w h he).mono fun r w' ⟨h1, h2⟩ => ⟨by rw [h1]; simp [BS.fin, he], 0, by rw [h2]; rfl⟩
  · have he' : s.ended = false := by simpa using he
    have H := Lib.hid h
    obtain ⟨hg, ⟨hk, hlen, _⟩, A, c, hb, hv, hrb⟩ := h
    have h2 : w.cell? ⟨g, 2, none⟩ = some (.bool s.ended) := hb.cell 2
    rw [he'] at h2
    obtain ⟨m, hm⟩ : ∃ m, 8 * s.xs.length - s.k = m := ⟨_, rfl⟩
    have HM : Hid (8 * s.xs.length = s.k + m) := by show 8 * s.xs.length = s.k + m; omega
    have hf : s.fin = if 8 ≤ m ∨ num (piece s.bits s.k m) ≠ 0 then 10 else 0 := by simp [BS.fin, he', hm]
    clear hg hb hv hrb hm he
    by_cases h8 : 8 ≤ m
    · rw [if_pos (Or.inl h8)] at hf
      have HF := Lib.hid hf
      have hd : decide ((8 : Int) ≤ (m : Int)) = true := by simp; omega
      clear hf
      go_enter Tryz.func51, Tryz.ntmps51
      go_wp2_with fail
      refine (left g s base m _ H.out HM.out).mono ?_
      rintro e w2 ⟨rfl, nd, rfl⟩
      go_wp2
      go_ret
      exact ⟨by rw [HF.out]; rfl, _, rfl⟩
    · have hd : decide ((8 : Int) ≤ (m : Int)) = false := by simp; omega
      obtain ⟨V, hV⟩ : ∃ V, num (piece s.bits s.k m) = V := ⟨_, rfl⟩
      have HV := Lib.hid hV
      rw [hV] at hf
      clear hV
      by_cases h0 : V = 0
      · subst h0
        rw [if_neg (by simp; omega)] at hf
        have HF := Lib.hid hf
        clear hf
        go_enter Tryz.func51, Tryz.ntmps51
        go_wp2_with fail
        refine (left g s base m _ H.out HM.out).mono ?_
        rintro e w2 ⟨rfl, nd, rfl⟩
        go_wp2_with fail
        refine (left g s base m _ (H.out.drewN _) HM.out).mono ?_
        rintro e w2 ⟨rfl, nd2, rfl⟩
        go_wp2_with fail
        refine (look_n g s base m 0 _ (H.out.drewN _) (by have := HM.out; omega) (by omega) HV.out).mono ?_
        rintro e w2 ⟨rfl, nd3, rfl⟩
        go_wp2
        go_ret
        exact ⟨by rw [HF.out]; rfl, _, rfl⟩
      · rw [if_pos (Or.inr h0)] at hf
        have HF := Lib.hid hf
        have hd2 : ((V : Int) != 0) = true := by simp; omega
        clear hf
        go_enter Tryz.func51, Tryz.ntmps51
        go_wp2_with fail
        refine (left g s base m _ H.out HM.out).mono ?_
        rintro e w2 ⟨rfl, nd, rfl⟩
        go_wp2_with fail
        refine (left g s base m _ (H.out.drewN _) HM.out).mono ?_
        rintro e w2 ⟨rfl, nd2, rfl⟩
        go_wp2_with fail
        refine (look_n g s base m V _ (H.out.drewN _) (by have := HM.out; omega) (by omega) HV.out).mono ?_
        rintro e w2 ⟨rfl, nd3, rfl⟩
        go_wp2
        go_ret
        exact ⟨by rw [HF.out]; rfl, _, rfl⟩
end Go.Proofs.YtgaofnmgdefdcaaGreatDoor.Br

namespace Go.Proofs.YtgaofnmgdefdcaaGreatDoor.Le
open Go.RowKit Go.Proofs.YtgaofnmgdefdcaaGreatDoor.Gen Go.Proofs.YtgaofnmgdefdcaaGreatDoor.Mp Go.Proofs.YtgaofnmgdefdcaaGreatDoor.Cm Go.Proofs.YtgaofnmgdefdcaaGreatDoor.Hr Go.Proofs.YtgaofnmgdefdcaaGreatDoor.Hn Go.Proofs.YtgaofnmgdefdcaaGreatDoor.Hk Go.Proofs.YtgaofnmgdefdcaaGreatDoor.Ln Go.Proofs.YtgaofnmgdefdcaaGreatDoor.Ds Go.Proofs.YtgaofnmgdefdcaaGreatDoor.Wr Go.Proofs.YtgaofnmgdefdcaaGreatDoor.Ir Go.Proofs.YtgaofnmgdefdcaaGreatDoor.Br Go.Proofs.YtgaofnmgdefdcaaGreatDoor.Qh Go.Proofs.YtgaofnmgdefdcaaGreatDoor.Qs

/-- Blocks' Readers, by their numbers. -/
abbrev Rs := Nat → Option RS
def ru (G : Rs) (i : Nat) (r : RS) : Rs := fun j => if j = i then some r else G j
/-- Labels: 0 the Lens, 1 the row's Reader, 2 the map, 3 codes, 4 + i the Reader of block i. -/
structure Ln (o : Nat → Option Nat) (B g : Nat) (s : BS) (G : Rs) (N : Nat) (e : Int) (br bb mb : Nat) (mc : Value) (P : Nat → Nat × Nat) (w : World) : Prop where
  lt : ∀ k l, o k = some l → B ≤ k ∧ k < w.heap.size
  blk : Blk w g 107 #[.pointer (some ⟨br, 0, none⟩), .map (some mb), mc, .int .i64 e]
  og : o g = some 0
  row : IsBr bb br s w
  orow : ∀ k, bb ≤ k → k ≤ br → o k = some 1
  map : IsF Tryz.prog 3 60001 ikl w mb (fun i => (G i).map fun _ => rd (P i).2)
  omap : o mb = some 2
  rds : ∀ i r, G i = some r → i < 60001 ∧ IsRd (P i).1 (P i).2 r w ∧ ∀ k, (P i).1 ≤ k → k ≤ (P i).2 → o k = some (4 + i)
  kept : Kept (fun k => o k = some 3) N mc w
def Lens (o : Nat → Option Nat) (B g : Nat) (s : BS) (G : Rs) (N : Nat) (e : Int) (w : World) : Prop := ∃ br bb mb mc P, Ln o B g s G N e br bb mb mc P w
/-- The blocks that have a label. -/
abbrev Ft (o : Nat → Option Nat) (k : Nat) : Prop := o k ≠ none
section
variable {o : Nat → Option Nat} {B g N N' br bb mb i : Nat} {s s' : BS} {G : Rs} {e : Int} {mc mc' : Value} {P : Nat → Nat × Nat} {w w1 : World} {S Fc' : Nat → Prop} {r r' : RS}
theorem br_le (h : IsBr bb br s w) : bb ≤ br := h.1
theorem rd_le {b g' : Nat} (h : IsRd b g' r w) : b ≤ g' := h.1
theorem Ln.keeps (h : Ln o B g s G N e br bb mb mc P w) (k : Keeps S w w1) (hn : ∀ k, Ft o k → ¬ S k) : Ln o B g s G N e br bb mb mc P w1 where
  lt := fun x l hx => ⟨(h.lt x l hx).1, Nat.lt_of_lt_of_le (h.lt x l hx).2 k.size⟩
  blk := h.blk.keeps k (hn g (by rw [Ft, h.og]; simp))
  og := h.og
  row := h.row.low k fun b h1 h2 => hn b (by rw [Ft, h.orow b h1 h2]; simp)
  orow := h.orow
  map := h.map.keeps k (hn mb (by rw [Ft, h.omap]; simp))
  omap := h.omap
  rds := fun i r hr => ⟨(h.rds i r hr).1, (h.rds i r hr).2.1.low k fun b h1 h2 => hn b (by rw [Ft, (h.rds i r hr).2.2 b h1 h2]; simp), (h.rds i r hr).2.2⟩
  kept := h.kept.keeps k fun b hb => hn b (by rw [Ft, hb]; simp)
theorem Lens.keeps (h : Lens o B g s G N e w) (k : Keeps S w w1) (hn : ∀ k, Ft o k → ¬ S k) : Lens o B g s G N e w1 := by
  obtain ⟨br, bb, mb, mc, P, h⟩ := h
  exact ⟨br, bb, mb, mc, P, h.keeps k hn⟩
theorem Lens.more (h : Lens o B g s G N e w) (k : Keeps (fun _ => False) w w1) : Lens o B g s G N e w1 := h.keeps k fun _ _ => id
theorem Lens.lt (h : Lens o B g s G N e w) : ∀ k, Ft o k → B ≤ k ∧ k < w.heap.size := by
  obtain ⟨br, bb, mb, mc, P, h⟩ := h
  intro k hk
  obtain ⟨l, hl⟩ := Option.ne_none_iff_exists'.1 hk
  exact h.lt k l hl
theorem Ln.le (h : Ln o B g s G N e br bb mb mc P w) (hN : N ≤ N') : Ln o B g s G N' e br bb mb mc P w := ⟨h.lt, h.blk, h.og, h.row, h.orow, h.map, h.omap, h.rds, h.kept.le hN⟩
theorem Kept.mono {F F' : Nat → Prop} (h : Kept F N mc w) (hF : ∀ k, F k → F' k) (hl : ∀ k, F' k → k < w.heap.size) : Kept F' N mc w := by
  refine ⟨hl, ?_⟩
  rcases h.2 with h2 | ⟨b, m, C, h2, h3⟩
  · exact .inl h2
  · exact .inr ⟨b, m, C, h2, hF b h3.inF, h3.out, fun k hk => hF k (h3.sub k hk), h3.len, h3.map, h3.all⟩
/-- The row's Reader has turned. -/
theorem Ln.row' (h : Ln o B g s G N e br bb mb mc P w) (hr : IsBr bb br s' w1) (k : Keeps (· = br) w w1) : Ln o B g s' G N e br bb mb mc P w1 := by
  have ob := h.orow br (br_le h.row) (Nat.le_refl _)
  have hne : ∀ x l, o x = some l → l ≠ 1 → x ≠ br := fun x l hx hl e => by
    rw [e, ob] at hx
    injection hx with hx
    exact hl hx.symm
  exact ⟨fun x l hx => ⟨(h.lt x l hx).1, Nat.lt_of_lt_of_le (h.lt x l hx).2 k.size⟩, h.blk.keeps k (hne g 0 h.og (by omega)), h.og, hr, h.orow, h.map.keeps k (hne mb 2 h.omap (by omega)), h.omap,
    fun i r hr => ⟨(h.rds i r hr).1, (h.rds i r hr).2.1.low k fun b h1 h2 => hne b (4 + i) ((h.rds i r hr).2.2 b h1 h2) (by omega), (h.rds i r hr).2.2⟩, h.kept.keeps k fun b hb => hne b 3 hb (by omega)⟩
/-- A block's Reader has turned. -/
theorem Ln.rd' (h : Ln o B g s G N e br bb mb mc P w) (hG : G i = some r) (hr : IsRd (P i).1 (P i).2 r' w1) (k : Keeps (· = (P i).2) w w1) : Ln o B g s (ru G i r') N e br bb mb mc P w1 := by
  obtain ⟨hi, hrd, hall⟩ := h.rds i r hG
  have ob := hall (P i).2 (rd_le hrd) (Nat.le_refl _)
  have hne : ∀ x l, o x = some l → l ≠ 4 + i → x ≠ (P i).2 := fun x l hx hl e => by
    rw [e, ob] at hx
    injection hx with hx
    exact hl hx.symm
  refine ⟨fun x l hx => ⟨(h.lt x l hx).1, Nat.lt_of_lt_of_le (h.lt x l hx).2 k.size⟩, h.blk.keeps k (hne g 0 h.og (by omega)), h.og, h.row.low k fun b h1 h2 => hne b 1 (h.orow b h1 h2) (by omega), h.orow,
    (h.map.keeps k (hne mb 2 h.omap (by omega))).congr fun j _ => ?_, h.omap, fun j r2 h2 => ?_, h.kept.keeps k fun b hb => hne b 3 hb (by omega)⟩
  · unfold ru
    by_cases hj : j = i
    · subst hj
      rw [if_pos rfl, hG]
      rfl
    · rw [if_neg hj]
  · unfold ru at h2
    by_cases hj : j = i
    · subst hj
      rw [if_pos rfl] at h2
      injection h2 with h2
      subst h2
      exact ⟨hi, hr, hall⟩
    · rw [if_neg hj] at h2
      obtain ⟨a1, a2, a3⟩ := h.rds j r2 h2
      exact ⟨a1, a2.low k fun b h1 h2 => hne b (4 + j) (a3 b h1 h2) (by omega), a3⟩
/-- The Lens's own cells have turned: its codes' map, its error. -/
theorem Ln.own' {e' : Int} (h : Ln o B g s G N e br bb mb mc P w) (k : Keeps (· = g) w w1) (hb : Blk w1 g 107 #[.pointer (some ⟨br, 0, none⟩), .map (some mb), mc, .int .i64 e']) : Ln o B g s G N e' br bb mb mc P w1 := by
  have hne : ∀ x l, o x = some l → l ≠ 0 → x ≠ g := fun x l hx hl e => by
    rw [e, h.og] at hx
    injection hx with hx
    exact hl hx.symm
  exact ⟨fun x l hx => ⟨(h.lt x l hx).1, Nat.lt_of_lt_of_le (h.lt x l hx).2 k.size⟩, hb, h.og, h.row.low k fun b h1 h2 => hne b 1 (h.orow b h1 h2) (by omega), h.orow, h.map.keeps k (hne mb 2 h.omap (by omega)), h.omap,
    fun i r hr => ⟨(h.rds i r hr).1, (h.rds i r hr).2.1.low k fun b h1 h2 => hne b (4 + i) ((h.rds i r hr).2.2 b h1 h2) (by omega), (h.rds i r hr).2.2⟩, h.kept.keeps k fun b hb => hne b 3 hb (by omega)⟩
/-- Codes have been kept. -/
theorem Ln.kept' (h : Ln o B g s G N e br bb mb mc P w) (hB : B ≤ w.heap.size) (hb : Blk w1 g 107 #[.pointer (some ⟨br, 0, none⟩), .map (some mb), mc', .int .i64 e]) (hg : ¬ Fc' g) (hk : Kept Fc' N' mc' w1)
    (hs : Step (fun k => k = g ∨ o k = some 3) (fun k => k = g ∨ Fc' k) w w1) :
    ∃ o', Ln o' B g s G N' e br bb mb mc' P w1 ∧ Step (Ft o) (Ft o') w w1 ∧ ∀ k, Fc' k → o' k = some 3 := by
  classical
  have hsub : ∀ k, Fc' k → o k = some 3 ∨ (w.heap.size ≤ k ∧ o k = none) := fun k hk => by
    rcases hs.sub k (.inr hk) with (rfl | h1) | h1
    · exact absurd hk hg
    · exact .inl h1
    · refine .inr ⟨h1, ?_⟩
      cases ho : o k with
      | none => rfl
      | some l =>
        have := (h.lt k l ho).2
        omega
  have hno : ∀ k l, o k = some l → l ≠ 3 → ¬ Fc' k := fun k l hk hl hF => by
    rcases hsub k hF with h1 | ⟨_, h1⟩
    · rw [h1] at hk
      injection hk with hk
      exact hl hk.symm
    · rw [h1] at hk
      cases hk
  have hne : ∀ x l, o x = some l → l ≠ 0 → l ≠ 3 → ¬ (x = g ∨ o x = some 3) := fun x l hx h0 h3 hor => by
    rcases hor with e | e
    · rw [e, h.og] at hx
      injection hx with hx
      exact h0 hx.symm
    · rw [e] at hx
      injection hx with hx
      exact h3 hx.symm
  have k := hs.keeps
  have hold : ∀ x l, o x = some l → l ≠ 3 → (if Fc' x then some 3 else o x) = some l := fun x l hx hl => by rw [if_neg (hno x l hx hl)]; exact hx
  refine ⟨fun k => if Fc' k then some 3 else o k, ⟨fun x l hx => ?_, hb, hold g 0 h.og (by omega), h.row.low k fun b h1 h2 => hne b 1 (h.orow b h1 h2) (by omega) (by omega), fun b h1 h2 => hold b 1 (h.orow b h1 h2) (by omega), h.map.keeps k (hne mb 2 h.omap (by omega) (by omega)), hold mb 2 h.omap (by omega),
    fun i r hr => ⟨(h.rds i r hr).1, (h.rds i r hr).2.1.low k fun b h1 h2 => hne b (4 + i) ((h.rds i r hr).2.2 b h1 h2) (by omega) (by omega), fun b h1 h2 => hold b (4 + i) ((h.rds i r hr).2.2 b h1 h2) (by omega)⟩, ?_⟩, ⟨k.mono fun x _ hx => ?_, fun x hx => ?_⟩, fun x hx => if_pos hx⟩
  · split at hx
    · rename_i hF
      refine ⟨?_, hk.1 x hF⟩
      rcases hsub x hF with h1 | ⟨h1, _⟩
      · exact (h.lt x 3 h1).1
      · exact Nat.le_trans hB h1
    · exact ⟨(h.lt x l hx).1, Nat.lt_of_lt_of_le (h.lt x l hx).2 k.size⟩
  · refine Kept.mono hk (fun x hx => by simp [hx]) fun x hx => ?_
    split at hx
    · rename_i hF
      exact hk.1 x hF
    · exact Nat.lt_of_lt_of_le (h.lt x 3 hx).2 k.size
  · rcases hx with rfl | hx
    · rw [Ft, h.og]
      simp
    · rw [Ft, hx]
      simp
  · simp only [Ft] at hx ⊢
    split at hx
    · rename_i hF
      rcases hsub x hF with h1 | ⟨h1, _⟩
      · exact .inl (by rw [h1]; simp)
      · exact .inr h1
    · exact .inl hx
end
end Go.Proofs.YtgaofnmgdefdcaaGreatDoor.Le


namespace Go.Proofs.YtgaofnmgdefdcaaGreatDoor.Cm
open Go.RowKit Go.Proofs.YtgaofnmgdefdcaaGreatDoor.Gen

theorem nanI_ (x : Int) (w : World) : Calls Tryz.prog 120 #[.int .i64 x] w fun r w' => r = .returned (.bool false) ∧ w' = w := by
  go_enter Tryz.func120, Tryz.ntmps120
  go_wp2
  all_goals
    go_ret
    refine ⟨?_, rfl⟩
    simp
theorem cmpI_ (x y : Int) (w : World) : Calls Tryz.prog 103 #[.int .i64 x, .int .i64 y] w fun r w' => r = .returned (.int .i64 (Go.Lib.compareInt x y)) ∧ w' = w := by
  have H1 := Lib.hid (fun w => nanI_ x w)
  have H2 := Lib.hid (fun w => nanI_ y w)
  go_enter Tryz.func103, Tryz.ntmps103
  go_wp2_with (
    first
      | (refine (H1.out _).mono ?_; clear H1; rintro e w' ⟨rfl, rfl⟩)
      | (refine (H2.out _).mono ?_; rintro e w' ⟨rfl, rfl⟩))
  all_goals
    go_ret
    refine ⟨?_, rfl⟩
    unfold Go.Lib.compareInt
    try simp_all
    try (first | omega | (split <;> first | rfl | omega))
end Go.Proofs.YtgaofnmgdefdcaaGreatDoor.Cm

namespace Go.Proofs.YtgaofnmgdefdcaaGreatDoor.Mp
open Go.RowKit Go.Proofs.YtgaofnmgdefdcaaGreatDoor.Gen Go.Maps

/-- An element, as it is. -/
def Rv (v : Value) : Option (DataW Value × List MemPlace) := some (.held v, [])
theorem Rv_inv {v : Value} {d : DataW Value} {ps : List MemPlace} (h : Rv v = some (d, ps)) : d = .held v := by
  unfold Rv at h
  injection h with h
  injection h with h _
  exact h.symm

/-- A datum reads as these entries. -/
structure Reads (D : DataW Value) (m : List (Lit × Value)) : Prop where
  tidy : Tidy D
  nd : (m.map (·.1)).Nodup
  has : ∀ kl, Maps.has D kl = true ↔ kl ∈ m.map (·.1)
  at_ : ∀ p ∈ m, ∀ z, D.atKey p.1 z = .held p.2
  size : Maps.size D = m.length
theorem Reads.empty : Reads (.map []) [] := ⟨tidy_empty, by simp, by simp [Maps.has], by simp, rfl⟩
/-- Entries behind a store. -/
def upd (m : List (Lit × Value)) (kl : Lit) (v : Value) : List (Lit × Value) := m.filter (fun p => !p.1.sameKey kl) ++ [(kl, v)]
theorem same_iff {kl : Lit} (hk : WideAt.IsKeyLit kl) (a : Lit) : a.sameKey kl = true ↔ a = kl := ⟨WideAt.sameKey_eq, fun e => by subst e; exact WideAt.sameKey_self hk⟩
theorem mem_rest {m : List (Lit × Value)} {kl : Lit} (hk : WideAt.IsKeyLit kl) {p : Lit × Value} : p ∈ m.filter (fun p => !p.1.sameKey kl) ↔ p ∈ m ∧ p.1 ≠ kl := by
  rw [List.mem_filter, Bool.not_eq_true', ← Bool.not_eq_true, same_iff hk]
theorem filter_length {m : List (Lit × Value)} {kl : Lit} (hk : WideAt.IsKeyLit kl) (h : (m.map (·.1)).Nodup) : (kl ∈ m.map (·.1) → (m.filter (fun p => !p.1.sameKey kl)).length + 1 = m.length) ∧ (kl ∉ m.map (·.1) → (m.filter (fun p => !p.1.sameKey kl)).length = m.length) := by
  induction m with
  | nil => simp
  | cons p m ih =>
    simp only [List.map_cons, List.nodup_cons] at h
    have ih := ih h.2
    by_cases hp : p.1 = kl
    · have h1 : p.1.sameKey kl = true := (same_iff hk _).2 hp
      have h2 := ih.2 (hp ▸ h.1)
      rw [List.filter_cons, h1]
      simp only [Bool.not_true, Bool.false_eq_true, if_false, List.length_cons]
      exact ⟨fun _ => by omega, fun hn => absurd (by simp [hp]) hn⟩
    · have h1 : p.1.sameKey kl = false := by rw [← Bool.not_eq_true, same_iff hk]; exact hp
      rw [List.filter_cons, h1]
      simp only [Bool.not_false, if_true, List.length_cons, List.map_cons, List.mem_cons]
      refine ⟨fun hm => ?_, fun hm => ?_⟩
      · rcases hm with e | hm
        · exact absurd e.symm hp
        · have := ih.1 hm; omega
      · have := ih.2 (fun e => hm (.inr e)); omega
theorem upd_keys {m : List (Lit × Value)} {kl k : Lit} {v : Value} (hk : WideAt.IsKeyLit kl) : k ∈ (upd m kl v).map (·.1) ↔ k = kl ∨ k ∈ m.map (·.1) := by
  simp only [upd, List.map_append, List.mem_append, List.mem_map, mem_rest hk, List.map_cons, List.map_nil, List.mem_singleton]
  constructor
  · rintro (⟨p, ⟨h1, _⟩, rfl⟩ | rfl)
    · exact .inr ⟨p, h1, rfl⟩
    · exact .inl rfl
  · rintro (rfl | ⟨p, h1, rfl⟩)
    · exact .inr rfl
    · by_cases h : p.1 = kl
      · exact .inr h
      · exact .inl ⟨p, ⟨h1, h⟩, rfl⟩
theorem upd_nodup {m : List (Lit × Value)} {kl : Lit} {v : Value} (hk : WideAt.IsKeyLit kl) (h : (m.map (·.1)).Nodup) : ((upd m kl v).map (·.1)).Nodup := by
  unfold upd
  rw [List.map_append, List.nodup_append]
  refine ⟨h.sublist (List.filter_sublist.map _), by simp, ?_⟩
  intro a ha b hb
  simp only [List.map_cons, List.map_nil, List.mem_singleton] at hb
  subst hb
  rw [List.mem_map] at ha
  obtain ⟨p, h2, rfl⟩ := ha
  exact ((mem_rest hk).1 h2).2
theorem mem_upd {m : List (Lit × Value)} {kl : Lit} {v : Value} {p : Lit × Value} (hk : WideAt.IsKeyLit kl) : p ∈ upd m kl v ↔ (p ∈ m ∧ p.1 ≠ kl) ∨ p = (kl, v) := by
  simp only [upd, List.mem_append, mem_rest hk, List.mem_singleton]
theorem upd_new {m : List (Lit × Value)} {kl : Lit} {v : Value} (hk : WideAt.IsKeyLit kl) (h : kl ∉ m.map (·.1)) : upd m kl v = m ++ [(kl, v)] := by
  unfold upd
  congr 1
  rw [List.filter_eq_self]
  intro p hp
  rw [Bool.not_eq_true', ← Bool.not_eq_true, same_iff hk]
  exact fun e => h (e ▸ List.mem_map_of_mem hp)
theorem Reads.put {D : DataW Value} {m : List (Lit × Value)} (h : Reads D m) {kl : Lit} (hk : WideAt.IsKeyLit kl) (v : Value) : Reads (D.put kl (.held v)) (upd m kl v) := by
  refine ⟨h.tidy.put hk _, upd_nodup hk h.nd, fun k => ?_, fun p hp z => ?_, ?_⟩
  · rw [upd_keys hk]
    by_cases hkk : k = kl
    · subst hkk
      simp [has_put_same h.tidy.isMap hk]
    · rw [has_put_other hkk, h.has]
      simp [hkk]
  · rcases (mem_upd hk).1 hp with ⟨h1, h2⟩ | rfl
    · rw [atKey_put_other h2, h.at_ p h1]
    · exact atKey_put_same h.tidy.isMap hk _ _
  · rw [size_put h.tidy, h.size, upd, List.length_append, List.length_singleton]
    have hf := filter_length hk h.nd
    by_cases hm : kl ∈ m.map (·.1)
    · rw [if_pos ((h.has kl).2 hm)]; exact (hf.1 hm).symm
    · rw [if_neg (fun e => hm ((h.has kl).1 e)), hf.2 hm]
theorem nodup_sub {α : Type} : ∀ {met m : List α}, met.Nodup → (∀ x ∈ met, x ∈ m) → ∃ R, m.Perm (met ++ R)
  | [], m, _, _ => ⟨m, .refl _⟩
  | a :: met, m, h, hs => by
    rw [List.nodup_cons] at h
    obtain ⟨s, t, rfl⟩ := List.append_of_mem (hs a (by simp))
    obtain ⟨R, hR⟩ := nodup_sub (m := s ++ t) h.2 fun x hx => by
      have := hs x (by simp [hx])
      simp only [List.mem_append, List.mem_cons] at this ⊢
      rcases this with h1 | rfl | h1
      · exact .inl h1
      · exact absurd hx h.1
      · exact .inr h1
    exact ⟨R, List.perm_middle.trans (hR.cons a)⟩
theorem nodup_all {α : Type} {met m : List α} (h : met.Nodup) (hm : m.Nodup) (hs : ∀ x ∈ met, x ∈ m) (ha : ∀ x ∈ m, x ∈ met) : met.Perm m := by
  obtain ⟨R, hR⟩ := nodup_sub h hs
  cases R with
  | nil => simpa using hR.symm
  | cons x R =>
    have h1 := (hR.nodup_iff).1 hm
    rw [List.nodup_append] at h1
    have h2 := ha x (hR.symm.subset (by simp))
    exact absurd rfl (h1.2.2 x h2 x (by simp))
theorem nodup_of_map {α β : Type} {f : α → β} : ∀ {l : List α}, (l.map f).Nodup → l.Nodup
  | [], _ => .nil
  | a :: l, h => by
    simp only [List.map_cons, List.nodup_cons] at h
    exact List.nodup_cons.2 ⟨fun ha => h.1 (List.mem_map_of_mem ha), nodup_of_map h.2⟩
theorem key_inj {m : List (Lit × Value)} (h : (m.map (·.1)).Nodup) {p q : Lit × Value} (hp : p ∈ m) (hq : q ∈ m) (e : p.1 = q.1) : p = q := by
  induction m with
  | nil => cases hp
  | cons a m ih =>
    simp only [List.map_cons, List.nodup_cons] at h
    rcases List.mem_cons.1 hp with rfl | hp1 <;> rcases List.mem_cons.1 hq with rfl | hq1
    · rfl
    · exact absurd (e ▸ List.mem_map_of_mem hq1) h.1
    · exact absurd (e ▸ List.mem_map_of_mem hp1) h.1
    · exact ih h.2 hp1 hq1

section
variable {P : Program} {k : TypeId} {w w1 : World} {b r : Nat} {m met : List (Lit × Value)}
/-- Block b is a map of just these entries, each key once. -/
def IsM (P : Program) (k : TypeId) (w : World) (b : Nat) (m : List (Lit × Value)) : Prop := ∃ D, w.ownsMap P k Rv b m.length D ∧ Reads D m
theorem IsM.of {n : Nat} {D : DataW Value} (h : w.ownsMap P k Rv b n D) (hr : Reads D m) : IsM P k w b m := by
  refine ⟨D, ?_, hr⟩
  obtain ⟨es, clock, h1, h2, _, h4⟩ := h
  refine ⟨es, clock, h1, h2, ?_, h4⟩
  rw [← hr.size, h4, Maps.size_eq, length_read]
  exact Nat.le_refl _
theorem IsM.lt (h : IsM P k w b m) : b < w.heap.size := by obtain ⟨D, h1, _⟩ := h; exact h1.lt
theorem IsM.nd (h : IsM P k w b m) : (m.map (·.1)).Nodup := by obtain ⟨D, _, h3⟩ := h; exact h3.nd
theorem IsM.keeps {S : Nat → Prop} (h : IsM P k w b m) (hk : Keeps S w w1) (hn : ¬ S b) : IsM P k w1 b m := by
  have hb := h.lt
  obtain ⟨D, ⟨es, clock, h1, h2⟩, h3⟩ := h
  exact ⟨D, ⟨es, clock, (hk.block b hb hn).trans h1, h2⟩, h3⟩
theorem IsM.ne_blk {g : Nat} {t : TypeId} {cs : Array Value} (h : IsM P k w b m) (hb : Blk w g t cs) : g ≠ b := by
  rintro rfl
  obtain ⟨D, ⟨es, clock, h1, _⟩, _⟩ := h
  unfold Blk at hb
  rw [hb] at h1
  cases h1
theorem IsM.new (P : Program) (k : TypeId) (w : World) : IsM P k (w.alloc (.map #[] 0)) w.heap.size [] :=
  ⟨_, World.ownsMap_made w P k Rv, Reads.empty⟩
/-- A range over it is under way: these entries have come. -/
def Rgs (P : Program) (k : TypeId) (w : World) (b r : Nat) (m met : List (Lit × Value)) (cnt : Nat) : Prop :=
  ∃ n D left, w.ranges P k Rv b r n D left cnt ∧ Reads D m ∧ (met.map (·.1)).Nodup ∧ (∀ p ∈ met, p ∈ m) ∧ ∀ kl, left kl = true ↔ kl ∈ m.map (·.1) ∧ kl ∉ met.map (·.1)
theorem Rgs.isM {cnt : Nat} (h : Rgs P k w b r m met cnt) : IsM P k w b m := by
  obtain ⟨n, D, left, h1, h3, _⟩ := h
  exact IsM.of h1.owns h3
theorem Rgs.left_eq {cnt : Nat} (h : Rgs P k w b r m met cnt) : w.rangeLeft b r = cnt := by
  obtain ⟨n, D, left, h1, _⟩ := h
  exact h1.left_eq
theorem Rgs.lt {cnt : Nat} (h : Rgs P k w b r m met cnt) : r < w.heap.size := by
  obtain ⟨n, D, left, h1, _⟩ := h
  exact h1.lt
theorem Rgs.ne {cnt : Nat} (h : Rgs P k w b r m met cnt) : r ≠ b := by
  obtain ⟨n, D, left, h1, _⟩ := h
  exact h1.ne
theorem Rgs.keeps {S : Nat → Prop} {cnt : Nat} (h : Rgs P k w b r m met cnt) (hk : Keeps S w w1) (hb : ¬ S b) (hr : ¬ S r) : Rgs P k w1 b r m met cnt := by
  have hb' := h.isM.lt
  have hr' := h.lt
  obtain ⟨n, D, left, ⟨es, clock, since, seen, c0, h1, h2, h3, h4, h5, h6⟩, rest⟩ := h
  exact ⟨n, D, left, ⟨es, clock, since, seen, c0, (hk.block b hb' hb).trans h1, h2, h3, h4, (hk.block r hr' hr).trans h5, h6⟩, rest⟩
theorem Rgs.ne_blk {cnt g : Nat} {t : TypeId} {cs : Array Value} (h : Rgs P k w b r m met cnt) (hb : Blk w g t cs) : g ≠ r := by
  rintro rfl
  obtain ⟨n, D, left, ⟨es, clock, since, seen, c0, _, _, _, _, h5, _⟩, _⟩ := h
  unfold Blk at hb
  rw [hb] at h5
  cases h5
theorem Rgs.len {cnt : Nat} (h : Rgs P k w b r m met cnt) : met.length ≤ m.length := by
  obtain ⟨n, D, left, _, _, h4, h5, _⟩ := h
  obtain ⟨R, hR⟩ := nodup_sub (nodup_of_map h4) h5
  have := hR.length_eq
  rw [List.length_append] at this
  omega
end

section
variable {P : Program} (w : World) {ops : Array Oper} {rest : List Oper} {o : Oper} {a : Act} {Q : Exit → Act → World → Prop}

theorem wpList_len_m (hg : o.guard = none) (x : Operand) (t : TypeId) (hop : o.op = Op.call { callee := Callee.builtin Builtin.len, args := #[x], argTypes := #[t] }) (k e : TypeId) (ht : P.underlying t = some (.map k e)) (b n : Nat) (m : List (Lit × Value))
    (hm : a.eval x = .map (some b)) (h : IsM P k w b m) (hn : m.length = n) (hK : wpList P ops Q rest (a.put o.dst (.int .i64 (n : Int))) w) : wpList P ops Q (o :: rest) a w := by
  obtain ⟨D, h1, h3⟩ := h
  refine wpList_len_own w hg x t hop k e ht Rv b _ D hm h1 ?_
  rw [h3.size, hn]
  exact hK
theorem wpList_range_m (hg : o.guard = none) (x : Operand) (t : TypeId) (hop : o.op = Op.range t x) (k e : TypeId) (K : Keyed P k) (ht : P.underlying t = some (.map k e)) (b : Nat) (m : List (Lit × Value))
    (hm : a.eval x = .map (some b)) (h : IsM P k w b m) (hK : ∀ w', Rgs P k w' b w.heap.size m [] m.length → Keeps (fun _ => False) w w' → wpList P ops Q rest (a.put o.dst (.pointer (some ⟨w.heap.size, 0, none⟩))) w') : wpList P ops Q (o :: rest) a w := by
  obtain ⟨D, h1, h3⟩ := h
  refine wpList_range_own w hg x t hop k e K ht Rv b _ D hm h1 fun w' r1 r2 _ => hK w' ⟨_, D, _, by rw [← h3.size]; exact r1, h3, by simp, by simp, fun kl => ?_⟩ (Keeps.grown (Keeps.refl _ _) r2 (fun _ h => by cases h))
  rw [h3.has]
  simp
theorem wpList_next_m {α β : Type} (hg : o.guard = none) (it : Operand) (hop : o.op = Op.next it false) (k : TypeId) (K : Keyed P k) (mkK : α → Value) (mkV : β → Value) (invK : ∀ key kl, keyOf P k key = some kl → ∃ x, key = mkK x)
    (b r : Nat) (m met : List (Lit × Value)) (cnt : Nat) (invV : ∀ p ∈ m, ∃ c, p.2 = mkV c)
    (hit : a.eval it = .pointer (some ⟨r, 0, none⟩)) (h : Rgs P k w b r m met cnt)
    (hDone : met.Perm m → wpList P ops Q rest (a.put o.dst (.tuple #[.bool false])) w)
    (hMore : ∀ (x : α) (c : β) (kl : Lit) (w' : World) (cnt' : Nat), keyOf P k (mkK x) = some kl → (kl, mkV c) ∈ m → kl ∉ met.map (·.1) → Rgs P k w' b r m (met ++ [(kl, mkV c)]) cnt' → cnt' < cnt → Keeps (· = r) w w' →
      (Instr.entry (.pointer (some ⟨r, 0, none⟩))).run P w' = .ok (.tuple #[mkK x, mkV c]) w' → wpList P ops Q rest (a.put o.dst (.tuple #[.bool true, mkK x, mkV c])) w') :
    wpList P ops Q (o :: rest) a w := by
  obtain ⟨n, D, left, h1, h3, h4, h5, h6⟩ := h
  refine wpList_plain hg fun K' hK' => ?_
  unfold Oper.wp
  rcases h1.next K o.type with ⟨h0, hl, hrun⟩ | ⟨key, v, kl, y, w', cnt', hkey, hlk, hv, hat, hrun, hrg, hlt, hgr, hsz, hen⟩
  · simp [execOp, hop, hit, hrun, Result.andThen]
    refine hK' _ _ (hDone (nodup_all (nodup_of_map h4) (nodup_of_map h3.nd) h5 fun p hp => ?_))
    have h7 := (h6 p.1)
    rw [hl p.1] at h7
    have h8 : p.1 ∈ met.map (·.1) := Classical.byContradiction fun hn => absurd (h7.2 ⟨List.mem_map_of_mem hp, hn⟩) (by simp)
    rw [List.mem_map] at h8
    obtain ⟨q, hq, e⟩ := h8
    rw [key_inj h3.nd hp (h5 q hq) e.symm]
    exact hq
  · have h7 := (h6 kl).1 hlk
    have h8 := h7.1
    rw [List.mem_map] at h8
    obtain ⟨p, hp, rfl⟩ := h8
    have h9 := hat (.held undef)
    rw [h3.at_ p hp] at h9
    obtain ⟨yd, yp⟩ := y
    have h10 := Rv_inv hv
    simp only at h9
    rw [h10] at h9
    injection h9 with h9
    obtain ⟨c, hc⟩ := invV p hp
    obtain ⟨x, rfl⟩ := invK key p.1 hkey
    rw [← h9, hc] at hrun hen
    simp [execOp, hop, hit, hrun, Result.andThen]
    have hpm : (p.1, mkV c) ∈ m := by rw [← hc]; exact hp
    refine hK' _ _ (hMore x c p.1 w' cnt' hkey hpm h7.2 ⟨n, D, _, hrg, h3, ?_, ?_, fun kl => ?_⟩ hlt ?_ hen)
    · rw [List.map_append, List.nodup_append]
      refine ⟨h4, by simp, fun a ha b hb => ?_⟩
      simp only [List.map_cons, List.map_nil, List.mem_singleton] at hb
      subst hb
      exact fun e => h7.2 (e ▸ ha)
    · intro q hq
      rcases List.mem_append.1 hq with hq | hq
      · exact h5 q hq
      · rw [List.mem_singleton] at hq
        rw [hq]
        exact hpm
    · have hk := K.key hkey
      simp only [Bool.and_eq_true, Bool.not_eq_true', List.map_append, List.mem_append, List.map_cons, List.map_nil, List.mem_singleton, not_or]
      rw [h6 kl, ← Bool.not_eq_true, same_iff hk]
      exact ⟨fun ⟨⟨x, y⟩, z⟩ => ⟨x, y, z⟩, fun ⟨x, y, z⟩ => ⟨⟨x, y⟩, z⟩⟩
    · exact Keeps.grown (Keeps.refl _ _) hgr (fun j hj => .inl (by injection hj with hj; exact hj.symm))
/-- A look-up of a key that is there; of one that isn't. -/
theorem IsM.look {k e t : TypeId} {b : Nat} {m : List (Lit × Value)} (h : IsM P k w b m) (K : Keyed P k) (ht : P.underlying t = some (.map k e)) {z : Value} (hz : (zeroValue e).run P w = .ok z w) {key : Value} {kl : Lit} (hkey : keyOf P k key = some kl) :
    (∀ v, (kl, v) ∈ m → (Instr.lookup t (.map (some b)) key false).run P w = .ok v w ∧ (Instr.lookup t (.map (some b)) key true).run P w = .ok (.tuple #[v, .bool true]) w) ∧
    (kl ∉ m.map (·.1) → (Instr.lookup t (.map (some b)) key false).run P w = .ok z w ∧ (Instr.lookup t (.map (some b)) key true).run P w = .ok (.tuple #[z, .bool false]) w) := by
  obtain ⟨D, h1, h3⟩ := h
  obtain ⟨v1, p1, r1, e1⟩ := h1.lookup K ht hz (zd := .held z) (zp := []) rfl hkey
  obtain ⟨v2, p2, r2, e2⟩ := h1.look_ok K ht hz (zd := .held z) (zp := []) rfl hkey
  have e1 := Rv_inv e1
  have e2 := Rv_inv e2
  refine ⟨fun v hv => ?_, fun hn => ?_⟩
  · rw [h3.at_ _ hv] at e1 e2
    injection e1 with e1
    injection e2 with e2
    subst e1
    subst e2
    refine ⟨r1, ?_⟩
    rw [r2, (h3.has kl).2 (List.mem_map_of_mem hv)]
  · have hf : Maps.has D kl = false := by
      rw [← Bool.not_eq_true, h3.has]
      exact hn
    rw [atKey_of_not_has hf] at e1 e2
    injection e1 with e1
    injection e2 with e2
    subst e1
    subst e2
    refine ⟨r1, ?_⟩
    rw [r2, hf]
theorem wpList_update_m (hg : o.guard = none) (x y v : Operand) (t : TypeId) (hop : o.op = Op.mapUpdate t x y v) (k e : TypeId) (K : Keyed P k) (ht : P.underlying t = some (.map k e)) (b : Nat) (m : List (Lit × Value)) (hm : a.eval x = .map (some b)) (h : IsM P k w b m) (hl : m.length ≤ 1000000)
    (key val : Value) (kl : Lit) (hx : a.eval y = key) (hv : a.eval v = val) (hkey : keyOf P k key = some kl) (hK : ∀ w', IsM P k w' b (upd m kl val) → Keeps (· = b) w w' → wpList P ops Q rest (a.put o.dst undef) w') :
    wpList P ops Q (o :: rest) a w := by
  obtain ⟨D, h1, h3⟩ := h
  refine wpList_mapUpdate_own w hg x y v t hop k e K ht Rv b _ D hm h1 (by simp only [maxLen]; omega) key val kl hx hv hkey (.held val) [] rfl fun w' r1 r2 => ?_
  exact hK w' (IsM.of r1 (h3.put (K.key hkey) val)) (Keeps.grown (Keeps.refl _ _) r2 (fun j hj => .inl (by injection hj with hj; exact hj.symm)))
theorem IsM.len_run {k e t : TypeId} {b n : Nat} {m : List (Lit × Value)} (h : IsM P k w b m) (ht : P.underlying t = some (.map k e)) (hn : m.length = n) (ty : TypeId) : (Builtin.len_ #[t] ty #[.map (some b)]).run P w = .ok (.int .i64 (n : Int)) w := by
  obtain ⟨D, h1, h3⟩ := h
  rw [h1.len ht ty, h3.size, hn]
theorem wpList_insert_m (hg : o.guard = none) (x y v : Operand) (t : TypeId) (hop : o.op = Op.insert t x y v) (k e : TypeId) (K : Keyed P k) (ht : P.underlying t = some (.map k e)) (b : Nat) (m : List (Lit × Value)) (hm : a.eval x = .map (some b)) (h : IsM P k w b m) (hl : m.length ≤ 1000000)
    (key val : Value) (kl : Lit) (hx : a.eval y = key) (hv : a.eval v = val) (hkey : keyOf P k key = some kl) (hK : ∀ w', IsM P k w' b (upd m kl val) → Keeps (· = b) w w' → wpList P ops Q rest (a.put o.dst undef) w') :
    wpList P ops Q (o :: rest) a w := by
  obtain ⟨D, h1, h3⟩ := h
  refine wpList_plain hg fun K' hK' => ?_
  obtain ⟨w', hrun, r1, r2⟩ := h1.update K ht (by simp only [maxLen]; omega) hkey (d := .held val) (ps := []) (val := val) rfl
  unfold Oper.wp
  simp [execOp, hop, hm, hx, hv, hrun, Result.andThen]
  exact hK' _ _ (hK w' (IsM.of r1 (h3.put (K.key hkey) val)) (Keeps.grown (Keeps.refl _ _) r2 (fun j hj => .inl (by injection hj with hj; exact hj.symm))))
end
end Go.Proofs.YtgaofnmgdefdcaaGreatDoor.Mp
