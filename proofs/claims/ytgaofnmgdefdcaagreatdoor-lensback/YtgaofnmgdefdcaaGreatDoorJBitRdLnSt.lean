/- What bits' Reader does, call by call: the bits that it takes, whether it has ended; only its own block turns, and new memory is made; a nil one has ended. -/
/- What a Lens keeps: the row's Reader, blocks' Readers, codes, an error; each lies in blocks of its own, told by labels. Names no function of the program. -/
import Derived.Test.YtgaofnmgdefdcaaGreatDoorJBitFnBitRef
import Derived.Deep.RegionHeld3
import Derived.Test.YtgaofnmgdefdcaaGreatDoorJBitWQQlSt
import Derived.Test.YtgaofnmgdefdcaaGreatDoorItfRd

namespace Go.Proofs.YtgaofnmgdefdcaaGreatDoor.Br
open Go.RowKit Go.Proofs.YtgaofnmgdefdcaaGreatDoor.Gen Go.Proofs.YtgaofnmgdefdcaaGreatDoor.Cl Go.Proofs.YtgaofnmgdefdcaaGreatDoor.Bp Go.Proofs.YtgaofnmgdefdcaaGreatDoor.Bf

theorem size_u8 (w : World) : (sizeOf 5).run Tryz.prog w = .ok 1 w := by
  obtain ⟨i0, hi0, hz0, hz1, hz2⟩ := info_parts u8_info
  simp [sizeOf, typeInfo, hi0, hz1]
/-- A Reader as plain data: its bytes, how many bits were taken, has it ended? -/
structure BS where
  xs : List Int
  k : Nat
  ended : Bool
/-- All its bits; how many are left. -/
def BS.bits (s : BS) : List Nat := ofB (s.xs.map Int.toNat)
def BS.ok (s : BS) : Prop := s.k ≤ 8 * s.xs.length ∧ s.xs.length ≤ 1000000 ∧ ∀ x ∈ s.xs, 0 ≤ x ∧ x < 256
theorem BS.len (s : BS) : s.bits.length = 8 * s.xs.length := by simp [BS.bits, ofB_len]
/-- In memory: block g is a Reader, and its bytes lie in a row of its own, below it; both from block base on. -/
def IsBr (base g : Nat) (s : BS) (w : World) : Prop :=
  base ≤ g ∧ s.ok ∧ ∃ A c, Blk w g 138 #[.slice A s.xs.length c, .int .i64 s.k, .bool s.ended] ∧ w.ownsRow base 5 1 (.slice A s.xs.length c) s.xs.length (bv s.xs) ∧ ∀ b, (Value.slice A s.xs.length c).ownBlock = some b → b < g
theorem IsBr.low {S : Nat → Prop} {base g : Nat} {s : BS} {w w1 : World} (h : IsBr base g s w) (k : Keeps S w w1) (hn : ∀ b, base ≤ b → b ≤ g → ¬ S b) : IsBr base g s w1 := by
  obtain ⟨hg, ho, A, c, hb, hv, hrb⟩ := h
  exact ⟨hg, ho, A, c, hb.keeps k (hn g hg (Nat.le_refl _)), own_keeps hv k (fun b hb' => hn b ((hv.lt b hb').1) (Nat.le_of_lt (hrb b hb'))), hrb⟩
theorem IsBr.keeps {S : Nat → Prop} {base g : Nat} {s : BS} {w w1 : World} (h : IsBr base g s w) (k : Keeps S w w1) (hn : ∀ b, base ≤ b → ¬ S b) : IsBr base g s w1 := h.low k fun b hb _ => hn b hb
theorem IsBr.lt {base g : Nat} {s : BS} {w : World} (h : IsBr base g s w) : g < w.heap.size := by
  obtain ⟨_, _, A, c, hb, _⟩ := h
  exact hb.lt
theorem IsBr.drewN {base g : Nat} {s : BS} {w : World} (h : IsBr base g s w) (n : Nat) : IsBr base g s (w.drewN n) := h.keeps (S := fun _ => False) ((Keeps.refl _ _).drewN n) fun _ _ => id
theorem IsBr.setEnded {base g : Nat} {s : BS} {w : World} (h : IsBr base g s w) (e : Bool) : IsBr base g { s with ended := e } (w.setCell ⟨g, 2, none⟩ (.bool e)) := by
  obtain ⟨hg, ho, A, c, hb, hv, hrb⟩ := h
  refine ⟨hg, ho, A, c, by simpa using hb.setCell 2 (.bool e), own_keeps (S := (· = g)) hv ((Keeps.refl _ _).setOwn _ _) (fun b hb' e => ?_), hrb⟩
  subst e
  exact own_ne hv hb (by decide) hb'
theorem IsBr.setAt {base g : Nat} {s : BS} {w : World} (h : IsBr base g s w) (k : Nat) (hk : k ≤ 8 * s.xs.length) : IsBr base g { s with k := k } (w.setCell ⟨g, 1, none⟩ (.int .i64 k)) := by
  obtain ⟨hg, ho, A, c, hb, hv, hrb⟩ := h
  refine ⟨hg, ⟨hk, ho.2⟩, A, c, by simpa using hb.setCell 1 (.int .i64 k), own_keeps (S := (· = g)) hv ((Keeps.refl _ _).setOwn _ _) (fun b hb' e => ?_), hrb⟩
  subst e
  exact own_ne hv hb (by decide) hb'
/-- A new Reader. -/
def NewBr (base : Nat) (xs : List Int) (w : World) (r : Ending) (w' : World) : Prop :=
  ∃ g, r = .returned (.pointer (some ⟨g, 0, none⟩)) ∧ IsBr base g ⟨xs, 0, false⟩ w' ∧ Keeps (fun _ => False) w w'
theorem read_n (A : Option Addr) (n c : Nat) (xs : List Int) (w : World) (hx : xs.length = n) (hl : Lies w A xs) (hn : n ≤ 1000000) (hb : ∀ x ∈ xs, 0 ≤ x ∧ x < 256) :
    Calls Tryz.prog 47 #[.slice A n c] w (NewBr w.heap.size xs w) := by
  subst hx
  have H := Lib.hid hb
  clear hb
  go_enter Tryz.func47, Tryz.ntmps47
  go_wp2_with fail
  refine (clone A c xs w hl (Nat.le_trans hn (by decide))).mono ?_
  rintro e w1 ⟨A1, c1, rfl, hv, hk⟩
  go_wp2
  go_ret
  exact ⟨w1.heap.size, rfl, ⟨hk.size, ⟨Nat.zero_le _, hn, H.out⟩, A1, c1, Blk.new _ _ _, hv.alloc _, fun b hb => (hv.lt b hb).2⟩, hk.alloc _⟩
theorem ended_none (w : World) : Calls Tryz.prog 99 #[.pointer none] w fun r w' => r = .returned (.bool true) ∧ w' = w := by
  go_enter Tryz.func99, Tryz.ntmps99
  go_wp2
  go_ret
  exact ⟨rfl, rfl⟩
theorem ended (g : Nat) (s : BS) (base : Nat) (w : World) (h : IsBr base g s w) : Calls Tryz.prog 99 #[.pointer (some ⟨g, 0, none⟩)] w fun r w' => r = .returned (.bool s.ended) ∧ w' = w := by
  obtain ⟨hg, ho, A, c, hb, hv, hrb⟩ := h
  have h2 : w.cell? ⟨g, 2, none⟩ = some (.bool s.ended) := hb.cell 2
  clear hg ho hb hv hrb
  go_enter Tryz.func99, Tryz.ntmps99
  go_wp2
  go_ret
  exact ⟨rfl, rfl⟩
theorem ended_q (g : Nat) (s : BS) (e : Bool) (base : Nat) (w : World) (h : IsBr base g s w) (he : s.ended = e) : Calls Tryz.prog 99 #[.pointer (some ⟨g, 0, none⟩)] w fun r w' => r = .returned (.bool e) ∧ w' = w := by
  subst he
  exact ended g s base w h
/-- Behind a call that turns the Reader in block g alone: it answers v, and is s. -/
def Turns (base g : Nat) (v : Value) (s : BS) (w : World) (r : Ending) (w' : World) : Prop :=
  r = .returned v ∧ IsBr base g s w' ∧ Keeps (· = g) w w'
theorem fail_none (w : World) : Calls Tryz.prog 54 #[.pointer none] w fun r w' => r = .returned (.tuple #[]) ∧ w' = w := by
  go_enter Tryz.func54, Tryz.ntmps54
  go_wp2
  go_end0
  exact ⟨rfl, rfl⟩
theorem fail (g : Nat) (s : BS) (base : Nat) (w : World) (h : IsBr base g s w) : Calls Tryz.prog 54 #[.pointer (some ⟨g, 0, none⟩)] w (Turns base g (.tuple #[]) { s with ended := true } w) := by
  have H := Lib.hid h
  obtain ⟨hg, ho, A, c, hb, hv, hrb⟩ := h
  have h2 : w.cell? ⟨g, 2, none⟩ = some (.bool s.ended) := hb.cell 2
  have h3 : w.frozen? ⟨g, 2, none⟩ = false := hb.frozen 2
  clear hg ho hb hv hrb
  go_enter Tryz.func54, Tryz.ntmps54
  go_wp2
  go_end0
  exact ⟨rfl, H.out.setEnded true, (Keeps.refl _ _).setOwn _ _⟩
theorem left (g : Nat) (s : BS) (base : Nat) (m : Nat) (w : World) (h : IsBr base g s w) (hm : 8 * s.xs.length = s.k + m) : Calls Tryz.prog 77 #[.pointer (some ⟨g, 0, none⟩)] w fun r w' => r = .returned (.int .i64 m) ∧ ∃ n, w' = w.drewN n := by
  obtain ⟨hg, ho, A, c, hb, hv, hrb⟩ := h
  have h0 : w.cell? ⟨g, 0, none⟩ = some (.slice A s.xs.length c) := hb.cell 0
  have h1 : w.cell? ⟨g, 1, none⟩ = some (.int .i64 s.k) := hb.cell 1
  obtain ⟨ho1, ho2, _⟩ := ho
  clear hg hb hv hrb
  have hq : 8 * (s.xs.length : Int) - (s.k : Int) = (m : Int) := by omega
  have HQ := Lib.hid hq
  clear hq hm
  go_enter Tryz.func77, Tryz.ntmps77
  go_wp2
  go_quiet (fail)
  go_wp2
  go_ret
  exact ⟨by rw [← HQ.out]; rfl, _, rfl⟩
theorem look (g : Nat) (s : BS) (base : Nat) (m : Nat) (w : World) (h : IsBr base g s w) (hm : s.k + m ≤ 8 * s.xs.length) (h32 : m ≤ 32) :
    Calls Tryz.prog 78 #[.pointer (some ⟨g, 0, none⟩), .int .i64 m] w fun r w' => r = .returned (.int .u32 ((num (piece s.bits s.k m) : Nat) : Int)) ∧ ∃ n, w' = w.drewN n := by
  obtain ⟨hg, ⟨ho1, ho2, hbt⟩, A, c, hb, hv, hrb⟩ := h
  have h0 : w.cell? ⟨g, 0, none⟩ = some (.slice A s.xs.length c) := hb.cell 0
  have h1 : w.cell? ⟨g, 1, none⟩ = some (.int .i64 s.k) := hb.cell 1
  clear hg hb hrb
  obtain ⟨q, j, hkq, hj8⟩ : ∃ q j, s.k = 8 * q + j ∧ j < 8 := ⟨s.k / 8, s.k % 8, by omega, by omega⟩
  obtain ⟨p, hp⟩ : ∃ p, (s.k + m + 7) / 8 = q + p := ⟨(s.k + m + 7) / 8 - q, by omega⟩
  have hq : (s.k : Int) / 8 = (q : Int) := by omega
  have hbe : ((s.k : Int) + (m : Int) + 8 - 1) / 8 = (q : Int) + (p : Int) := by omega
  have hp5 : p ≤ 5 := by omega
  have hqp : q + p ≤ s.xs.length := by omega
  have hfit : j + m ≤ 8 * p ∧ 8 * p < j + m + 8 := by omega
  have hc : s.xs.length ≤ c := by obtain ⟨_, _, hq, hle⟩ := own_form hv; injection hq with _ _ hq; omega
  have HLI := Lib.hid ((Lies.of_own hv).cutAt c q p hc hqp)
  have hsl := fun w => run_cut (P := Tryz.prog) 29 5 A s.xs.length c q p .i64 .i64 Tryz.underlying29 size_u8 (by omega) w
  obtain ⟨mid, hmid⟩ : ∃ mid, mid = (s.xs.drop q).take p := ⟨_, rfl⟩
  rw [← hmid] at HLI
  have HML : Hid (mid.length = p) := by
    show mid.length = p
    rw [hmid]
    simp
    omega
  have HMB : Hid (∀ x ∈ mid, 0 ≤ x ∧ x < 256) := fun x hx => hbt x (by rw [hmid] at hx; exact List.mem_of_mem_drop (List.mem_of_mem_take hx))
  have HPC : Hid (piece s.bits s.k m = piece (ofB (mid.map Int.toNat)) j m) := by
    show piece s.bits s.k m = piece (ofB (mid.map Int.toNat)) j m
    rw [hkq, BS.bits, piece_mid hfit.1, hmid, List.map_take, List.map_drop]
  have HFIT := Lib.hid hfit
  have HKQ := Lib.hid hkq
  have HHM := Lib.hid hm
  clear hmid hfit hkq hv hbt hp
  go_enter Tryz.func78, Tryz.ntmps78
  go_wp2
  rw [hbe]
  clear hbe
  go_quiet (fail)
  go_wp2
  generalize cutAt A c q = A2 at *
  clear hsl h0 h1 hq
  go_loop [7, 32] (fun n i => ∃ d : Nat, d ≤ p ∧ n = .int .u64 ((num (ofB ((mid.take d).map Int.toNat)) : Nat) : Int) ∧ i = .int .i64 d) (fun _ i => p - (intOf i).toNat)
  case atStart => exact ⟨0, Nat.zero_le _, by simp [ofB, num], rfl⟩
  case round =>
    obtain ⟨d, hd, rfl, rfl⟩ := hrel
    by_cases hlt : d < p
    · obtain ⟨b, o, x, rfl, hcell, hx, hN⟩ : ∃ b o x, A2 = some ⟨b, o, none⟩ ∧ w.cell? ⟨b, o + d, none⟩ = some (.int .u8 ((x : Nat) : Int)) ∧ x < 256 ∧ Hid (num (ofB ((mid.take (d + 1)).map Int.toNat)) = num (ofB ((mid.take d).map Int.toNat)) * 256 + x) := by
        have hml := HML.out
        rcases HLI.out with h | ⟨b, o, h, _, hcl⟩
        · rw [h] at hml; simp at hml; omega
        · have hy := HMB.out (mid.getD d 0) (by rw [List.getD_eq_getElem?_getD, List.getElem?_eq_getElem (by omega)]; simp)
          refine ⟨b, o, (mid.getD d 0).toNat, h, ?_, by omega, ?_⟩
          · rw [show (((mid.getD d 0).toNat : Nat) : Int) = mid.getD d 0 by omega]
            exact hcl d (by omega)
          · show num (ofB ((mid.take (d + 1)).map Int.toNat)) = num (ofB ((mid.take d).map Int.toNat)) * 256 + (mid.getD d 0).toNat
            rw [List.take_add_one, List.getElem?_eq_getElem (by omega), List.map_append]
            simp only [Option.toList, List.map_cons, List.map_nil]
            rw [List.getD_eq_getElem?_getD, List.getElem?_eq_getElem (by omega)] at hy ⊢
            exact num_byte (by simp at hy ⊢; omega)
      have hlim : num (ofB ((mid.take d).map Int.toNat)) < 4294967296 := by
        have h1 := num_ofB_lt ((mid.take d).map Int.toNat)
        have h2 : 2 ^ (8 * ((mid.take d).map Int.toNat).length) ≤ 2 ^ 32 := Nat.pow_le_pow_right (by decide) (by simp; omega)
        omega
      obtain ⟨N, hNN⟩ : ∃ N, num (ofB ((mid.take d).map Int.toNat)) = N := ⟨_, rfl⟩
      rw [hNN] at hN hlim ⊢
      have hor := or_byte hlim hx
      clear hNN
      go_wp2
      go_round
      case rel => exact ⟨d + 1, by omega, by rw [hN.out]; rfl, by go_num⟩
      case measure => simp [intOf]; omega
    · obtain rfl : d = p := by omega
      have hml := HML.out
      rw [List.take_of_length_le (by omega)]
      have hlim : num (ofB (mid.map Int.toNat)) < 1099511627776 := by
        have h1 := num_ofB_lt (mid.map Int.toNat)
        have h2 : 2 ^ (8 * (mid.map Int.toNat).length) ≤ 2 ^ 40 := Nat.pow_le_pow_right (by decide) (by simp; omega)
        omega
      obtain ⟨r, hr⟩ : ∃ r, 8 * d = j + m + r := ⟨8 * d - (j + m), by have := HFIT.out; omega⟩
      have hr1 : 8 * ((q : Int) + (d : Int)) - ((s.k : Int) + (m : Int)) = (r : Int) := by have := HKQ.out; omega
      have hr8 : r < 8 := by have := HFIT.out; omega
      have HNP := Lib.hid (num_piece (l := ofB (mid.map Int.toNat)) (j := j) (s := m) (r := r) (ofB_bit _) (by rw [ofB_len]; simp; omega))
      rw [← HPC.out] at HNP
      obtain ⟨N, hNN⟩ : ∃ N, num (ofB (mid.map Int.toNat)) = N := ⟨_, rfl⟩
      rw [hNN] at HNP hlim ⊢
      obtain ⟨Z, hZ⟩ : ∃ Z, N / 2 ^ r = Z := ⟨_, rfl⟩
      rw [hZ] at HNP
      have hZ1 : (N : Int) / 2 ^ r = (Z : Int) := by rw [← hZ]; simp
      have hZ2 : Z < 1099511627776 := by have := Nat.div_le_self N (2 ^ r); omega
      clear hr hNN hZ hml
      go_wp2_with fail
      refine (lowest_q Z m _ _ (by omega) h32 HNP.out).mono ?_
      rintro e w2 ⟨rfl, rfl⟩
      go_wp2
      go_ret
      exact ⟨rfl, _, rfl⟩
theorem look_n (g : Nat) (s : BS) (base : Nat) (m : Nat) (v : Nat) (w : World) (h : IsBr base g s w) (hm : s.k + m ≤ 8 * s.xs.length) (h32 : m ≤ 32) (hv : num (piece s.bits s.k m) = v) :
    Calls Tryz.prog 78 #[.pointer (some ⟨g, 0, none⟩), .int .i64 m] w fun r w' => r = .returned (.int .u32 (v : Int)) ∧ ∃ n, w' = w.drewN n := by
  subst hv
  exact look g s base m w h hm h32
theorem take_none (z : Int) (w : World) : Calls Tryz.prog 98 #[.pointer none, .int .i64 z] w fun r w' => r = .returned (.int .u32 0) ∧ w' = w := by
  go_enter Tryz.func98, Tryz.ntmps98
  go_wp2_with fail
  refine (near z _).mono ?_
  rintro e w1 ⟨rfl, rfl⟩
  go_wp2_with fail
  refine (ended_none _).mono ?_
  rintro e w1 ⟨rfl, rfl⟩
  go_wp2_with fail
  refine (fail_none _).mono ?_
  rintro e w1 ⟨rfl, rfl⟩
  go_wp2
  go_ret
  exact ⟨rfl, rfl⟩
/-- What is taken, and the Reader behind it. -/
def BS.take (s : BS) (m : Nat) : Nat × BS := if s.ended = true ∨ 8 * s.xs.length < s.k + m then (0, { s with ended := true }) else (num (piece s.bits s.k m), { s with k := s.k + m })
theorem take (g : Nat) (s : BS) (base : Nat) (z : Int) (w : World) (h : IsBr base g s w) :
    Calls Tryz.prog 98 #[.pointer (some ⟨g, 0, none⟩), .int .i64 z] w (Turns base g (.int .u32 (((s.take (sz z)).1 : Nat) : Int)) (s.take (sz z)).2 w) := by
  have H := Lib.hid h
  have hz := sz_le z
  obtain ⟨hk, hlen, _⟩ := h.2.1
  clear h
  by_cases he : s.ended = true
  · have HT := Lib.hid (show s.take (sz z) = (0, { s with ended := true }) by simp [BS.take, he])
    go_enter Tryz.func98, Tryz.ntmps98
    go_wp2_with fail
    refine (near z _).mono ?_
    rintro e w1 ⟨rfl, rfl⟩
    go_wp2_with fail
    refine (ended g s base _ H.out).mono ?_
    rintro e w1 ⟨rfl, rfl⟩
    rw [he]
    go_wp2_with fail
    refine (fail g s base _ H.out).mono ?_
    rintro e w2 ⟨rfl, hr, hk⟩
    go_wp2
    go_ret
    rw [HT.out]
    exact ⟨rfl, hr, hk⟩
  · have he' : s.ended = false := by simpa using he
    obtain ⟨m, hm⟩ : ∃ m, 8 * s.xs.length = s.k + m := ⟨8 * s.xs.length - s.k, by omega⟩
    by_cases hlt : m < sz z
    · have HT := Lib.hid (show s.take (sz z) = (0, { s with ended := true }) by unfold BS.take; rw [if_pos (Or.inr (by omega))])
      go_enter Tryz.func98, Tryz.ntmps98
      go_wp2_with fail
      refine (near z _).mono ?_
      rintro e w1 ⟨rfl, rfl⟩
      generalize sz z = t at *
      have hd : decide ((m : Int) < (t : Int)) = true := by simp; omega
      have HM := Lib.hid hm
      clear hm he
      go_wp2_with fail
      refine (ended g s base _ H.out).mono ?_
      rintro e w1 ⟨rfl, rfl⟩
      rw [he']
      go_wp2_with fail
      refine (left g s base m _ H.out HM.out).mono ?_
      rintro e w2 ⟨rfl, nd, rfl⟩
      go_wp2_with fail
      refine (fail g s base _ (H.out.drewN _)).mono ?_
      rintro e w3 ⟨rfl, hr, hk⟩
      go_wp2
      go_ret
      rw [HT.out]
      exact ⟨rfl, hr, ((Keeps.refl _ _).drewN _).trans hk⟩
    · have HT := Lib.hid (show s.take (sz z) = (num (piece s.bits s.k (sz z)), { s with k := s.k + sz z }) by unfold BS.take; rw [if_neg (by simp [he']; omega)])
      go_enter Tryz.func98, Tryz.ntmps98
      go_wp2_with fail
      refine (near z _).mono ?_
      rintro e w1 ⟨rfl, rfl⟩
      generalize sz z = t at *
      have hd : decide ((m : Int) < (t : Int)) = false := by simp; omega
      have HM := Lib.hid hm
      have HTM : Hid (s.k + t ≤ 8 * s.xs.length) := by show s.k + t ≤ 8 * s.xs.length; omega
      obtain ⟨hg, ho, A, c, hb, hv, hrb⟩ := H.out
      have h1 : w1.cell? ⟨g, 1, none⟩ = some (.int .i64 s.k) := hb.cell 1
      have h3 : w1.frozen? ⟨g, 1, none⟩ = false := hb.frozen 1
      clear hm he hg ho hb hv hrb
      go_wp2_with fail
      refine (ended g s base _ H.out).mono ?_
      rintro e w1 ⟨rfl, rfl⟩
      rw [he']
      go_wp2_with fail
      refine (left g s base m _ H.out HM.out).mono ?_
      rintro e w2 ⟨rfl, nd, rfl⟩
      go_wp2_with fail
      refine (look_n g s base t _ _ (H.out.drewN _) HTM.out hz rfl).mono ?_
      rintro e w3 ⟨rfl, nd2, rfl⟩
      generalize num (piece s.bits s.k t) = V at *
      go_wp2
      go_ret
      rw [HT.out]
      exact ⟨rfl, by simpa using (H.out.drewN (nd + nd2)).setAt (s.k + t) HTM.out, ((Keeps.refl _ _).drewN _).setOwn _ _⟩
theorem take_q (g : Nat) (s s1 : BS) (base : Nat) (z V : Int) (t : Nat) (w : World) (h : IsBr base g s w) (ht : sz z = t) (hV : ((s.take t).1 : Int) = V) (hs : (s.take t).2 = s1) :
    Calls Tryz.prog 98 #[.pointer (some ⟨g, 0, none⟩), .int .i64 z] w (Turns base g (.int .u32 V) s1 w) := by
  subst ht
  subst hV
  subst hs
  exact take g s base z w h
theorem take_far {s : BS} {t : Nat} (h : s.ended = true ∨ 8 * s.xs.length < s.k + t) : s.take t = (0, { s with ended := true }) := by simp only [BS.take, if_pos h]
theorem take_near {s : BS} {t : Nat} (he : s.ended = false) (h : s.k + t ≤ 8 * s.xs.length) : s.take t = (num (piece s.bits s.k t), { s with k := s.k + t }) := by
  unfold BS.take
  rw [if_neg (by simp [he]; omega)]
theorem end_none (w : World) : Calls Tryz.prog 51 #[.pointer none] w fun r w' => r = .returned (.int .i64 1) ∧ w' = w := by
  go_enter Tryz.func51, Tryz.ntmps51
  go_wp2
  go_ret
  exact ⟨rfl, rfl⟩
/-- How it stands at the end. -/
def BS.fin (s : BS) : Int := if s.ended = true then 3 else if 8 ≤ 8 * s.xs.length - s.k ∨ num (piece s.bits s.k (8 * s.xs.length - s.k)) ≠ 0 then 10 else 0
theorem end_ended (g : Nat) (s : BS) (base : Nat) (w : World) (h : IsBr base g s w) (he : s.ended = true) : Calls Tryz.prog 51 #[.pointer (some ⟨g, 0, none⟩)] w fun r w' => r = .returned (.int .i64 3) ∧ w' = w := by
  obtain ⟨hg, ho, A, c, hb, hv, hrb⟩ := h
  have h2 : w.cell? ⟨g, 2, none⟩ = some (.bool s.ended) := hb.cell 2
  rw [he] at h2
  clear hg ho hb hv hrb
  go_enter Tryz.func51, Tryz.ntmps51
  go_wp2
  go_ret
  exact ⟨rfl, rfl⟩
theorem end_ (g : Nat) (s : BS) (base : Nat) (w : World) (h : IsBr base g s w) : Calls Tryz.prog 51 #[.pointer (some ⟨g, 0, none⟩)] w fun r w' => r = .returned (.int .i64 s.fin) ∧ ∃ n, w' = w.drewN n := by
  by_cases he : s.ended = true
  · exact (end_ended g s base w h he).mono fun r w' ⟨h1, h2⟩ => ⟨by rw [h1]; simp [BS.fin, he], 0, by rw [h2]; rfl⟩
  · have he' : s.ended = false := by simpa using he
    have H := Lib.hid h
    obtain ⟨hg, ⟨hk, hlen, _⟩, A, c, hb, hv, hrb⟩ := h
    have h2 : w.cell? ⟨g, 2, none⟩ = some (.bool s.ended) := hb.cell 2
    rw [he'] at h2
    obtain ⟨m, hm⟩ : ∃ m, 8 * s.xs.length - s.k = m := ⟨_, rfl⟩
    have HM : Hid (8 * s.xs.length = s.k + m) := by show 8 * s.xs.length = s.k + m; omega
    have hf : s.fin = if 8 ≤ m ∨ num (piece s.bits s.k m) ≠ 0 then 10 else 0 := by simp [BS.fin, he', hm]
    clear hg hb hv hrb hm he
    by_cases h8 : 8 ≤ m
    · rw [if_pos (Or.inl h8)] at hf
      have HF := Lib.hid hf
      have hd : decide ((8 : Int) ≤ (m : Int)) = true := by simp; omega
      clear hf
      go_enter Tryz.func51, Tryz.ntmps51
      go_wp2_with fail
      refine (left g s base m _ H.out HM.out).mono ?_
      rintro e w2 ⟨rfl, nd, rfl⟩
      go_wp2
      go_ret
      exact ⟨by rw [HF.out]; rfl, _, rfl⟩
    · have hd : decide ((8 : Int) ≤ (m : Int)) = false := by simp; omega
      obtain ⟨V, hV⟩ : ∃ V, num (piece s.bits s.k m) = V := ⟨_, rfl⟩
      have HV := Lib.hid hV
      rw [hV] at hf
      clear hV
      by_cases h0 : V = 0
      · subst h0
        rw [if_neg (by simp; omega)] at hf
        have HF := Lib.hid hf
        clear hf
        go_enter Tryz.func51, Tryz.ntmps51
        go_wp2_with fail
        refine (left g s base m _ H.out HM.out).mono ?_
        rintro e w2 ⟨rfl, nd, rfl⟩
        go_wp2_with fail
        refine (left g s base m _ (H.out.drewN _) HM.out).mono ?_
        rintro e w2 ⟨rfl, nd2, rfl⟩
        go_wp2_with fail
        refine (look_n g s base m 0 _ (H.out.drewN _) (by have := HM.out; omega) (by omega) HV.out).mono ?_
        rintro e w2 ⟨rfl, nd3, rfl⟩
        go_wp2
        go_ret
        exact ⟨by rw [HF.out]; rfl, _, rfl⟩
      · rw [if_pos (Or.inr h0)] at hf
        have HF := Lib.hid hf
        have hd2 : ((V : Int) != 0) = true := by simp; omega
        clear hf
        go_enter Tryz.func51, Tryz.ntmps51
        go_wp2_with fail
        refine (left g s base m _ H.out HM.out).mono ?_
        rintro e w2 ⟨rfl, nd, rfl⟩
        go_wp2_with fail
        refine (left g s base m _ (H.out.drewN _) HM.out).mono ?_
        rintro e w2 ⟨rfl, nd2, rfl⟩
        go_wp2_with fail
        refine (look_n g s base m V _ (H.out.drewN _) (by have := HM.out; omega) (by omega) HV.out).mono ?_
        rintro e w2 ⟨rfl, nd3, rfl⟩
        go_wp2
        go_ret
        exact ⟨by rw [HF.out]; rfl, _, rfl⟩
end Go.Proofs.YtgaofnmgdefdcaaGreatDoor.Br

namespace Go.Proofs.YtgaofnmgdefdcaaGreatDoor.Le
open Go.RowKit Go.Proofs.YtgaofnmgdefdcaaGreatDoor.Gen Go.Proofs.YtgaofnmgdefdcaaGreatDoor.Mp Go.Proofs.YtgaofnmgdefdcaaGreatDoor.Cm Go.Proofs.YtgaofnmgdefdcaaGreatDoor.Hr Go.Proofs.YtgaofnmgdefdcaaGreatDoor.Hn Go.Proofs.YtgaofnmgdefdcaaGreatDoor.Hk Go.Proofs.YtgaofnmgdefdcaaGreatDoor.Ln Go.Proofs.YtgaofnmgdefdcaaGreatDoor.Ds Go.Proofs.YtgaofnmgdefdcaaGreatDoor.Wr Go.Proofs.YtgaofnmgdefdcaaGreatDoor.Ir Go.Proofs.YtgaofnmgdefdcaaGreatDoor.Br Go.Proofs.YtgaofnmgdefdcaaGreatDoor.Qh Go.Proofs.YtgaofnmgdefdcaaGreatDoor.Qs

/-- Blocks' Readers, by their numbers. -/
abbrev Rs := Nat → Option RS
def ru (G : Rs) (i : Nat) (r : RS) : Rs := fun j => if j = i then some r else G j
/-- Labels: 0 the Lens, 1 the row's Reader, 2 the map, 3 codes, 4 + i the Reader of block i. -/
structure Ln (o : Nat → Option Nat) (B g : Nat) (s : BS) (G : Rs) (N : Nat) (e : Int) (br bb mb : Nat) (mc : Value) (P : Nat → Nat × Nat) (w : World) : Prop where
  lt : ∀ k l, o k = some l → B ≤ k ∧ k < w.heap.size
  blk : Blk w g 107 #[.pointer (some ⟨br, 0, none⟩), .map (some mb), mc, .int .i64 e]
  og : o g = some 0
  row : IsBr bb br s w
  orow : ∀ k, bb ≤ k → k ≤ br → o k = some 1
  map : IsF Tryz.prog 3 60001 ikl w mb (fun i => (G i).map fun _ => rd (P i).2)
  omap : o mb = some 2
  rds : ∀ i r, G i = some r → i < 60001 ∧ IsRd (P i).1 (P i).2 r w ∧ ∀ k, (P i).1 ≤ k → k ≤ (P i).2 → o k = some (4 + i)
  kept : Kept (fun k => o k = some 3) N mc w
def Lens (o : Nat → Option Nat) (B g : Nat) (s : BS) (G : Rs) (N : Nat) (e : Int) (w : World) : Prop := ∃ br bb mb mc P, Ln o B g s G N e br bb mb mc P w
/-- The blocks that have a label. -/
abbrev Ft (o : Nat → Option Nat) (k : Nat) : Prop := o k ≠ none
section
variable {o : Nat → Option Nat} {B g N N' br bb mb i : Nat} {s s' : BS} {G : Rs} {e : Int} {mc mc' : Value} {P : Nat → Nat × Nat} {w w1 : World} {S Fc' : Nat → Prop} {r r' : RS}
theorem br_le (h : IsBr bb br s w) : bb ≤ br := h.1
theorem rd_le {b g' : Nat} (h : IsRd b g' r w) : b ≤ g' := h.1
theorem Ln.keeps (h : Ln o B g s G N e br bb mb mc P w) (k : Keeps S w w1) (hn : ∀ k, Ft o k → ¬ S k) : Ln o B g s G N e br bb mb mc P w1 where
  lt := fun x l hx => ⟨(h.lt x l hx).1, Nat.lt_of_lt_of_le (h.lt x l hx).2 k.size⟩
  blk := h.blk.keeps k (hn g (by rw [Ft, h.og]; simp))
  og := h.og
  row := h.row.low k fun b h1 h2 => hn b (by rw [Ft, h.orow b h1 h2]; simp)
  orow := h.orow
  map := h.map.keeps k (hn mb (by rw [Ft, h.omap]; simp))
  omap := h.omap
  rds := fun i r hr => ⟨(h.rds i r hr).1, (h.rds i r hr).2.1.low k fun b h1 h2 => hn b (by rw [Ft, (h.rds i r hr).2.2 b h1 h2]; simp), (h.rds i r hr).2.2⟩
  kept := h.kept.keeps k fun b hb => hn b (by rw [Ft, hb]; simp)
theorem Lens.keeps (h : Lens o B g s G N e w) (k : Keeps S w w1) (hn : ∀ k, Ft o k → ¬ S k) : Lens o B g s G N e w1 := by
  obtain ⟨br, bb, mb, mc, P, h⟩ := h
  exact ⟨br, bb, mb, mc, P, h.keeps k hn⟩
theorem Lens.more (h : Lens o B g s G N e w) (k : Keeps (fun _ => False) w w1) : Lens o B g s G N e w1 := h.keeps k fun _ _ => id
theorem Lens.lt (h : Lens o B g s G N e w) : ∀ k, Ft o k → B ≤ k ∧ k < w.heap.size := by
  obtain ⟨br, bb, mb, mc, P, h⟩ := h
  intro k hk
  obtain ⟨l, hl⟩ := Option.ne_none_iff_exists'.1 hk
  exact h.lt k l hl
theorem Ln.le (h : Ln o B g s G N e br bb mb mc P w) (hN : N ≤ N') : Ln o B g s G N' e br bb mb mc P w := ⟨h.lt, h.blk, h.og, h.row, h.orow, h.map, h.omap, h.rds, h.kept.le hN⟩
theorem Kept.mono {F F' : Nat → Prop} (h : Kept F N mc w) (hF : ∀ k, F k → F' k) (hl : ∀ k, F' k → k < w.heap.size) : Kept F' N mc w := by
  refine ⟨hl, ?_⟩
  rcases h.2 with h2 | ⟨b, m, C, h2, h3⟩
  · exact .inl h2
  · exact .inr ⟨b, m, C, h2, hF b h3.inF, h3.out, fun k hk => hF k (h3.sub k hk), h3.len, h3.map, h3.all⟩
/-- The row's Reader has turned. -/
theorem Ln.row' (h : Ln o B g s G N e br bb mb mc P w) (hr : IsBr bb br s' w1) (k : Keeps (· = br) w w1) : Ln o B g s' G N e br bb mb mc P w1 := by
  have ob := h.orow br (br_le h.row) (Nat.le_refl _)
  have hne : ∀ x l, o x = some l → l ≠ 1 → x ≠ br := fun x l hx hl e => by
    rw [e, ob] at hx
    injection hx with hx
    exact hl hx.symm
  exact ⟨fun x l hx => ⟨(h.lt x l hx).1, Nat.lt_of_lt_of_le (h.lt x l hx).2 k.size⟩, h.blk.keeps k (hne g 0 h.og (by omega)), h.og, hr, h.orow, h.map.keeps k (hne mb 2 h.omap (by omega)), h.omap,
    fun i r hr => ⟨(h.rds i r hr).1, (h.rds i r hr).2.1.low k fun b h1 h2 => hne b (4 + i) ((h.rds i r hr).2.2 b h1 h2) (by omega), (h.rds i r hr).2.2⟩, h.kept.keeps k fun b hb => hne b 3 hb (by omega)⟩
/-- A block's Reader has turned. -/
theorem Ln.rd' (h : Ln o B g s G N e br bb mb mc P w) (hG : G i = some r) (hr : IsRd (P i).1 (P i).2 r' w1) (k : Keeps (· = (P i).2) w w1) : Ln o B g s (ru G i r') N e br bb mb mc P w1 := by
  obtain ⟨hi, hrd, hall⟩ := h.rds i r hG
  have ob := hall (P i).2 (rd_le hrd) (Nat.le_refl _)
  have hne : ∀ x l, o x = some l → l ≠ 4 + i → x ≠ (P i).2 := fun x l hx hl e => by
    rw [e, ob] at hx
    injection hx with hx
    exact hl hx.symm
  refine ⟨fun x l hx => ⟨(h.lt x l hx).1, Nat.lt_of_lt_of_le (h.lt x l hx).2 k.size⟩, h.blk.keeps k (hne g 0 h.og (by omega)), h.og, h.row.low k fun b h1 h2 => hne b 1 (h.orow b h1 h2) (by omega), h.orow,
    (h.map.keeps k (hne mb 2 h.omap (by omega))).congr fun j _ => ?_, h.omap, fun j r2 h2 => ?_, h.kept.keeps k fun b hb => hne b 3 hb (by omega)⟩
  · unfold ru
    by_cases hj : j = i
    · subst hj
      rw [if_pos rfl, hG]
      rfl
    · rw [if_neg hj]
  · unfold ru at h2
    by_cases hj : j = i
    · subst hj
      rw [if_pos rfl] at h2
      injection h2 with h2
      subst h2
      exact ⟨hi, hr, hall⟩
    · rw [if_neg hj] at h2
      obtain ⟨a1, a2, a3⟩ := h.rds j r2 h2
      exact ⟨a1, a2.low k fun b h1 h2 => hne b (4 + j) (a3 b h1 h2) (by omega), a3⟩
/-- The Lens's own cells have turned: its codes' map, its error. -/
theorem Ln.own' {e' : Int} (h : Ln o B g s G N e br bb mb mc P w) (k : Keeps (· = g) w w1) (hb : Blk w1 g 107 #[.pointer (some ⟨br, 0, none⟩), .map (some mb), mc, .int .i64 e']) : Ln o B g s G N e' br bb mb mc P w1 := by
  have hne : ∀ x l, o x = some l → l ≠ 0 → x ≠ g := fun x l hx hl e => by
    rw [e, h.og] at hx
    injection hx with hx
    exact hl hx.symm
  exact ⟨fun x l hx => ⟨(h.lt x l hx).1, Nat.lt_of_lt_of_le (h.lt x l hx).2 k.size⟩, hb, h.og, h.row.low k fun b h1 h2 => hne b 1 (h.orow b h1 h2) (by omega), h.orow, h.map.keeps k (hne mb 2 h.omap (by omega)), h.omap,
    fun i r hr => ⟨(h.rds i r hr).1, (h.rds i r hr).2.1.low k fun b h1 h2 => hne b (4 + i) ((h.rds i r hr).2.2 b h1 h2) (by omega), (h.rds i r hr).2.2⟩, h.kept.keeps k fun b hb => hne b 3 hb (by omega)⟩
/-- Codes have been kept. -/
theorem Ln.kept' (h : Ln o B g s G N e br bb mb mc P w) (hB : B ≤ w.heap.size) (hb : Blk w1 g 107 #[.pointer (some ⟨br, 0, none⟩), .map (some mb), mc', .int .i64 e]) (hg : ¬ Fc' g) (hk : Kept Fc' N' mc' w1)
    (hs : Step (fun k => k = g ∨ o k = some 3) (fun k => k = g ∨ Fc' k) w w1) :
    ∃ o', Ln o' B g s G N' e br bb mb mc' P w1 ∧ Step (Ft o) (Ft o') w w1 ∧ ∀ k, Fc' k → o' k = some 3 := by
  classical
  have hsub : ∀ k, Fc' k → o k = some 3 ∨ (w.heap.size ≤ k ∧ o k = none) := fun k hk => by
    rcases hs.sub k (.inr hk) with (rfl | h1) | h1
    · exact absurd hk hg
    · exact .inl h1
    · refine .inr ⟨h1, ?_⟩
      cases ho : o k with
      | none => rfl
      | some l =>
        have := (h.lt k l ho).2
        omega
  have hno : ∀ k l, o k = some l → l ≠ 3 → ¬ Fc' k := fun k l hk hl hF => by
    rcases hsub k hF with h1 | ⟨_, h1⟩
    · rw [h1] at hk
      injection hk with hk
      exact hl hk.symm
    · rw [h1] at hk
      cases hk
  have hne : ∀ x l, o x = some l → l ≠ 0 → l ≠ 3 → ¬ (x = g ∨ o x = some 3) := fun x l hx h0 h3 hor => by
    rcases hor with e | e
    · rw [e, h.og] at hx
      injection hx with hx
      exact h0 hx.symm
    · rw [e] at hx
      injection hx with hx
      exact h3 hx.symm
  have k := hs.keeps
  have hold : ∀ x l, o x = some l → l ≠ 3 → (if Fc' x then some 3 else o x) = some l := fun x l hx hl => by rw [if_neg (hno x l hx hl)]; exact hx
  refine ⟨fun k => if Fc' k then some 3 else o k, ⟨fun x l hx => ?_, hb, hold g 0 h.og (by omega), h.row.low k fun b h1 h2 => hne b 1 (h.orow b h1 h2) (by omega) (by omega), fun b h1 h2 => hold b 1 (h.orow b h1 h2) (by omega), h.map.keeps k (hne mb 2 h.omap (by omega) (by omega)), hold mb 2 h.omap (by omega),
    fun i r hr => ⟨(h.rds i r hr).1, (h.rds i r hr).2.1.low k fun b h1 h2 => hne b (4 + i) ((h.rds i r hr).2.2 b h1 h2) (by omega) (by omega), fun b h1 h2 => hold b (4 + i) ((h.rds i r hr).2.2 b h1 h2) (by omega)⟩, ?_⟩, ⟨k.mono fun x _ hx => ?_, fun x hx => ?_⟩, fun x hx => if_pos hx⟩
  · split at hx
    · rename_i hF
      refine ⟨?_, hk.1 x hF⟩
      rcases hsub x hF with h1 | ⟨h1, _⟩
      · exact (h.lt x 3 h1).1
      · exact Nat.le_trans hB h1
    · exact ⟨(h.lt x l hx).1, Nat.lt_of_lt_of_le (h.lt x l hx).2 k.size⟩
  · refine Kept.mono hk (fun x hx => by simp [hx]) fun x hx => ?_
    split at hx
    · rename_i hF
      exact hk.1 x hF
    · exact Nat.lt_of_lt_of_le (h.lt x 3 hx).2 k.size
  · rcases hx with rfl | hx
    · rw [Ft, h.og]
      simp
    · rw [Ft, hx]
      simp
  · simp only [Ft] at hx ⊢
    split at hx
    · rename_i hF
      rcases hsub x hF with h1 | ⟨h1, _⟩
      · exact .inl (by rw [h1]; simp)
      · exact .inr h1
    · exact .inl hx
end
end Go.Proofs.YtgaofnmgdefdcaaGreatDoor.Le
