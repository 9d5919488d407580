/- What bits' Reader does, call by call: the bits that it takes, whether it has ended; only its own block turns, and new memory is made; a nil one has ended. -/
/- What a Lens keeps: the row's Reader, blocks' Readers, codes, an error; each lies in blocks of its own, told by labels. Names no function of the program. -/
/- A code's numbers, asked by word: numberOf, Take: the number whose word the next bits are; where there is none the Reader has ended. -/
import Derived.Test.YtgaofnmgdefdcaaGreatDoorJJHufLiteCloneJQlHdChMp
import Derived.Deep.RegionHeld3
import Derived.Test.YtgaofnmgdefdcaaGreatDoorJJItfWrDsPlJBitWQQlSt
import Derived.Test.YtgaofnmgdefdcaaGreatDoorItfRd
import Derived.Test.YtgaofnmgdefdcaaGreatDoorJQlWayJQlWayHufUse
import Derived.Deep.RegionWith


namespace Go.Proofs.YtgaofnmgdefdcaaGreatDoor.Br
open Go.RowKit Go.Proofs.YtgaofnmgdefdcaaGreatDoor.Gen Go.Proofs.YtgaofnmgdefdcaaGreatDoor.Cl Go.Proofs.YtgaofnmgdefdcaaGreatDoor.Bp Go.Proofs.YtgaofnmgdefdcaaGreatDoor.Bf

theorem size_u8 (w : World) : (sizeOf 5).run Tryz.prog w = .ok 1 w := by
  obtain ⟨i0, hi0, hz0, hz1, hz2⟩ := info_parts u8_info
  simp [sizeOf, typeInfo, hi0, hz1]
/-- A Reader as plain data: its bytes, how many bits were taken, has it ended? -/
structure BS where
  xs : List Int
  k : Nat
  ended : Bool
/-- All its bits; how many are left. -/
def BS.bits (s : BS) : List Nat := ofB (s.xs.map Int.toNat)
def BS.ok (s : BS) : Prop := s.k ≤ 8 * s.xs.length ∧ s.xs.length ≤ 1000000 ∧ ∀ x ∈ s.xs, 0 ≤ x ∧ x < 256
theorem BS.len (s : BS) : s.bits.length = 8 * s.xs.length := by simp [BS.bits, ofB_len]
/-- In memory: block g is a Reader, and its bytes lie in a row of its own, below it; both from block base on. -/
def IsBr (base g : Nat) (s : BS) (w : World) : Prop :=
  base ≤ g ∧ s.ok ∧ ∃ A c, Blk w g 138 #[.slice A s.xs.length c, .int .i64 s.k, .bool s.ended] ∧ w.ownsRow base 5 1 (.slice A s.xs.length c) s.xs.length (bv s.xs) ∧ ∀ b, (Value.slice A s.xs.length c).ownBlock = some b → b < g
theorem IsBr.low {S : Nat → Prop} {base g : Nat} {s : BS} {w w1 : World} (h : IsBr base g s w) (k : Keeps S w w1) (hn : ∀ b, base ≤ b → b ≤ g → ¬ S b) : IsBr base g s w1 := by
  obtain ⟨hg, ho, A, c, hb, hv, hrb⟩ := h
  exact ⟨hg, ho, A, c, hb.keeps k (hn g hg (Nat.le_refl _)), own_keeps hv k (fun b hb' => hn b ((hv.lt b hb').1) (Nat.le_of_lt (hrb b hb'))), hrb⟩
theorem IsBr.keeps {S : Nat → Prop} {base g : Nat} {s : BS} {w w1 : World} (h : IsBr base g s w) (k : Keeps S w w1) (hn : ∀ b, base ≤ b → ¬ S b) : IsBr base g s w1 := h.low k fun b hb _ => hn b hb
theorem IsBr.lt {base g : Nat} {s : BS} {w : World} (h : IsBr base g s w) : g < w.heap.size := by
  obtain ⟨_, _, A, c, hb, _⟩ := h
  exact hb.lt
theorem IsBr.drewN {base g : Nat} {s : BS} {w : World} (h : IsBr base g s w) (n : Nat) : IsBr base g s (w.drewN n) := h.keeps (S := fun _ => False) ((Keeps.refl _ _).drewN n) fun _ _ => id
theorem IsBr.setEnded {base g : Nat} {s : BS} {w : World} (h : IsBr base g s w) (e : Bool) : IsBr base g { s with ended := e } (w.setCell ⟨g, 2, none⟩ (.bool e)) := by
  obtain ⟨hg, ho, A, c, hb, hv, hrb⟩ := h
  refine ⟨hg, ho, A, c, by simpa using hb.setCell 2 (.bool e), own_keeps (S := (· = g)) hv ((Keeps.refl _ _).setOwn _ _) (fun b hb' e => ?_), hrb⟩
  subst e
  exact own_ne hv hb (by decide) hb'
theorem IsBr.setAt {base g : Nat} {s : BS} {w : World} (h : IsBr base g s w) (k : Nat) (hk : k ≤ 8 * s.xs.length) : IsBr base g { s with k := k } (w.setCell ⟨g, 1, none⟩ (.int .i64 k)) := by
  obtain ⟨hg, ho, A, c, hb, hv, hrb⟩ := h
  refine ⟨hg, ⟨hk, ho.2⟩, A, c, by simpa using hb.setCell 1 (.int .i64 k), own_keeps (S := (· = g)) hv ((Keeps.refl _ _).setOwn _ _) (fun b hb' e => ?_), hrb⟩
  subst e
  exact own_ne hv hb (by decide) hb'
/-- A new Reader. -/
def NewBr (base : Nat) (xs : List Int) (w : World) (r : Ending) (w' : World) : Prop :=
  ∃ g, r = .returned (.pointer (some ⟨g, 0, none⟩)) ∧ IsBr base g ⟨xs, 0, false⟩ w' ∧ Keeps (fun _ => False) w w'
theorem read_n (A : Option Addr) (n c : Nat) (xs : List Int) (w : World) (hx : xs.length = n) (hl : Lies w A xs) (hn : n ≤ 1000000) (hb : ∀ x ∈ xs, 0 ≤ x ∧ x < 256) :
    Calls Tryz.prog 47 #[.slice A n c] w (NewBr w.heap.size xs w) := by
  subst hx
  have H := Lib.hid hb
  clear hb
  go_enter Tryz.func47, Tryz.ntmps47
  go_wp2_with fail
  refine (clone A c xs w hl (Nat.le_trans hn (by decide))).mono ?_
  rintro e w1 ⟨A1, c1, rfl, hv, hk⟩
  go_wp2
  go_ret
  exact ⟨w1.heap.size, rfl, ⟨hk.size, ⟨Nat.zero_le _, hn, H.out⟩, A1, c1, Blk.new _ _ _, hv.alloc _, fun b hb => (hv.lt b hb).2⟩, hk.alloc _⟩
theorem ended_none (w : World) : Calls Tryz.prog 99 #[.pointer none] w fun r w' => r = .returned (.bool true) ∧ w' = w := by
  go_enter Tryz.func99, Tryz.ntmps99
  go_wp2
  go_ret
  exact ⟨rfl, rfl⟩
theorem ended (g : Nat) (s : BS) (base : Nat) (w : World) (h : IsBr base g s w) : Calls Tryz.prog 99 #[.pointer (some ⟨g, 0, none⟩)] w fun r w' => r = .returned (.bool s.ended) ∧ w' = w := by
  obtain ⟨hg, ho, A, c, hb, hv, hrb⟩ := h
  have h2 : w.cell? ⟨g, 2, none⟩ = some (.bool s.ended) := hb.cell 2
  clear hg ho hb hv hrb
  go_enter Tryz.func99, Tryz.ntmps99
  go_wp2
  go_ret
  exact ⟨rfl, rfl⟩
theorem ended_q (g : Nat) (s : BS) (e : Bool) (base : Nat) (w : World) (h : IsBr base g s w) (he : s.ended = e) : Calls Tryz.prog 99 #[.pointer (some ⟨g, 0, none⟩)] w fun r w' => r = .returned (.bool e) ∧ w' = w := by
  subst he
  exact ended g s base w h
/-- Behind a call that turns the Reader in block g alone: it answers v, and is s. -/
def Turns (base g : Nat) (v : Value) (s : BS) (w : World) (r : Ending) (w' : World) : Prop :=
  r = .returned v ∧ IsBr base g s w' ∧ Keeps (· = g) w w'
theorem fail_none (w : World) : Calls Tryz.prog 54 #[.pointer none] w fun r w' => r = .returned (.tuple #[]) ∧ w' = w := by
  go_enter Tryz.func54, Tryz.ntmps54
  go_wp2
  go_end0
  exact ⟨rfl, rfl⟩
theorem fail (g : Nat) (s : BS) (base : Nat) (w : World) (h : IsBr base g s w) : Calls Tryz.prog 54 #[.pointer (some ⟨g, 0, none⟩)] w (Turns base g (.tuple #[]) { s with ended := true } w) := by
  have H := Lib.hid h
  obtain ⟨hg, ho, A, c, hb, hv, hrb⟩ := h
  have h2 : w.cell? ⟨g, 2, none⟩ = some (.bool s.ended) := hb.cell 2
  have h3 : w.frozen? ⟨g, 2, none⟩ = false := hb.frozen 2
  clear hg ho hb hv hrb
  go_enter Tryz.func54, Tryz.ntmps54
  go_wp2
  go_end0
  exact ⟨rfl, H.out.setEnded true, (Keeps.refl _ _).setOwn _ _⟩
theorem left (g : Nat) (s : BS) (base : Nat) (m : Nat) (w : World) (h : IsBr base g s w) (hm : 8 * s.xs.length = s.k + m) : Calls Tryz.prog 77 #[.pointer (some ⟨g, 0, none⟩)] w fun r w' => r = .returned (.int .i64 m) ∧ ∃ n, w' = w.drewN n := by
  obtain ⟨hg, ho, A, c, hb, hv, hrb⟩ := h
  have h0 : w.cell? ⟨g, 0, none⟩ = some (.slice A s.xs.length c) := hb.cell 0
  have h1 : w.cell? ⟨g, 1, none⟩ = some (.int .i64 s.k) := hb.cell 1
  obtain ⟨ho1, ho2, _⟩ := ho
  clear hg hb hv hrb
  have hq : 8 * (s.xs.length : Int) - (s.k : Int) = (m : Int) := by omega
  have HQ := Lib.hid hq
  clear hq hm
  go_enter Tryz.func77, Tryz.ntmps77
  go_wp2
  go_quiet (fail)
  go_wp2
  go_ret
  exact ⟨by rw [← HQ.out]; rfl, _, rfl⟩
theorem look (g : Nat) (s : BS) (base : Nat) (m : Nat) (w : World) (h : IsBr base g s w) (hm : s.k + m ≤ 8 * s.xs.length) (h32 : m ≤ 32) :
    Calls Tryz.prog 78 #[.pointer (some ⟨g, 0, none⟩), .int .i64 m] w fun r w' => r = .returned (.int .u32 ((num (piece s.bits s.k m) : Nat) : Int)) ∧ ∃ n, w' = w.drewN n := by
  obtain ⟨hg, ⟨ho1, ho2, hbt⟩, A, c, hb, hv, hrb⟩ := h
  have h0 : w.cell? ⟨g, 0, none⟩ = some (.slice A s.xs.length c) := hb.cell 0
  have h1 : w.cell? ⟨g, 1, none⟩ = some (.int .i64 s.k) := hb.cell 1
  clear hg hb hrb
  obtain ⟨q, j, hkq, hj8⟩ : ∃ q j, s.k = 8 * q + j ∧ j < 8 := ⟨s.k / 8, s.k % 8, by omega, by omega⟩
  obtain ⟨p, hp⟩ : ∃ p, (s.k + m + 7) / 8 = q + p := ⟨(s.k + m + 7) / 8 - q, by omega⟩
  have hq : (s.k : Int) / 8 = (q : Int) := by omega
  have hbe : ((s.k : Int) + (m : Int) + 8 - 1) / 8 = (q : Int) + (p : Int) := by omega
  have hp5 : p ≤ 5 := by omega
  have hqp : q + p ≤ s.xs.length := by omega
  have hfit : j + m ≤ 8 * p ∧ 8 * p < j + m + 8 := by omega
  have hc : s.xs.length ≤ c := by obtain ⟨_, _, hq, hle⟩ := own_form hv; injection hq with _ _ hq; omega
  have HLI := Lib.hid ((Lies.of_own hv).cutAt c q p hc hqp)
  have hsl := fun w => run_cut (P := Tryz.prog) 29 5 A s.xs.length c q p .i64 .i64 Tryz.underlying29 size_u8 (by omega) w
  obtain ⟨mid, hmid⟩ : ∃ mid, mid = (s.xs.drop q).take p := ⟨_, rfl⟩
  rw [← hmid] at HLI
  have HML : Hid (mid.length = p) := by
    show mid.length = p
    rw [hmid]
    simp
    omega
  have HMB : Hid (∀ x ∈ mid, 0 ≤ x ∧ x < 256) := fun x hx => hbt x (by rw [hmid] at hx; exact List.mem_of_mem_drop (List.mem_of_mem_take hx))
  have HPC : Hid (piece s.bits s.k m = piece (ofB (mid.map Int.toNat)) j m) := by
    show piece s.bits s.k m = piece (ofB (mid.map Int.toNat)) j m
    rw [hkq, BS.bits, piece_mid hfit.1, hmid, List.map_take, List.map_drop]
  have HFIT := Lib.hid hfit
  have HKQ := Lib.hid hkq
  have HHM := Lib.hid hm
  clear hmid hfit hkq hv hbt hp
  go_enter Tryz.func78, Tryz.ntmps78
  go_wp2
  rw [hbe]
  clear hbe
  go_quiet (fail)
  go_wp2
  generalize cutAt A c q = A2 at *
  clear hsl h0 h1 hq
  go_loop [7, 32] (fun n i => ∃ d : Nat, d ≤ p ∧ n = .int .u64 ((num (ofB ((mid.take d).map Int.toNat)) : Nat) : Int) ∧ i = .int .i64 d) (fun _ i => p - (intOf i).toNat)
  case atStart => exact ⟨0, Nat.zero_le _, by simp [ofB, num], rfl⟩
  case round =>
    obtain ⟨d, hd, rfl, rfl⟩ := hrel
    by_cases hlt : d < p
    · obtain ⟨b, o, x, rfl, hcell, hx, hN⟩ : ∃ b o x, A2 = some ⟨b, o, none⟩ ∧ w.cell? ⟨b, o + d, none⟩ = some (.int .u8 ((x : Nat) : Int)) ∧ x < 256 ∧ Hid (num (ofB ((mid.take (d + 1)).map Int.toNat)) = num (ofB ((mid.take d).map Int.toNat)) * 256 + x) := by
        have hml := HML.out
        rcases HLI.out with h | ⟨b, o, h, _, hcl⟩
        · rw [h] at hml; simp at hml; omega
        · have hy := HMB.out (mid.getD d 0) (by rw [List.getD_eq_getElem?_getD, List.getElem?_eq_getElem (by omega)]; simp)
          refine ⟨b, o, (mid.getD d 0).toNat, h, ?_, by omega, ?_⟩
          · rw [show (((mid.getD d 0).toNat : Nat) : Int) = mid.getD d 0 by omega]
            exact hcl d (by omega)
          · show num (ofB ((mid.take (d + 1)).map Int.toNat)) = num (ofB ((mid.take d).map Int.toNat)) * 256 + (mid.getD d 0).toNat
            rw [List.take_add_one, List.getElem?_eq_getElem (by omega), List.map_append]
            simp only [Option.toList, List.map_cons, List.map_nil]
            rw [List.getD_eq_getElem?_getD, List.getElem?_eq_getElem (by omega)] at hy ⊢
            exact num_byte (by simp at hy ⊢; omega)
      have hlim : num (ofB ((mid.take d).map Int.toNat)) < 4294967296 := by
        have h1 := num_ofB_lt ((mid.take d).map Int.toNat)
        have h2 : 2 ^ (8 * ((mid.take d).map Int.toNat).length) ≤ 2 ^ 32 := Nat.pow_le_pow_right (by decide) (by simp; omega)
        omega
      obtain ⟨N, hNN⟩ : ∃ N, num (ofB ((mid.take d).map Int.toNat)) = N := ⟨_, rfl⟩
      rw [hNN] at hN hlim ⊢
      have hor := or_byte hlim hx
      clear hNN
      go_wp2
      go_round
      case rel => exact ⟨d + 1, by omega, by rw [hN.out]; rfl, by go_num⟩
      case measure => simp [intOf]; omega
    · obtain rfl : d = p := by omega
      have hml := HML.out
      rw [List.take_of_length_le (by omega)]
      have hlim : num (ofB (mid.map Int.toNat)) < 1099511627776 := by
        have h1 := num_ofB_lt (mid.map Int.toNat)
        have h2 : 2 ^ (8 * (mid.map Int.toNat).length) ≤ 2 ^ 40 := Nat.pow_le_pow_right (by decide) (by simp; omega)
        omega
      obtain ⟨r, hr⟩ : ∃ r, 8 * d = j + m + r := ⟨8 * d - (j + m), by have := HFIT.out; omega⟩
      have hr1 : 8 * ((q : Int) + (d : Int)) - ((s.k : Int) + (m : Int)) = (r : Int) := by have := HKQ.out; omega
      have hr8 : r < 8 := by have := HFIT.out; omega
      have HNP := Lib.hid (num_piece (l := ofB (mid.map Int.toNat)) (j := j) (s := m) (r := r) (ofB_bit _) (by rw [ofB_len]; simp; omega))
      rw [← HPC.out] at HNP
      obtain ⟨N, hNN⟩ : ∃ N, num (ofB (mid.map Int.toNat)) = N := ⟨_, rfl⟩
      rw [hNN] at HNP hlim ⊢
      obtain ⟨Z, hZ⟩ : ∃ Z, N / 2 ^ r = Z := ⟨_, rfl⟩
      rw [hZ] at HNP
      have hZ1 : (N : Int) / 2 ^ r = (Z : Int) := by rw [← hZ]; simp
      have hZ2 : Z < 1099511627776 := by have := Nat.div_le_self N (2 ^ r); omega
      clear hr hNN hZ hml
      go_wp2_with fail
      refine (lowest_q Z m _ _ (by omega) h32 HNP.out).mono ?_
      rintro e w2 ⟨rfl, rfl⟩
      go_wp2
      go_ret
      exact ⟨rfl, _, rfl⟩
theorem look_n (g : Nat) (s : BS) (base : Nat) (m : Nat) (v : Nat) (w : World) (h : IsBr base g s w) (hm : s.k + m ≤ 8 * s.xs.length) (h32 : m ≤ 32) (hv : num (piece s.bits s.k m) = v) :
    Calls Tryz.prog 78 #[.pointer (some ⟨g, 0, none⟩), .int .i64 m] w fun r w' => r = .returned (.int .u32 (v : Int)) ∧ ∃ n, w' = w.drewN n := by
  subst hv
  exact look g s base m w h hm h32
theorem take_none (z : Int) (w : World) : Calls Tryz.prog 98 #[.pointer none, .int .i64 z] w fun r w' => r = .returned (.int .u32 0) ∧ w' = w := by
  go_enter Tryz.func98, Tryz.ntmps98
  go_wp2_with fail
  refine (near z _).mono ?_
  rintro e w1 ⟨rfl, rfl⟩
  go_wp2_with fail
  refine (ended_none _).mono ?_
  rintro e w1 ⟨rfl, rfl⟩
  go_wp2_with fail
  refine (fail_none _).mono ?_
  rintro e w1 ⟨rfl, rfl⟩
  go_wp2
  go_ret
  exact ⟨rfl, rfl⟩
/-- What is taken, and the Reader behind it. -/
def BS.take (s : BS) (m : Nat) : Nat × BS := if s.ended = true ∨ 8 * s.xs.length < s.k + m then (0, { s with ended := true }) else (num (piece s.bits s.k m), { s with k := s.k + m })
theorem take (g : Nat) (s : BS) (base : Nat) (z : Int) (w : World) (h : IsBr base g s w) :
    Calls Tryz.prog 98 #[.pointer (some ⟨g, 0, none⟩), .int .i64 z] w (Turns base g (.int .u32 (((s.take (sz z)).1 : Nat) : Int)) (s.take (sz z)).2 w) := by
  have H := Lib.hid h
  have hz := sz_le z
  obtain ⟨hk, hlen, _⟩ := h.2.1
  clear h
  by_cases he : s.ended = true
  · have HT := Lib.hid (show s.take (sz z) = (0, { s with ended := true }) by simp [BS.take, he])
    go_enter Tryz.func98, Tryz.ntmps98
    go_wp2_with fail
    refine (near z _).mono ?_
    rintro e w1 ⟨rfl, rfl⟩
    go_wp2_with fail
    refine (ended g s base _ H.out).mono ?_
    rintro e w1 ⟨rfl, rfl⟩
    rw [he]
    go_wp2_with fail
    refine (fail g s base _ H.out).mono ?_
    rintro e w2 ⟨rfl, hr, hk⟩
    go_wp2
    go_ret
    rw [HT.out]
    exact ⟨rfl, hr, hk⟩
  · have he' : s.ended = false := by simpa using he
    obtain ⟨m, hm⟩ : ∃ m, 8 * s.xs.length = s.k + m := ⟨8 * s.xs.length - s.k, by omega⟩
    by_cases hlt : m < sz z
    · have HT := Lib.hid (show s.take (sz z) = (0, { s with ended := true }) by unfold BS.take; rw [if_pos (Or.inr (by omega))])
      go_enter Tryz.func98, Tryz.ntmps98
      go_wp2_with fail
      refine (near z _).mono ?_
      rintro e w1 ⟨rfl, rfl⟩
      generalize sz z = t at *
      have hd : decide ((m : Int) < (t : Int)) = true := by simp; omega
      have HM := Lib.hid hm
      clear hm he
      go_wp2_with fail
      refine (ended g s base _ H.out).mono ?_
      rintro e w1 ⟨rfl, rfl⟩
      rw [he']
      go_wp2_with fail
      refine (left g s base m _ H.out HM.out).mono ?_
      rintro e w2 ⟨rfl, nd, rfl⟩
      go_wp2_with fail
      refine (fail g s base _ (H.out.drewN _)).mono ?_
      rintro e w3 ⟨rfl, hr, hk⟩
      go_wp2
      go_ret
      rw [HT.out]
      exact ⟨rfl, hr, ((Keeps.refl _ _).drewN _).trans hk⟩
    · have HT := Lib.hid (show s.take (sz z) = (num (piece s.bits s.k (sz z)), { s with k := s.k + sz z }) by unfold BS.take; rw [if_neg (by simp [he']; omega)])
      go_enter Tryz.func98, Tryz.ntmps98
      go_wp2_with fail
      refine (near z _).mono ?_
      rintro e w1 ⟨rfl, rfl⟩
      generalize sz z = t at *
      have hd : decide ((m : Int) < (t : Int)) = false := by simp; omega
      have HM := Lib.hid hm
      have HTM : Hid (s.k + t ≤ 8 * s.xs.length) := by show s.k + t ≤ 8 * s.xs.length; omega
      obtain ⟨hg, ho, A, c, hb, hv, hrb⟩ := H.out
      have h1 : w1.cell? ⟨g, 1, none⟩ = some (.int .i64 s.k) := hb.cell 1
      have h3 : w1.frozen? ⟨g, 1, none⟩ = false := hb.frozen 1
      clear hm he hg ho hb hv hrb
      go_wp2_with fail
      refine (ended g s base _ H.out).mono ?_
      rintro e w1 ⟨rfl, rfl⟩
      rw [he']
      go_wp2_with fail
      refine (left g s base m _ H.out HM.out).mono ?_
      rintro e w2 ⟨rfl, nd, rfl⟩
      go_wp2_with fail
      refine (look_n g s base t _ _ (H.out.drewN _) HTM.out hz rfl).mono ?_
      rintro e w3 ⟨rfl, nd2, rfl⟩
      generalize num (piece s.bits s.k t) = V at *
      go_wp2
      go_ret
      rw [HT.out]
      exact ⟨rfl, by simpa using (H.out.drewN (nd + nd2)).setAt (s.k + t) HTM.out, ((Keeps.refl _ _).drewN _).setOwn _ _⟩
theorem take_q (g : Nat) (s s1 : BS) (base : Nat) (z V : Int) (t : Nat) (w : World) (h : IsBr base g s w) (ht : sz z = t) (hV : ((s.take t).1 : Int) = V) (hs : (s.take t).2 = s1) :
    Calls Tryz.prog 98 #[.pointer (some ⟨g, 0, none⟩), .int .i64 z] w (Turns base g (.int .u32 V) s1 w) := by
  subst ht
  subst hV
  subst hs
  exact take g s base z w h
theorem take_far {s : BS} {t : Nat} (h : s.ended = true ∨ 8 * s.xs.length < s.k + t) : s.take t = (0, { s with ended := true }) := by simp only [BS.take, if_pos h]
theorem take_near {s : BS} {t : Nat} (he : s.ended = false) (h : s.k + t ≤ 8 * s.xs.length) : s.take t = (num (piece s.bits s.k t), { s with k := s.k + t }) := by
  unfold BS.take
  rw [if_neg (by simp [he]; omega)]
theorem end_none (w : World) : Calls Tryz.prog 51 #[.pointer none] w fun r w' => r = .returned (.int .i64 1) ∧ w' = w := by
  go_enter Tryz.func51, Tryz.ntmps51
  go_wp2
  go_ret
  exact ⟨rfl, rfl⟩
/-- How it stands at the end. -/
def BS.fin (s : BS) : Int := if s.ended = true then 3 else if 8 ≤ 8 * s.xs.length - s.k ∨ num (piece s.bits s.k (8 * s.xs.length - s.k)) ≠ 0 then 10 else 0
theorem end_ended (g : Nat) (s : BS) (base : Nat) (w : World) (h : IsBr base g s w) (he : s.ended = true) : Calls Tryz.prog 51 #[.pointer (some ⟨g, 0, none⟩)] w fun r w' => r = .returned (.int .i64 3) ∧ w' = w := by
  obtain ⟨hg, ho, A, c, hb, hv, hrb⟩ := h
  have h2 : w.cell? ⟨g, 2, none⟩ = some (.bool s.ended) := hb.cell 2
  rw [he] at h2
  clear hg ho hb hv hrb
  go_enter Tryz.func51, Tryz.ntmps51
  go_wp2
  go_ret
  exact ⟨rfl, rfl⟩
theorem end_ (g : Nat) (s : BS) (base : Nat) (w : World) (h : IsBr base g s w) : Calls Tryz.prog 51 #[.pointer (some ⟨g, 0, none⟩)] w fun r w' => r = .returned (.int .i64 s.fin) ∧ ∃ n, w' = w.drewN n := by
  by_cases he : s.ended = true
  · exact (end_ended g s base w h he).mono fun r w' ⟨h1, h2⟩ => ⟨by rw [h1]; simp [BS.fin, he], 0, by rw [h2]; rfl⟩
  · have he' : s.ended = false := by simpa using he
    have H := Lib.hid h
    obtain ⟨hg, ⟨hk, hlen, _⟩, A, c, hb, hv, hrb⟩ := h
    have h2 : w.cell? ⟨g, 2, none⟩ = some (.bool s.ended) := hb.cell 2
    rw [he'] at h2
    obtain ⟨m, hm⟩ : ∃ m, 8 * s.xs.length - s.k = m := ⟨_, rfl⟩
    have HM : Hid (8 * s.xs.length = s.k + m) := by show 8 * s.xs.length = s.k + m; omega
    have hf : s.fin = if 8 ≤ m ∨ num (piece s.bits s.k m) ≠ 0 then 10 else 0 := by simp [BS.fin, he', hm]
    clear hg hb hv hrb hm he
    by_cases h8 : 8 ≤ m
    · rw [if_pos (Or.inl h8)] at hf
      have HF := Lib.hid hf
      have hd : decide ((8 : Int) ≤ (m : Int)) = true := by simp; omega
      clear hf
      go_enter Tryz.func51, Tryz.ntmps51
      go_wp2_with fail
      refine (left g s base m _ H.out HM.out).mono ?_
      rintro e w2 ⟨rfl, nd, rfl⟩
      go_wp2
      go_ret
      exact ⟨by rw [HF.out]; rfl, _, rfl⟩
    · have hd : decide ((8 : Int) ≤ (m : Int)) = false := by simp; omega
      obtain ⟨V, hV⟩ : ∃ V, num (piece s.bits s.k m) = V := ⟨_, rfl⟩
      have HV := Lib.hid hV
      rw [hV] at hf
      clear hV
      by_cases h0 : V = 0
      · subst h0
        rw [if_neg (by simp; omega)] at hf
        have HF := Lib.hid hf
        clear hf
        go_enter Tryz.func51, Tryz.ntmps51
        go_wp2_with fail
        refine (left g s base m _ H.out HM.out).mono ?_
        rintro e w2 ⟨rfl, nd, rfl⟩
        go_wp2_with fail
        refine (left g s base m _ (H.out.drewN _) HM.out).mono ?_
        rintro e w2 ⟨rfl, nd2, rfl⟩
        go_wp2_with fail
        refine (look_n g s base m 0 _ (H.out.drewN _) (by have := HM.out; omega) (by omega) HV.out).mono ?_
        rintro e w2 ⟨rfl, nd3, rfl⟩
        go_wp2
        go_ret
        exact ⟨by rw [HF.out]; rfl, _, rfl⟩
      · rw [if_pos (Or.inr h0)] at hf
        have HF := Lib.hid hf
        have hd2 : ((V : Int) != 0) = true := by simp; omega
        clear hf
        go_enter Tryz.func51, Tryz.ntmps51
        go_wp2_with fail
        refine (left g s base m _ H.out HM.out).mono ?_
        rintro e w2 ⟨rfl, nd, rfl⟩
        go_wp2_with fail
        refine (left g s base m _ (H.out.drewN _) HM.out).mono ?_
        rintro e w2 ⟨rfl, nd2, rfl⟩
        go_wp2_with fail
        refine (look_n g s base m V _ (H.out.drewN _) (by have := HM.out; omega) (by omega) HV.out).mono ?_
        rintro e w2 ⟨rfl, nd3, rfl⟩
        go_wp2
        go_ret
        exact ⟨by rw [HF.out]; rfl, _, rfl⟩
end Go.Proofs.YtgaofnmgdefdcaaGreatDoor.Br

namespace Go.Proofs.YtgaofnmgdefdcaaGreatDoor.Le
open Go.RowKit Go.Proofs.YtgaofnmgdefdcaaGreatDoor.Gen Go.Proofs.YtgaofnmgdefdcaaGreatDoor.Mp Go.Proofs.YtgaofnmgdefdcaaGreatDoor.Cm Go.Proofs.YtgaofnmgdefdcaaGreatDoor.Hr Go.Proofs.YtgaofnmgdefdcaaGreatDoor.Hn Go.Proofs.YtgaofnmgdefdcaaGreatDoor.Hk Go.Proofs.YtgaofnmgdefdcaaGreatDoor.Ln Go.Proofs.YtgaofnmgdefdcaaGreatDoor.Ds Go.Proofs.YtgaofnmgdefdcaaGreatDoor.Wr Go.Proofs.YtgaofnmgdefdcaaGreatDoor.Ir Go.Proofs.YtgaofnmgdefdcaaGreatDoor.Br Go.Proofs.YtgaofnmgdefdcaaGreatDoor.Qh Go.Proofs.YtgaofnmgdefdcaaGreatDoor.Qs

/-- Blocks' Readers, by their numbers. -/
abbrev Rs := Nat → Option RS
def ru (G : Rs) (i : Nat) (r : RS) : Rs := fun j => if j = i then some r else G j
/-- Labels: 0 the Lens, 1 the row's Reader, 2 the map, 3 codes, 4 + i the Reader of block i. -/
structure Ln (o : Nat → Option Nat) (B g : Nat) (s : BS) (G : Rs) (N : Nat) (e : Int) (br bb mb : Nat) (mc : Value) (P : Nat → Nat × Nat) (w : World) : Prop where
  lt : ∀ k l, o k = some l → B ≤ k ∧ k < w.heap.size
  blk : Blk w g 107 #[.pointer (some ⟨br, 0, none⟩), .map (some mb), mc, .int .i64 e]
  og : o g = some 0
  row : IsBr bb br s w
  orow : ∀ k, bb ≤ k → k ≤ br → o k = some 1
  map : IsF Tryz.prog 3 60001 ikl w mb (fun i => (G i).map fun _ => rd (P i).2)
  omap : o mb = some 2
  rds : ∀ i r, G i = some r → i < 60001 ∧ IsRd (P i).1 (P i).2 r w ∧ ∀ k, (P i).1 ≤ k → k ≤ (P i).2 → o k = some (4 + i)
  kept : Kept (fun k => o k = some 3) N mc w
def Lens (o : Nat → Option Nat) (B g : Nat) (s : BS) (G : Rs) (N : Nat) (e : Int) (w : World) : Prop := ∃ br bb mb mc P, Ln o B g s G N e br bb mb mc P w
/-- The blocks that have a label. -/
abbrev Ft (o : Nat → Option Nat) (k : Nat) : Prop := o k ≠ none
section
variable {o : Nat → Option Nat} {B g N N' br bb mb i : Nat} {s s' : BS} {G : Rs} {e : Int} {mc mc' : Value} {P : Nat → Nat × Nat} {w w1 : World} {S Fc' : Nat → Prop} {r r' : RS}
theorem br_le (h : IsBr bb br s w) : bb ≤ br := h.1
theorem rd_le {b g' : Nat} (h : IsRd b g' r w) : b ≤ g' := h.1
theorem Ln.keeps (h : Ln o B g s G N e br bb mb mc P w) (k : Keeps S w w1) (hn : ∀ k, Ft o k → ¬ S k) : Ln o B g s G N e br bb mb mc P w1 where
  lt := fun x l hx => ⟨(h.lt x l hx).1, Nat.lt_of_lt_of_le (h.lt x l hx).2 k.size⟩
  blk := h.blk.keeps k (hn g (by rw [Ft, h.og]; simp))
  og := h.og
  row := h.row.low k fun b h1 h2 => hn b (by rw [Ft, h.orow b h1 h2]; simp)
  orow := h.orow
  map := h.map.keeps k (hn mb (by rw [Ft, h.omap]; simp))
  omap := h.omap
  rds := fun i r hr => ⟨(h.rds i r hr).1, (h.rds i r hr).2.1.low k fun b h1 h2 => hn b (by rw [Ft, (h.rds i r hr).2.2 b h1 h2]; simp), (h.rds i r hr).2.2⟩
  kept := h.kept.keeps k fun b hb => hn b (by rw [Ft, hb]; simp)
theorem Lens.keeps (h : Lens o B g s G N e w) (k : Keeps S w w1) (hn : ∀ k, Ft o k → ¬ S k) : Lens o B g s G N e w1 := by
  obtain ⟨br, bb, mb, mc, P, h⟩ := h
  exact ⟨br, bb, mb, mc, P, h.keeps k hn⟩
theorem Lens.more (h : Lens o B g s G N e w) (k : Keeps (fun _ => False) w w1) : Lens o B g s G N e w1 := h.keeps k fun _ _ => id
theorem Lens.lt (h : Lens o B g s G N e w) : ∀ k, Ft o k → B ≤ k ∧ k < w.heap.size := by
  obtain ⟨br, bb, mb, mc, P, h⟩ := h
  intro k hk
  obtain ⟨l, hl⟩ := Option.ne_none_iff_exists'.1 hk
  exact h.lt k l hl
theorem Ln.le (h : Ln o B g s G N e br bb mb mc P w) (hN : N ≤ N') : Ln o B g s G N' e br bb mb mc P w := ⟨h.lt, h.blk, h.og, h.row, h.orow, h.map, h.omap, h.rds, h.kept.le hN⟩
theorem Kept.mono {F F' : Nat → Prop} (h : Kept F N mc w) (hF : ∀ k, F k → F' k) (hl : ∀ k, F' k → k < w.heap.size) : Kept F' N mc w := by
  refine ⟨hl, ?_⟩
  rcases h.2 with h2 | ⟨b, m, C, h2, h3⟩
  · exact .inl h2
  · exact .inr ⟨b, m, C, h2, hF b h3.inF, h3.out, fun k hk => hF k (h3.sub k hk), h3.len, h3.map, h3.all⟩
/-- The row's Reader has turned. -/
theorem Ln.row' (h : Ln o B g s G N e br bb mb mc P w) (hr : IsBr bb br s' w1) (k : Keeps (· = br) w w1) : Ln o B g s' G N e br bb mb mc P w1 := by
  have ob := h.orow br (br_le h.row) (Nat.le_refl _)
  have hne : ∀ x l, o x = some l → l ≠ 1 → x ≠ br := fun x l hx hl e => by
    rw [e, ob] at hx
    injection hx with hx
    exact hl hx.symm
  exact ⟨fun x l hx => ⟨(h.lt x l hx).1, Nat.lt_of_lt_of_le (h.lt x l hx).2 k.size⟩, h.blk.keeps k (hne g 0 h.og (by omega)), h.og, hr, h.orow, h.map.keeps k (hne mb 2 h.omap (by omega)), h.omap,
    fun i r hr => ⟨(h.rds i r hr).1, (h.rds i r hr).2.1.low k fun b h1 h2 => hne b (4 + i) ((h.rds i r hr).2.2 b h1 h2) (by omega), (h.rds i r hr).2.2⟩, h.kept.keeps k fun b hb => hne b 3 hb (by omega)⟩
/-- A block's Reader has turned. -/
theorem Ln.rd' (h : Ln o B g s G N e br bb mb mc P w) (hG : G i = some r) (hr : IsRd (P i).1 (P i).2 r' w1) (k : Keeps (· = (P i).2) w w1) : Ln o B g s (ru G i r') N e br bb mb mc P w1 := by
  obtain ⟨hi, hrd, hall⟩ := h.rds i r hG
  have ob := hall (P i).2 (rd_le hrd) (Nat.le_refl _)
  have hne : ∀ x l, o x = some l → l ≠ 4 + i → x ≠ (P i).2 := fun x l hx hl e => by
    rw [e, ob] at hx
    injection hx with hx
    exact hl hx.symm
  refine ⟨fun x l hx => ⟨(h.lt x l hx).1, Nat.lt_of_lt_of_le (h.lt x l hx).2 k.size⟩, h.blk.keeps k (hne g 0 h.og (by omega)), h.og, h.row.low k fun b h1 h2 => hne b 1 (h.orow b h1 h2) (by omega), h.orow,
    (h.map.keeps k (hne mb 2 h.omap (by omega))).congr fun j _ => ?_, h.omap, fun j r2 h2 => ?_, h.kept.keeps k fun b hb => hne b 3 hb (by omega)⟩
  · unfold ru
    by_cases hj : j = i
    · subst hj
      rw [if_pos rfl, hG]
      rfl
    · rw [if_neg hj]
  · unfold ru at h2
    by_cases hj : j = i
    · subst hj
      rw [if_pos rfl] at h2
      injection h2 with h2
      subst h2
      exact ⟨hi, hr, hall⟩
    · rw [if_neg hj] at h2
      obtain ⟨a1, a2, a3⟩ := h.rds j r2 h2
      exact ⟨a1, a2.low k fun b h1 h2 => hne b (4 + j) (a3 b h1 h2) (by omega), a3⟩
/-- The Lens's own cells have turned: its codes' map, its error. -/
theorem Ln.own' {e' : Int} (h : Ln o B g s G N e br bb mb mc P w) (k : Keeps (· = g) w w1) (hb : Blk w1 g 107 #[.pointer (some ⟨br, 0, none⟩), .map (some mb), mc, .int .i64 e']) : Ln o B g s G N e' br bb mb mc P w1 := by
  have hne : ∀ x l, o x = some l → l ≠ 0 → x ≠ g := fun x l hx hl e => by
    rw [e, h.og] at hx
    injection hx with hx
    exact hl hx.symm
  exact ⟨fun x l hx => ⟨(h.lt x l hx).1, Nat.lt_of_lt_of_le (h.lt x l hx).2 k.size⟩, hb, h.og, h.row.low k fun b h1 h2 => hne b 1 (h.orow b h1 h2) (by omega), h.orow, h.map.keeps k (hne mb 2 h.omap (by omega)), h.omap,
    fun i r hr => ⟨(h.rds i r hr).1, (h.rds i r hr).2.1.low k fun b h1 h2 => hne b (4 + i) ((h.rds i r hr).2.2 b h1 h2) (by omega), (h.rds i r hr).2.2⟩, h.kept.keeps k fun b hb => hne b 3 hb (by omega)⟩
/-- Codes have been kept. -/
theorem Ln.kept' (h : Ln o B g s G N e br bb mb mc P w) (hB : B ≤ w.heap.size) (hb : Blk w1 g 107 #[.pointer (some ⟨br, 0, none⟩), .map (some mb), mc', .int .i64 e]) (hg : ¬ Fc' g) (hk : Kept Fc' N' mc' w1)
    (hs : Step (fun k => k = g ∨ o k = some 3) (fun k => k = g ∨ Fc' k) w w1) :
    ∃ o', Ln o' B g s G N' e br bb mb mc' P w1 ∧ Step (Ft o) (Ft o') w w1 ∧ ∀ k, Fc' k → o' k = some 3 := by
  classical
  have hsub : ∀ k, Fc' k → o k = some 3 ∨ (w.heap.size ≤ k ∧ o k = none) := fun k hk => by
    rcases hs.sub k (.inr hk) with (rfl | h1) | h1
    · exact absurd hk hg
    · exact .inl h1
    · refine .inr ⟨h1, ?_⟩
      cases ho : o k with
      | none => rfl
      | some l =>
        have := (h.lt k l ho).2
        omega
  have hno : ∀ k l, o k = some l → l ≠ 3 → ¬ Fc' k := fun k l hk hl hF => by
    rcases hsub k hF with h1 | ⟨_, h1⟩
    · rw [h1] at hk
      injection hk with hk
      exact hl hk.symm
    · rw [h1] at hk
      cases hk
  have hne : ∀ x l, o x = some l → l ≠ 0 → l ≠ 3 → ¬ (x = g ∨ o x = some 3) := fun x l hx h0 h3 hor => by
    rcases hor with e | e
    · rw [e, h.og] at hx
      injection hx with hx
      exact h0 hx.symm
    · rw [e] at hx
      injection hx with hx
      exact h3 hx.symm
  have k := hs.keeps
  have hold : ∀ x l, o x = some l → l ≠ 3 → (if Fc' x then some 3 else o x) = some l := fun x l hx hl => by rw [if_neg (hno x l hx hl)]; exact hx
  refine ⟨fun k => if Fc' k then some 3 else o k, ⟨fun x l hx => ?_, hb, hold g 0 h.og (by omega), h.row.low k fun b h1 h2 => hne b 1 (h.orow b h1 h2) (by omega) (by omega), fun b h1 h2 => hold b 1 (h.orow b h1 h2) (by omega), h.map.keeps k (hne mb 2 h.omap (by omega) (by omega)), hold mb 2 h.omap (by omega),
    fun i r hr => ⟨(h.rds i r hr).1, (h.rds i r hr).2.1.low k fun b h1 h2 => hne b (4 + i) ((h.rds i r hr).2.2 b h1 h2) (by omega) (by omega), fun b h1 h2 => hold b (4 + i) ((h.rds i r hr).2.2 b h1 h2) (by omega)⟩, ?_⟩, ⟨k.mono fun x _ hx => ?_, fun x hx => ?_⟩, fun x hx => if_pos hx⟩
  · split at hx
    · rename_i hF
      refine ⟨?_, hk.1 x hF⟩
      rcases hsub x hF with h1 | ⟨h1, _⟩
      · exact (h.lt x 3 h1).1
      · exact Nat.le_trans hB h1
    · exact ⟨(h.lt x l hx).1, Nat.lt_of_lt_of_le (h.lt x l hx).2 k.size⟩
  · refine Kept.mono hk (fun x hx => by simp [hx]) fun x hx => ?_
    split at hx
    · rename_i hF
      exact hk.1 x hF
    · exact Nat.lt_of_lt_of_le (h.lt x 3 hx).2 k.size
  · rcases hx with rfl | hx
    · rw [Ft, h.og]
      simp
    · rw [Ft, hx]
      simp
  · simp only [Ft] at hx ⊢
    split at hx
    · rename_i hF
      rcases hsub x hF with h1 | ⟨h1, _⟩
      · exact .inl (by rw [h1]; simp)
      · exact .inr h1
    · exact .inl hx
end
end Go.Proofs.YtgaofnmgdefdcaaGreatDoor.Le

namespace Go.Proofs.YtgaofnmgdefdcaaGreatDoor.Hu
open Go.RowKit Go.Shelf Go.Sort Go.Proofs.YtgaofnmgdefdcaaGreatDoor.Gen Go.Proofs.YtgaofnmgdefdcaaGreatDoor.Mp Go.Proofs.YtgaofnmgdefdcaaGreatDoor.Hr Go.Proofs.YtgaofnmgdefdcaaGreatDoor.Hs Go.Proofs.YtgaofnmgdefdcaaGreatDoor.Hf Go.Proofs.YtgaofnmgdefdcaaGreatDoor.Hz Go.Proofs.YtgaofnmgdefdcaaGreatDoor.Ln Go.Proofs.YtgaofnmgdefdcaaGreatDoor.Hk Go.Proofs.YtgaofnmgdefdcaaGreatDoor.Bp Go.Proofs.YtgaofnmgdefdcaaGreatDoor.Br Go.Proofs.YtgaofnmgdefdcaaGreatDoor.Bf

/-- A code's blocks stay where other ones turn. -/
theorem code_keeps {S : Nat → Prop} {base p : Nat} {w w1 : World} {W : Ws} (h : IsCode base w p W) (k : Keeps S w w1) (hp : ∀ cs, Blk w p 149 cs → ¬ S p) (hm : ∀ k b m, IsM Tryz.prog k w b m → ¬ S b) : IsCode base w1 p W := by
  obtain ⟨bw, bn, h1, h2, h3, h4⟩ := h
  exact ⟨bw, bn, h1.keeps k (hp _ h1), h2.keeps k (hm _ _ _ h2), h3.keeps k (hm _ _ _ h3), h4⟩
theorem code_far {base p g : Nat} {t : TypeId} {cs : Array Value} {w w1 : World} {W : Ws} (h : IsCode base w p W) (hb : Blk w g t cs) (ht : 149 ≠ t) (k : Keeps (· = g) w w1) : IsCode base w1 p W :=
  code_keeps h k (fun _ h1 => Blk.ne h1 hb ht) (fun _ _ _ h1 => fun e => h1.ne_blk hb e.symm)
theorem br_blk {base g : Nat} {s : BS} {w : World} (h : IsBr base g s w) : ∃ cs, Blk w g 138 cs := by
  obtain ⟨_, _, A, c, hb, _⟩ := h
  exact ⟨_, hb⟩
/-- Whose word it is. -/
def whose (W : Ws) (b z : Nat) : Option Int := (W.find? fun t => t.2.2 == b && t.2.1 == z).map (·.1)
theorem whose_mem {W : Ws} {b z : Nat} {x : Int} (h : whose W b z = some x) : (x, z, b) ∈ W := by
  unfold whose at h
  rw [Option.map_eq_some_iff] at h
  obtain ⟨t, ht, rfl⟩ := h
  have h1 := List.find?_some ht
  simp only [Bool.and_eq_true, beq_iff_eq] at h1
  have h2 := List.mem_of_find?_eq_some ht
  obtain ⟨a, b', c⟩ := t
  simp only at h1
  obtain ⟨rfl, rfl⟩ := h1
  exact h2
theorem whose_none {W : Ws} {b z : Nat} (h : whose W b z = none) : ∀ t ∈ W, ¬ (t.2.2 = b ∧ t.2.1 = z) := by
  unfold whose at h
  rw [Option.map_eq_none_iff, List.find?_eq_none] at h
  intro t ht e
  exact h t ht (by simpa using e)
theorem zero_int' (w : World) : (zeroValue 3).run Tryz.prog w = .ok (.int .i64 0) w := by kernel_rfl
/-- All words are numbers of at most 20 bits. -/
def Fine (W : Ws) : Prop := ∀ t ∈ W, t.2.2 < 4294967296 ∧ t.2.1 ≤ 20
theorem look_num {w : World} {bn : Nat} {W : Ws} (h : IsM Tryz.prog 129 w bn (W.map nu)) (hW : Fine W) {b z : Nat} (hb : b < 4294967296) (hz : z ≤ 1000) :
    (Instr.lookup 147 (.map (some bn)) (.agg #[.int .u32 (b : Int), .int .i64 (z : Int)]) true).run Tryz.prog w = .ok (.tuple #[.int .i64 ((whose W b z).getD 0), .bool (whose W b z).isSome]) w := by
  have hl := IsM.look w h word_keyed Tryz.underlying147 (zero_int' w) (key := wv b z) (kl := wk b z) (word_key hb (by omega))
  cases hf : whose W b z with
  | some x => exact (hl.1 (.int .i64 x) (List.mem_map.2 ⟨(x, z, b), whose_mem hf, rfl⟩)).2
  | none =>
    refine (hl.2 ?_).2
    rw [keys_nu]
    intro hm
    rw [List.mem_map] at hm
    obtain ⟨t, ht, e⟩ := hm
    obtain ⟨h5, h6⟩ := hW t ht
    exact whose_none hf t ht (wk_inj h5 (by omega) hb (by omega) e)
theorem numOf_ (base p : Nat) (W : Ws) (b z : Nat) (w : World) (h : IsCode base w p W) (hW : Fine W) (hb : b < 4294967296) (hz : z ≤ 1000) :
    Calls Tryz.prog 118 #[.pointer (some ⟨p, 0, none⟩), .agg #[.int .u32 (b : Int), .int .i64 (z : Int)]] w fun r w' => r = .returned (.tuple #[.int .i64 ((whose W b z).getD 0), .bool (whose W b z).isSome]) ∧ Keeps (fun _ => False) w w' := by
  obtain ⟨bw, bn, h1, _, h2, _⟩ := h
  have hk := (Keeps.refl (fun _ => False) w).alloc (.cells #[.int .u32 (b : Int), .int .i64 (z : Int)] 129)
  have hlook := fun q => look_num ((h2.keeps hk id).keeps ((Keeps.refl (fun _ => False) _).drewN q) id) hW hb hz
  have hc : (w.alloc (.cells #[.int .u32 (b : Int), .int .i64 (z : Int)] 129)).cell? ⟨p, 1, none⟩ = some (.map (some bn)) := (h1.alloc _).cell 1
  have hB := Blk.new w 129 #[.int .u32 (b : Int), .int .i64 (z : Int)]
  have hc0 : (w.alloc (.cells #[.int .u32 (b : Int), .int .i64 (z : Int)] 129)).cell? ⟨w.heap.size, 0, none⟩ = some (.int .u32 (b : Int)) := hB.cell 0
  have hc1 : (w.alloc (.cells #[.int .u32 (b : Int), .int .i64 (z : Int)] 129)).cell? ⟨w.heap.size, 1, none⟩ = some (.int .i64 (z : Int)) := hB.cell 1
  have hne : p ≠ w.heap.size := by have := h1.lt; omega
  generalize (whose W b z).getD 0 = x at *
  generalize (whose W b z).isSome = ok at *
  have HK := Lib.hid hk
  clear h1 h2 hk hB
  go_enter Tryz.func118, Tryz.ntmps118
  go_upto_region 3 with fail
  generalize w.alloc (.cells #[.int .u32 (b : Int), .int .i64 (z : Int)] 129) = wa at *
  go_quiet (fail)
  go_wp2
  go_ret2
  exact ⟨rfl, HK.out.drewN _⟩
theorem numOf_none (u : Value) (w : World) : Calls Tryz.prog 118 #[.pointer none, .agg #[.int .u32 0, .int .i64 0]] w fun r w' => r = .returned (.tuple #[.int .i64 0, .bool false]) ∧ Keeps (fun _ => False) w w' := by
  go_enter Tryz.func118, Tryz.ntmps118
  go_wp2
  go_ret2
  exact ⟨rfl, (Keeps.refl _ _).alloc _⟩
/-- The next bits are a word's. -/
def NextIs (s : BS) (z v : Nat) : Prop := s.k + z ≤ 8 * s.xs.length ∧ num (piece s.bits s.k z) = v
/-- What Take answers: the number whose word the next bits are, the Reader behind it; or 0, and it has ended. -/
def TakeAns (W : Ws) (s : BS) (x : Int) (s' : BS) : Prop :=
  (∃ z v, (x, z, v) ∈ W ∧ s.ended = false ∧ NextIs s z v ∧ s' = { s with k := s.k + z }) ∨
  ((s.ended = true ∨ ∀ t ∈ W, ¬ NextIs s t.2.1 t.2.2) ∧ x = 0 ∧ ∃ k', s' = { s with k := k', ended := true })
theorem num_more {s : BS} {t : Nat} (h : s.k + (t + 1) ≤ 8 * s.xs.length) : num (piece s.bits s.k (t + 1)) = num (piece s.bits s.k t) * 2 + num (piece s.bits (s.k + t) 1) := by
  have e : piece s.bits s.k (t + 1) = piece s.bits s.k t ++ piece s.bits (s.k + t) 1 := by
    unfold piece
    rw [List.take_add, List.drop_drop]
  have hb : ∀ x ∈ piece s.bits (s.k + t) 1, x < 2 := piece_bit (ofB_bit _) _ _
  rw [e, num_app _ _ hb, piece_len (by rw [s.len]; omega)]
theorem num_bit {s : BS} {k : Nat} (h : k + 1 ≤ 8 * s.xs.length) : num (piece s.bits k 1) < 2 := by
  have := num_lt (l := piece s.bits k 1) (s := 1) (by rw [piece_len (by rw [s.len]; omega)]; omega) (piece_bit (ofB_bit _) _ _)
  simpa using this
theorem num_small {s : BS} {t : Nat} (h : s.k + t ≤ 8 * s.xs.length) (ht : t ≤ 21) : num (piece s.bits s.k t) < 2097152 := by
  have h1 := num_lt (l := piece s.bits s.k t) (s := t) (by rw [piece_len (by rw [s.len]; omega)]; omega) (piece_bit (ofB_bit _) _ _)
  have h2 : (2 : Nat) ^ t ≤ 2 ^ 21 := Nat.pow_le_pow_right (by omega) ht
  omega
/-- While bits are taken. -/
structure Tst (W : Ws) (s : BS) (t b : Nat) (s1 : BS) : Prop where
  ok : s.ended = false
  at_ : s1 = { s with k := s.k + t }
  lt : t ≤ 21
  fits : s.k + t ≤ 8 * s.xs.length
  val : num (piece s.bits s.k t) = b
  none_ : ∀ u, u < t → ∀ x ∈ W, ¬ (x.2.2 = num (piece s.bits s.k u) ∧ x.2.1 = u)
/-- Behind the end. -/
structure Tend (W : Ws) (s : BS) (s1 : BS) : Prop where
  none_ : s.ended = true ∨ ∀ t ∈ W, ¬ NextIs s t.2.1 t.2.2
  at_ : ∃ k', s1 = { s with k := k', ended := true }
theorem Tst.hit {W : Ws} {s s1 : BS} {t b : Nat} {x : Int} (h : Tst W s t b s1) (hx : (x, t, b) ∈ W) : TakeAns W s x s1 :=
  .inl ⟨t, b, hx, h.ok, ⟨h.fits, h.val⟩, h.at_⟩
theorem Tst.more {W : Ws} {s s1 : BS} {t b : Nat} (h : Tst W s t b s1) (hm : whose W b t = none) (ht : t ≤ 20) (hf : s.k + (t + 1) ≤ 8 * s.xs.length) : (s1.take 1).2 = { s with k := s.k + (t + 1) } ∧ Tst W s (t + 1) (b * 2 + (s1.take 1).1) { s with k := s.k + (t + 1) } ∧ (s1.take 1).1 < 2 := by
  have e1 : s1.ended = false := by rw [h.at_]; exact h.ok
  have e2 : s1.k = s.k + t := by rw [h.at_]
  have e3 : s1.xs = s.xs := by rw [h.at_]
  have e4 : s1.bits = s.bits := by unfold BS.bits; rw [e3]
  have hn := take_near (s := s1) (t := 1) e1 (by rw [e2, e3]; omega)
  rw [hn]
  simp only
  refine ⟨by rw [h.at_]; simp [Nat.add_assoc], ⟨h.ok, rfl, by omega, hf, ?_, ?_⟩, ?_⟩
  · rw [num_more hf, h.val, e4, e2]
  · intro u hu
    rcases Nat.lt_or_ge u t with h1 | h1
    · exact h.none_ u h1
    · obtain rfl : u = t := by omega
      rw [h.val]
      exact whose_none hm
  · rw [e4, e2]
    exact num_bit (by omega)
theorem Tst.over {W : Ws} {s s1 : BS} {t b : Nat} (h : Tst W s t b s1) (hm : whose W b t = none) (hf : ¬ s.k + (t + 1) ≤ 8 * s.xs.length) : (s1.take 1).1 = 0 ∧ Tend W s (s1.take 1).2 := by
  have e2 : s1.k = s.k + t := by rw [h.at_]
  have e3 : s1.xs = s.xs := by rw [h.at_]
  have hn := take_far (s := s1) (t := 1) (.inr (by rw [e2, e3]; omega))
  rw [hn]
  refine ⟨rfl, .inr fun x hx hN => ?_, s.k + t, by rw [h.at_]⟩
  obtain ⟨h1, h2⟩ := hN
  rcases Nat.lt_trichotomy x.2.1 t with h3 | h3 | h3
  · exact h.none_ _ h3 x hx ⟨h2.symm, rfl⟩
  · rw [h3, h.val] at h2
    exact whose_none hm x hx ⟨h2.symm, h3⟩
  · omega
theorem Tst.full {W : Ws} {s s1 : BS} {b : Nat} (hW : Fine W) (h : Tst W s 21 b s1) : Tend W s { s1 with ended := true } := by
  refine ⟨.inr fun x hx hN => ?_, s.k + 21, by rw [h.at_]⟩
  have := (hW x hx).2
  exact h.none_ x.2.1 (by omega) x hx ⟨hN.2.symm, rfl⟩
theorem or_bit {n x : Nat} (hn : n < 2147483648) (hx : x < 2) : bits .or .u32 ((n : Int) * 2) (x : Int) = ((n * 2 + x : Nat) : Int) := by
  have ho := Nat.two_pow_add_eq_or_of_lt (i := 1) (by omega : x < 2 ^ 1) n
  rw [show (n : Int) * 2 = ((n * 2 : Nat) : Int) by simp, u32_or_nat (n * 2) x (by omega) (by omega), show n * 2 = 2 ^ 1 * n by omega, ← ho]

set_option maxHeartbeats 4000000 in
set_option maxRecDepth 100000 in
theorem take_ (base p : Nat) (W : Ws) (br rg : Nat) (s : BS) (w : World) (h : IsCode base w p W) (hW : Fine W) (hr : IsBr br rg s w) :
    Calls Tryz.prog 97 #[.pointer (some ⟨p, 0, none⟩), .pointer (some ⟨rg, 0, none⟩)] w fun r w' => ∃ x s', r = .returned (.int .i64 x) ∧ TakeAns W s x s' ∧ IsBr br rg s' w' ∧ IsCode base w' p W ∧ Keeps (· = rg) w w' := by
  have HC := Lib.hid h
  have HW := Lib.hid hW
  have HR := Lib.hid hr
  have hrg := hr.lt
  clear h hW hr
  go_enter Tryz.func97, Tryz.ntmps97
  go_wp2
  have HB0 := Lib.hid (Blk.new w 129 #[.int .u32 0, .int .i64 0])
  have HK0 := Lib.hid ((Keeps.refl (fun _ => False) w).alloc (.cells #[.int .u32 0, .int .i64 0] 129))
  obtain ⟨pw, hpw⟩ : ∃ pw, pw = w.heap.size := ⟨_, rfl⟩
  obtain ⟨wa, hwa⟩ : ∃ wa, wa = w.alloc (.cells #[.int .u32 0, .int .i64 0] 129) := ⟨_, rfl⟩
  rw [← hwa, ← hpw] at HB0
  rw [← hwa] at HK0
  rw [← hwa, ← hpw]
  have hpr : pw ≠ rg := by omega
  have HPW : Hid (w.heap.size ≤ pw) := by show _ ≤ _; omega
  clear hwa hpw
  go_loopw [] (fun wr => ∃ (t b : Nat) (s1 : BS), Blk wr pw 129 #[.int .u32 (b : Int), .int .i64 (t : Int)] ∧ (Tst W s t b s1 ∨ Tend W s s1) ∧ t ≤ 21 ∧ IsBr br rg s1 wr ∧ IsCode base wr p W ∧ Keeps (· = rg) w wr) (fun wr => 22 - (intOf ((wr.cell? ⟨pw, 1, none⟩).getD undef)).toNat)
  case atStart =>
    refine ⟨0, 0, s, HB0.out, ?_, by omega, HR.out.keeps HK0.out (fun _ _ => id), HC.out.keeps HK0.out (fun _ _ _ => id), HK0.out.none_⟩
    cases he : s.ended with
    | false => exact .inl ⟨he, by simp, by omega, by have := HR.out.2.1.1; omega, by simp [piece, num], by omega⟩
    | true => exact .inr ⟨.inl he, s.k, by rw [← he]⟩
  case round =>
    clear HB0 HK0 HR HC
    obtain ⟨t, b, s1, hb, hst, ht, hr, hc, hk⟩ := hrel
    have HBL := Lib.hid hb
    have HR := Lib.hid hr
    have HC := Lib.hid hc
    have HK := Lib.hid hk
    have hc0 : wr.cell? ⟨pw, 0, none⟩ = some (.int .u32 (b : Int)) := hb.cell 0
    have hc1 : wr.cell? ⟨pw, 1, none⟩ = some (.int .i64 (t : Int)) := hb.cell 1
    have hm0 : wr.cell? ⟨pw, 1, none⟩ = some (.int .i64 (t : Int)) := hc1
    clear hb hr hc hk
    rcases hst with hst | hst
    · have HT := Lib.hid hst
      clear hst
      by_cases ht2 : t ≤ 20
      · have hd : decide ((t : Int) ≤ 20) = true := by simp; omega
        have HEN := Lib.hid (ended_q rg s1 false br wr HR.out (by rw [HT.out.at_]; exact HT.out.ok))
        have hb2 := num_small HT.out.fits (by omega)
        rw [HT.out.val] at hb2
        have HNO := Lib.hid (numOf_ base p W b t wr HC.out HW.out (by omega) (by omega))
        cases hwh : whose W b t with
        | some x =>
          rw [hwh] at HNO
          simp only [Option.getD_some, Option.isSome_some] at HNO
          have HHIT := Lib.hid (HT.out.hit (whose_mem hwh))
          clear hwh
          go_wp2_with (first
            | (go_at_call 99
               refine HEN.out.mono ?_
               rintro e w' ⟨rfl, hw⟩
               rw [hw]
               clear hw)
            | (go_at_call 118
               refine HNO.out.mono ?_
               rintro e w2 ⟨rfl, hk2⟩
               have HK2 := Lib.hid hk2
               clear hk2))
          go_ret
          exact ⟨x, s1, rfl, HHIT.out, HR.out.keeps HK2.out (fun _ _ => id), HC.out.keeps HK2.out (fun _ _ _ => id), HK.out.trans HK2.out.none_⟩
        | none =>
          rw [hwh] at HNO
          simp only [Option.getD_none, Option.isSome_none] at HNO
          have HWH := Lib.hid hwh
          clear hwh
          go_upto_region 6 with (first
            | (go_at_call 99
               refine HEN.out.mono ?_
               rintro e w' ⟨rfl, hw⟩
               rw [hw]
               clear hw)
            | (go_at_call 118
               refine HNO.out.mono ?_
               rintro e w2 ⟨rfl, hk2⟩
               have HK2 := Lib.hid hk2
               clear hk2))
          have HR2 := Lib.hid (HR.out.keeps HK2.out (fun _ _ => id))
          have HC2 := Lib.hid (HC.out.keeps HK2.out (fun _ _ _ => id))
          have HB2 := Lib.hid (HBL.out.keeps HK2.out id)
          have HKK := Lib.hid (HK.out.trans HK2.out.none_)
          clear HEN HNO HR HC HBL HK HK2 hc0 hc1
          obtain ⟨nv, hnv⟩ : ∃ nv, nv = (s1.take 1).1 := ⟨_, rfl⟩
          obtain ⟨s2, hs2⟩ : ∃ s2, s2 = (s1.take 1).2 := ⟨_, rfl⟩
          have HNX : Hid (nv < 2 ∧ (Tst W s (t + 1) (b * 2 + nv) s2 ∨ Tend W s s2)) := by
            by_cases hf : s.k + (t + 1) ≤ 8 * s.xs.length
            · obtain ⟨g1, g2, g3⟩ := HT.out.more HWH.out ht2 hf
              rw [← hnv] at g2 g3
              rw [← hs2] at g1
              rw [← g1] at g2
              exact ⟨g3, .inl g2⟩
            · obtain ⟨g1, g2⟩ := HT.out.over HWH.out hf
              rw [← hnv] at g1
              rw [← hs2] at g2
              exact ⟨by omega, .inr g2⟩
          have hnv2 := HNX.out.1
          have HTA := Lib.hid (fun w' (hr : IsBr br rg s1 w') => take_q rg s1 s2 br 1 (nv : Int) 1 w' hr (by decide) (by rw [hnv]) hs2.symm)
          have HVA : Hid (bits .or .u32 (IntKind.u32.wrap ((b : Int) * 2)) (nv : Int) = ((b * 2 + nv : Nat) : Int)) := by
            show bits _ _ _ _ = _
            rw [show IntKind.u32.wrap ((b : Int) * 2) = (b : Int) * 2 by simp [IntKind.wrap, IntKind.bits, IntKind.signed]; omega]
            exact or_bit (by omega) hnv2
          have hc0 : w2.cell? ⟨pw, 0, none⟩ = some (.int .u32 (b : Int)) := HB2.out.cell 0
          clear hnv hs2
          go_cut [] from 25 to 31 (fun wx => Blk wx pw 129 #[.int .u32 ((b * 2 + nv : Nat) : Int), .int .i64 (t : Int)] ∧ IsBr br rg s2 wx ∧ IsCode base wx p W ∧ Keeps (· = rg) w wx)
          case first =>
            go_region_with (
              go_at_call 98
              refine (HTA.out _ (HR2.out.drewN 1)).mono ?_
              rintro e w3 ⟨rfl, hr3, hk3⟩
              have hk3' := hk3.of_drew
              have hb3 := HB2.out.keeps hk3' hpr
              have hc3 : w3.cell? ⟨pw, 0, none⟩ = some (.int .u32 (b : Int)) := hb3.cell 0
              have hf3 := hb3.frozen 0
              have HB3 := Lib.hid hb3
              have HR3 := Lib.hid hr3
              have HC3 : Hid (IsCode base w3 p W) := by
                obtain ⟨cs, hcs⟩ := br_blk HR2.out
                exact code_far HC2.out hcs (by decide) hk3'
              have HK3 := Lib.hid (HKK.out.trans hk3')
              clear hr3 hk3 hk3' hb3)
            all_goals go_wp2_with fail
            all_goals go_meet
            all_goals
              rw [HVA.out]
              have hkp : Keeps (· = pw) w3 (w3.setCell ⟨pw, 0, none⟩ (.int .u32 ((b * 2 + nv : Nat) : Int))) := (Keeps.refl _ _).setOwn 0 _
              exact ⟨HB3.out.setCell 0 _, HR3.out.low hkp (fun b _ hb e => by have := HPW.out; omega), code_far HC3.out HB3.out (by decide) hkp, HK3.out.setCell (p := ⟨pw, 0, none⟩) (.inr HPW.out) _⟩
          case rest =>
            obtain ⟨hb4, hr4, hc4, hk4⟩ := hcut
            have HB4 := Lib.hid hb4
            have HR4 := Lib.hid hr4
            have HC4 := Lib.hid hc4
            have HK4 := Lib.hid hk4
            have hc1 : wc.cell? ⟨pw, 1, none⟩ = some (.int .i64 (t : Int)) := hb4.cell 1
            have hf1 := hb4.frozen 1
            clear hb4 hr4 hc4 hk4 HR2 HC2 HB2 HKK hc0 HTA
            have HKP : Hid (Keeps (· = pw) wc (wc.setCell ⟨pw, 1, none⟩ (.int .i64 ((t : Int) + 1)))) := (Keeps.refl _ _).setOwn 1 _
            have HB5 : Hid (Blk (wc.setCell ⟨pw, 1, none⟩ (.int .i64 ((t : Int) + 1))) pw 129 #[.int .u32 ((b * 2 + nv : Nat) : Int), .int .i64 ((t + 1 : Nat) : Int)]) := by
              have h1 := HB4.out.setCell 1 (.int .i64 ((t : Int) + 1))
              show Blk _ _ _ _
              simpa using h1
            go_wp2
            refine ⟨⟨t + 1, b * 2 + nv, s2, HB5.out, HNX.out.2, by omega, HR4.out.low HKP.out (fun b _ hb e => by have := HPW.out; omega), code_far HC4.out HB4.out (by decide) HKP.out, HK4.out.setCell (p := ⟨pw, 1, none⟩) (.inr HPW.out) _⟩, ?_⟩
            have h5 : (wc.setCell ⟨pw, 1, none⟩ (.int .i64 ((t : Int) + 1))).cell? ⟨pw, 1, none⟩ = some (.int .i64 ((t + 1 : Nat) : Int)) := HB5.out.cell 1
            rw [h5, hm0]
            simp [intOf]
            omega
      · have hd : decide ((t : Int) ≤ 20) = false := by simp; omega
        have HFA := Lib.hid (fail rg s1 br wr HR.out)
        have HEN : Hid (Tend W s { s1 with ended := true }) := by
          obtain rfl : t = 21 := by omega
          exact HT.out.full HW.out
        go_wp2_with (
          refine HFA.out.mono ?_
          rintro e w2 ⟨rfl, hr2, hk2⟩
          have HR2 := Lib.hid hr2
          have HK2 := Lib.hid hk2
          clear hr2 hk2)
        go_ret
        refine ⟨0, _, rfl, .inr ⟨HEN.out.none_, rfl, HEN.out.at_⟩, HR2.out, ?_, HK.out.trans HK2.out⟩
        obtain ⟨cs, hcs⟩ := br_blk HR.out
        exact code_far HC.out hcs (by decide) HK2.out
    · have HT := Lib.hid hst
      clear hst
      have HFA := Lib.hid (fail rg s1 br wr HR.out)
      have he1 : s1.ended = true := by obtain ⟨k', e⟩ := HT.out.at_; rw [e]
      have HEN : Hid (Tend W s { s1 with ended := true }) := by
        refine ⟨HT.out.none_, ?_⟩
        obtain ⟨k', e⟩ := HT.out.at_
        exact ⟨k', by rw [e]⟩
      have HEQ := Lib.hid (ended_q rg s1 true br wr HR.out he1)
      clear he1
      have HEND : Hid (∀ w2, IsBr br rg { s1 with ended := true } w2 → Keeps (· = rg) wr w2 → ∃ x s', Ending.returned (.int .i64 0) = Ending.returned (.int .i64 x) ∧ TakeAns W s x s' ∧ IsBr br rg s' w2 ∧ IsCode base w2 p W ∧ Keeps (· = rg) w w2) := by
        intro w2 g1 g2
        refine ⟨0, _, rfl, .inr ⟨HEN.out.none_, rfl, HEN.out.at_⟩, g1, ?_, HK.out.trans g2⟩
        obtain ⟨cs, hcs⟩ := br_blk HR.out
        exact code_far HC.out hcs (by decide) g2
      by_cases ht2 : t ≤ 20
      · have hd : decide ((t : Int) ≤ 20) = true := by simp; omega
        go_wp2_with (first
          | (go_at_call 99
             refine HEQ.out.mono ?_
             rintro e w' ⟨rfl, hw⟩
             rw [hw]
             clear hw)
          | (go_at_call 54
             refine HFA.out.mono ?_
             rintro e w2 ⟨rfl, hr2, hk2⟩
             have HR2 := Lib.hid hr2
             have HK2 := Lib.hid hk2
             clear hr2 hk2))
        go_ret
        exact HEND.out _ HR2.out HK2.out
      · have hd : decide ((t : Int) ≤ 20) = false := by simp; omega
        go_wp2_with (
          refine HFA.out.mono ?_
          rintro e w2 ⟨rfl, hr2, hk2⟩
          have HR2 := Lib.hid hr2
          have HK2 := Lib.hid hk2
          clear hr2 hk2)
        go_ret
        exact HEND.out _ HR2.out HK2.out
end Go.Proofs.YtgaofnmgdefdcaaGreatDoor.Hu
