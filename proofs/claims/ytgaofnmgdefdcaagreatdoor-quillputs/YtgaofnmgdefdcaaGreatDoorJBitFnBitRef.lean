/- bits' small functions, call by call: a size out of range is the nearest one; a number's lowest bits. -/
/- The document's own answers for bits (Bits, Of of the package of answers), call by call: the same bits as plain data, in new memory. -/
import Derived.Test.YtgaofnmgdefdcaaGreatDoorJHufLiteClone
import Derived.Test.YtgaofnmgdefdcaaGreatDoorJGenBitPlain
import Derived.Deep.AppendLies

namespace Go.Proofs.YtgaofnmgdefdcaaGreatDoor.Bf
open Go.RowKit Go.Proofs.YtgaofnmgdefdcaaGreatDoor.Gen Go.Proofs.YtgaofnmgdefdcaaGreatDoor.Bp

/-- How many bits are meant. -/
def sz (s : Int) : Nat := (min (max s 0) 32).toNat
theorem sz_le (s : Int) : sz s ≤ 32 := by unfold sz; omega
theorem near (s : Int) (w : World) : Calls Tryz.prog 65 #[.int .i64 s] w fun r w' => r = .returned (.int .i64 (sz s)) ∧ w' = w := by
  obtain ⟨t, ht⟩ : ∃ t : Int, t = (sz s : Int) := ⟨_, rfl⟩
  have H : t = min (max s 0) 32 := by rw [ht]; unfold sz; omega
  rw [← ht]
  clear ht
  rcases Int.lt_or_le s 0 with h | h
  · obtain rfl : t = 0 := by omega
    clear H
    go_enter Tryz.func65, Tryz.ntmps65
    go_wp2
    go_ret
    exact ⟨rfl, rfl⟩
  · rcases Int.lt_or_le 32 s with h2 | h2
    · obtain rfl : t = 32 := by omega
      clear H
      go_enter Tryz.func65, Tryz.ntmps65
      go_wp2
      go_ret
      exact ⟨rfl, rfl⟩
    · obtain rfl : t = s := by omega
      clear H
      go_enter Tryz.func65, Tryz.ntmps65
      go_wp2
      go_ret
      exact ⟨rfl, rfl⟩
theorem low_eq {n s : Nat} (h1 : n < 18446744073709551616) (hs : s ≤ 32) : bits BinOp.and IntKind.u64 (n : Int) (IntKind.u64.wrap (IntKind.u64.wrap (2 ^ s) - 1)) % 4294967296 = ((n % 2 ^ s : Nat) : Int) := by
  have hp : 2 ^ s ≤ 2 ^ 32 := Nat.pow_le_pow_right (by decide) hs
  have h0 := Nat.two_pow_pos s
  have hc : (2 : Int) ^ s = ((2 ^ s : Nat) : Int) := by simp
  have hm := Nat.mod_lt n h0
  have ha := Nat.and_two_pow_sub_one_eq_mod n s
  rw [hc]
  generalize 2 ^ s = m at *
  rw [IntWalk.u64_in (m : Int) (by omega), IntWalk.u64_in ((m : Int) - 1) (by omega), show (m : Int) - 1 = ((m - 1 : Nat) : Int) by omega, u64_and_nat n (m - 1) h1 (by omega), ha]
  omega
theorem lowest (n s : Nat) (w : World) (h1 : n < 18446744073709551616) (hs : s ≤ 32) : Calls Tryz.prog 66 #[.int .u64 n, .int .i64 s] w fun r w' => r = .returned (.int .u32 ((n % 2 ^ s : Nat) : Int)) ∧ w' = w := by
  have H := Lib.hid (low_eq h1 hs)
  go_enter Tryz.func66, Tryz.ntmps66
  go_wp2
  go_ret
  exact ⟨by rw [← H.out]; rfl, rfl⟩
theorem lowest_q (n s q : Nat) (w : World) (h1 : n < 18446744073709551616) (hs : s ≤ 32) (hq : n % 2 ^ s = q) : Calls Tryz.prog 66 #[.int .u64 n, .int .i64 s] w fun r w' => r = .returned (.int .u32 (q : Int)) ∧ w' = w := by
  subst hq
  exact lowest n s w h1 hs
theorem or_byte {n x : Nat} (hn : n < 4294967296) (hx : x < 256) : bits .or .u64 ((n : Int) * 256) (x : Int) = ((n * 256 + x : Nat) : Int) := by
  have ho := Nat.two_pow_add_eq_or_of_lt (i := 8) hx n
  rw [show (n : Int) * 256 = ((n * 256 : Nat) : Int) by simp, u64_or_nat (n * 256) x (by omega) (by omega), show n * 256 = 2 ^ 8 * n by omega, ← ho]
end Go.Proofs.YtgaofnmgdefdcaaGreatDoor.Bf

namespace Go.Proofs.YtgaofnmgdefdcaaGreatDoor.Bq
open Go.RowKit Go.Proofs.YtgaofnmgdefdcaaGreatDoor.Gen Go.Proofs.YtgaofnmgdefdcaaGreatDoor.Cl Go.Proofs.YtgaofnmgdefdcaaGreatDoor.Bp

/-- Bits as bytes of their own. -/
def ib (l : List Nat) : List Int := l.map (fun b : Nat => (b : Int))
theorem ib_len (l : List Nat) : (ib l).length = l.length := by simp [ib]
theorem ib_app (l m : List Nat) : ib (l ++ m) = ib l ++ ib m := by simp [ib]
theorem ib_byte {l : List Nat} (h : ∀ b ∈ l, b < 2) : ∀ x ∈ ib l, 0 ≤ x ∧ x < 2 := by
  intro x hx
  obtain ⟨b, hb, rfl⟩ := List.mem_map.1 hx
  have := h b hb
  omega
theorem made (t : Nat) : madeCells (Value.int .u8 0).cells (t * 1) = (bv (ib (List.replicate t 0))).toArray := by
  apply Array.ext_getElem?
  intro j
  by_cases hj : j < t
  · simp [madeCells, hj, Nat.mod_one, bv, ib, Value.cells]
  · simp [madeCells, hj, bv, ib]
theorem make_bytes (t : Nat) (ht : t ≤ 1000000) (w : World) : (Instr.makeSlice 29 (.int .i64 (t : Int)) (.int .i64 (t : Int))).run Tryz.prog w = .ok (.slice (some ⟨w.heap.size, 0, none⟩) t t) (w.alloc (.cells (bv (ib (List.replicate t 0))).toArray 5)) := by
  obtain ⟨i0, hi0, hz0, hz1, hz2⟩ := info_parts u8_info
  have h := run_make (P := Tryz.prog) w 29 5 i0 _ Tryz.underlying29 hi0 hz0 .i64 .i64 (t : Int) (t : Int) (by omega) (by omega) (by rw [hz2]; omega) (by omega)
  rw [hz1, Int.toNat_natCast, made] at h
  exact h
/-- What the row of Bits holds when d of its t places are filled, the last first. -/
def fill (n t d : Nat) : List Nat := List.replicate (t - d) 0 ++ tb n d
theorem fill_set {n t d : Nat} (hd : d < t) : ((bv (ib (fill n t d))).toArray).setIfInBounds (t - 1 - d) (.int .u8 ((n / 2 ^ d % 2 : Nat) : Int)) = (bv (ib (fill n t (d + 1)))).toArray := by
  unfold fill
  rw [tb_cons, show t - d = (t - 1 - d) + 1 by omega, show t - (d + 1) = t - 1 - d by omega, List.replicate_succ']
  simp [bv, ib]
theorem fill_len {n t d : Nat} (hd : d ≤ t) : (fill n t d).length = t := by
  unfold fill
  simp [tb_len]
  omega
theorem bits_ (n t : Nat) (w : World) (hn : n < 4294967296) (ht : t ≤ 32) : Calls Tryz.prog 42 #[.int .u32 (n : Int), .int .i64 (t : Int)] w (Own w.heap.size t (ib (tb n t)) w) := by
  have hmk := fun w => make_bytes t (by omega) w
  go_enter Tryz.func42, Tryz.ntmps42
  go_wp2
  clear hmk
  go_loopw [0, 6] (fun nv i wr => ∃ d e : Nat, d + e = t ∧ nv = .int .u32 ((n / 2 ^ d : Nat) : Int) ∧ i = .int .i64 ((e : Int) - 1) ∧ Blk wr w.heap.size 5 (bv (ib (fill n t d))).toArray ∧ Keeps (fun _ => False) w wr) (fun _ i _ => (intOf i + 1).toNat)
  case atStart => exact ⟨0, t, by omega, by simp, rfl, by simpa [fill, tb] using Blk.new w 5 _, (Keeps.refl _ _).alloc _⟩
  case round =>
    obtain ⟨d, e, hde, rfl, rfl, hb, hk⟩ := hrel
    have HB := Lib.hid hb
    have HK := Lib.hid hk
    have hle : n / 2 ^ d < 4294967296 := Nat.lt_of_le_of_lt (Nat.div_le_self _ _) hn
    have HN2 : Hid (n / 2 ^ d / 2 = n / 2 ^ (d + 1)) := by show n / 2 ^ d / 2 = n / 2 ^ (d + 1); rw [Nat.div_div_eq_div_mul, Nat.pow_succ]
    rcases e with _ | e
    · obtain rfl : d = t := by omega
      clear HN2
      go_wp2
      go_ret
      refine ⟨_, _, rfl, ⟨by simp [bv, ib_len, tb_len], .inr ⟨_, _, _, rfl, Nat.le_refl _, HB.out, Nat.le_refl _, by simp only [maxLen]; omega, by simp [bv, ib_len, fill_len], ?_⟩⟩, HK.out⟩
      simp [fill]
      rw [List.take_of_length_le (by simp [bv, ib_len, tb_len])]
    · have hc : wr.cell? ⟨w.heap.size, e, none⟩ = (bv (ib (fill n t d))).toArray[e]? := hb.cell e
      have hfl : (bv (ib (fill n t d))).length = t := by rw [bv_len, ib_len, fill_len (by omega)]
      obtain ⟨u, hu⟩ : ∃ u, (bv (ib (fill n t d))).toArray[e]? = some u := ⟨_, Array.getElem?_eq_getElem (by simp [hfl]; omega)⟩
      rw [hu] at hc
      have hf : wr.frozen? ⟨w.heap.size, e, none⟩ = false := hb.frozen e
      have HS : Hid (Blk (wr.setCell ⟨w.heap.size, e, none⟩ (.int .u8 ((n / 2 ^ d % 2 : Nat) : Int))) w.heap.size 5 (bv (ib (fill n t (d + 1)))).toArray) := by
        have hs := fill_set (n := n) (t := t) (d := d) (by omega)
        rw [show t - 1 - d = e by omega] at hs
        have h := hb.setCell e (.int .u8 ((n / 2 ^ d % 2 : Nat) : Int))
        rw [hs] at h
        exact h
      have HKS := Lib.hid (hk.setCell (p := ⟨w.heap.size, e, none⟩) (.inr (Nat.le_refl _)) (.int .u8 ((n / 2 ^ d % 2 : Nat) : Int)))
      have he0 : (0 : Int) ≤ (e : Int) := by omega
      have het : (e : Int) < (t : Int) := by omega
      clear hb hk hu hfl
      generalize n / 2 ^ d = N at *
      go_wp2
      exact ⟨⟨d + 1, e, by omega, by rw [← HN2.out]; rfl, by go_num, HS.out, HKS.out⟩, by simp [intOf]⟩
theorem of_len (xs : List Nat) : (ib (ofB xs)).length = 8 * xs.length := by rw [ib_len, ofB_len]
end Go.Proofs.YtgaofnmgdefdcaaGreatDoor.Bq
