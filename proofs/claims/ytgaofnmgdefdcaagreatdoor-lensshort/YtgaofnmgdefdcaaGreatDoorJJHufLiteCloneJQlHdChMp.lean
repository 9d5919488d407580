/- For seats without huff.Sizes: what huff.New's texts want of its texts, and the names of their parts. -/
/- bytes.Clone: the same bytes, in a row of its own; nil of nil. At most ten million bytes. -/
/- bits' small functions, call by call: a size out of range is the nearest one; a number's lowest bits. -/
/- The document's own answers for bits (Bits, Of of the package of answers), call by call: the same bits as plain data, in new memory. -/
/- What bits' Writer does, call by call: what it has is the bits that were put; only its own block and its row turn, and new memory is made; a nil one does nothing. -/
/- What bits' Writer does at a Put: the number's lowest bits behind those that it has; only its own block and its row turn, and new memory is made. -/
/- Facts that hang on some blocks alone; steps that turn these alone, and new ones. Names no function of the program. -/
/- Maps as functions of the numbers of their keys, the order left open; an entry that is made ahead of what is stored into it. No program is named here. -/
import Derived.Test.YtgaofnmgdefdcaaGreatDoorJBitRdJHufCmpHufMap
import Derived.Test.YtgaofnmgdefdcaaGreatDoorJJHufRowHufEvBitPlain
import Derived.Test.YtgaofnmgdefdcaaGreatDoorHufStI
import Derived.Test.YtgaofnmgdefdcaaGreatDoorProg
import Derived.Test.YtgaofnmgdefdcaaGreatDoorJGenJGenHufPm
import Derived.WalkKit
import Derived.WalkSpells
import Derived.WalkLawsBesides
import Derived.Lib.Hide
import Derived.Maps.AppendAt
import Derived.BigQuiet
import Derived.Outline
import Derived.Laws.BitsAllLaws
import Derived.Deep.AppendLies
import Derived.Deep.RegionHeld3
import Derived.Deep.RegionLaw
import Derived.Deep.CutRange
import Derived.WideKeyEntry
import Derived.DeepKeys4


namespace Go.Proofs.YtgaofnmgdefdcaaGreatDoor.Hm
end Go.Proofs.YtgaofnmgdefdcaaGreatDoor.Hm
namespace Go.Proofs.YtgaofnmgdefdcaaGreatDoor.Hg
end Go.Proofs.YtgaofnmgdefdcaaGreatDoor.Hg
namespace Go.Proofs.YtgaofnmgdefdcaaGreatDoor.So
end Go.Proofs.YtgaofnmgdefdcaaGreatDoor.So
namespace Go.Proofs.YtgaofnmgdefdcaaGreatDoor.Hs
open Go.RowKit
theorem int_key : Go.Maps.Keyed Tryz.prog 3 := Go.Maps.int_keyed Tryz.underlying3
end Go.Proofs.YtgaofnmgdefdcaaGreatDoor.Hs
namespace Go.Proofs.YtgaofnmgdefdcaaGreatDoor.Hf
open Go.RowKit Go.Proofs.YtgaofnmgdefdcaaGreatDoor.Gen
theorem keeps_low {w wr w1 : World} {S : Nat → Prop} (h : Keeps (fun _ => False) w wr) (k : Keeps S wr w1) (hw : ∀ x, S x → w.heap.size ≤ x) : Keeps (fun _ => False) w w1 :=
  ⟨k.os.trans h.os, k.tape.trans h.tape, k.output.trans h.output, Nat.le_trans h.size k.size, fun x hx hn => (k.block x (Nat.lt_of_lt_of_le hx h.size) (fun hs => by have := hw x hs; omega)).trans (h.block x hx hn)⟩
end Go.Proofs.YtgaofnmgdefdcaaGreatDoor.Hf
namespace Go.Proofs.YtgaofnmgdefdcaaGreatDoor.Ha
end Go.Proofs.YtgaofnmgdefdcaaGreatDoor.Ha
namespace Go.Proofs.YtgaofnmgdefdcaaGreatDoor.Hz
open Go.RowKit Go.Shelf Go.Lib Go.Sort Go.Proofs.YtgaofnmgdefdcaaGreatDoor.Gen Go.Proofs.YtgaofnmgdefdcaaGreatDoor.Mp Go.Proofs.YtgaofnmgdefdcaaGreatDoor.Hr Go.Proofs.YtgaofnmgdefdcaaGreatDoor.Hp Go.Proofs.YtgaofnmgdefdcaaGreatDoor.Hm Go.Proofs.YtgaofnmgdefdcaaGreatDoor.Hg Go.Proofs.YtgaofnmgdefdcaaGreatDoor.So Go.Proofs.YtgaofnmgdefdcaaGreatDoor.Hs Go.Proofs.YtgaofnmgdefdcaaGreatDoor.Hf
theorem many_ (n : Nat) (w : World) : Calls Tryz.prog 81 #[.int .i64 (n : Int)] w fun r w' => r = .returned (.bool (decide (1 ≤ n ∧ n ≤ 256))) ∧ w' = w := by
  go_enter Tryz.func81, Tryz.ntmps81
  go_wp2
  all_goals
    go_ret
    refine ⟨?_, rfl⟩
    refine congrArg (fun b => Ending.returned (Value.bool b)) ?_
    rw [Bool.eq_iff_iff]
    simp
    try omega
theorem num_ (x : Int) (w : World) : Calls Tryz.prog 100 #[.int .i64 x] w fun r w' => r = .returned (.bool (decide (-2147483647 ≤ x ∧ x ≤ 2147483647))) ∧ w' = w := by
  go_enter Tryz.func100, Tryz.ntmps100
  go_wp2
  all_goals
    go_ret
    refine ⟨?_, rfl⟩
    simp
    try omega

theorem ent_info : (Tryz.prog.info? 87).map (fun i => (i.zero, i.size, i.bytes)) = some (some (.agg #[.int .i64 0, .int .i64 0]), 2, 16) := by kernel_rfl
theorem made_ents (n : Nat) : (madeCells (Value.agg #[.int .i64 0, .int .i64 0]).cells (n * 2)).toList = evs (List.replicate n (0, 0)) := by
  refine List.ext_getElem? fun i => ?_
  by_cases hi : i < n * 2
  · have h1 : i / 2 < (List.replicate n ((0 : Int), (0 : Nat))).length := by simp; omega
    have h2 := evs_get0 _ _ h1
    have h3 := evs_get1 _ _ h1
    have e : (madeCells (Value.agg #[.int .i64 0, .int .i64 0]).cells (n * 2)).toList[i]? = some (.int .i64 0) := by
      rcases Nat.mod_two_eq_zero_or_one i with h | h <;> simp [madeCells, Value.cells, hi, h]
    rw [e]
    rcases Nat.mod_two_eq_zero_or_one i with h | h
    · rw [show i / 2 * 2 = i by omega] at h2
      rw [h2]
      simp [List.getD_eq_getElem?_getD, List.getElem?_replicate, show i / 2 < n by omega]
    · rw [show i / 2 * 2 + 1 = i by omega] at h3
      rw [h3]
      simp [List.getD_eq_getElem?_getD, List.getElem?_replicate, show i / 2 < n by omega]
  · rw [List.getElem?_eq_none (by simp [madeCells]; omega), List.getElem?_eq_none (by rw [evs_len]; simp; omega)]

end Go.Proofs.YtgaofnmgdefdcaaGreatDoor.Hz
namespace Go.Proofs.YtgaofnmgdefdcaaGreatDoor.Hz
open Go.RowKit Go.Shelf Go.Lib Go.Sort Go.Proofs.YtgaofnmgdefdcaaGreatDoor.Gen Go.Proofs.YtgaofnmgdefdcaaGreatDoor.Mp Go.Proofs.YtgaofnmgdefdcaaGreatDoor.Hr Go.Proofs.YtgaofnmgdefdcaaGreatDoor.Hp Go.Proofs.YtgaofnmgdefdcaaGreatDoor.Hm Go.Proofs.YtgaofnmgdefdcaaGreatDoor.Hg Go.Proofs.YtgaofnmgdefdcaaGreatDoor.So Go.Proofs.YtgaofnmgdefdcaaGreatDoor.Hs Go.Proofs.YtgaofnmgdefdcaaGreatDoor.Hf
theorem wf_of {x : Int} (h : -2147483648 ≤ x ∧ x ≤ 2147483648) : (Lit.int .i64 x).wf = true := by
  have hm : IntKind.i64.min = -9223372036854775808 ∧ IntKind.i64.max = 9223372036854775807 := by decide
  simp [Lit.wf, hm.1, hm.2]
  omega
end Go.Proofs.YtgaofnmgdefdcaaGreatDoor.Hz

namespace Go.Proofs.YtgaofnmgdefdcaaGreatDoor.Cl
open Go.RowKit Go.Proofs.YtgaofnmgdefdcaaGreatDoor.Gen

theorem u8_info : (Tryz.prog.info? 5).map (fun i => (i.zero, i.size, i.bytes)) = some (some (.int .u8 0), 1, 1) := by kernel_rfl

/-- bytes.Clone: nil of nil. -/
theorem clone_nil (c : Nat) (w : World) : Calls Tryz.prog 71 #[.slice none 0 c] w fun r w' => r = .returned (.slice none 0 0) ∧ w = w' := by
  have he := fun (w : World) => Lib.run_eql_slice_nil (P := Tryz.prog) w 29 5 none 0 c 0 0 Tryz.underlying29
  go_enter Tryz.func71, Tryz.ntmps71
  go_wp2
  go_ret
  exact ⟨rfl, rfl⟩
/-- bytes.Clone: the same bytes, in a row of its own. -/
def Own (base n : Nat) (xs : List Int) (w : World) (r : Ending) (w' : World) : Prop :=
  ∃ A c, r = .returned (.slice A n c) ∧ w'.ownsRow base 5 1 (.slice A n c) n (bv xs) ∧ Keeps (fun _ => False) w w'
theorem clone_some (ad : Addr) (c : Nat) (xs : List Int) (w : World) (hl : Lies w (some ad) xs) (hn : xs.length ≤ 10000000) :
    Calls Tryz.prog 71 #[.slice (some ad) xs.length c] w (Own w.heap.size xs.length xs w) := by
  obtain ⟨i0, hi0, hz0, hz1, hz2⟩ := info_parts u8_info
  have he := fun (w : World) => Lib.run_eql_slice_nil (P := Tryz.prog) w 29 5 (some ad) xs.length c 0 0 Tryz.underlying29
  have hnews : ∀ j u, (bv xs)[j]? = some u → (w.alloc (.cells #[] 5)).cell? (ad.add j) = some u :=
    (hl.keeps (S := fun _ => False) ((Keeps.refl _ _).alloc _) (fun _ _ _ => id)).news
  go_enter Tryz.func71, Tryz.ntmps71
  go_wp2_with (
    at_builtin
    refine wpList_append_own_at _ rfl (.tmp 5) (.tmp 6) _ rfl w.heap.size 5 i0 _ 1 1 Tryz.underlying29 hi0 hz0 hz1 hz2 rfl (by omega) (.slice (some ⟨w.heap.size, 0, none⟩) 0 0) 0 [] rfl
      ⟨rfl, .inr ⟨w.heap.size, 0, #[], rfl, Nat.le_refl _, heap_alloc_new w _, Nat.le_refl _, by simp [maxLen], rfl, rfl⟩⟩ ad xs.length c (bv xs) rfl (by rw [bv_len]; omega) hnews (bv_one xs) (by simp only [maxLen]; omega) (by omega) (by simp) ?_
    intro v1 w1 hown1 hg1 hnil1 hat1)
  go_ret
  simp only [Nat.zero_add, List.nil_append] at hown1
  obtain ⟨A1, c1, rfl, _⟩ := own_form hown1
  refine ⟨A1, c1, rfl, hown1, ((Keeps.refl _ _).alloc _).grown hg1 (fun k hk => .inr (by simp [Value.ownBlock] at hk; omega))⟩
theorem clone (A : Option Addr) (c : Nat) (xs : List Int) (w : World) (hl : Lies w A xs) (hn : xs.length ≤ 10000000) :
    Calls Tryz.prog 71 #[.slice A xs.length c] w (Own w.heap.size xs.length xs w) := by
  rcases A with _ | ad
  · have hx : xs = [] := by
      rcases hl with h | ⟨b, o, h, _⟩
      · exact h
      · cases h
    subst hx
    exact (clone_nil c w).mono fun r w' ⟨hr, hw⟩ => ⟨none, 0, hr, World.ownsRow_nil _ _ _ _, by rw [hw]; exact Keeps.refl _ _⟩
  · exact clone_some ad c xs w hl hn

theorem clone_n (A : Option Addr) (n c : Nat) (xs : List Int) (w : World) (hx : xs.length = n) (hl : Lies w A xs) (hn : n ≤ 10000000) :
    Calls Tryz.prog 71 #[.slice A n c] w (Own w.heap.size n xs w) := by
  subst hx
  exact clone A c xs w hl hn
end Go.Proofs.YtgaofnmgdefdcaaGreatDoor.Cl


namespace Go.Proofs.YtgaofnmgdefdcaaGreatDoor.Bf
open Go.RowKit Go.Proofs.YtgaofnmgdefdcaaGreatDoor.Gen Go.Proofs.YtgaofnmgdefdcaaGreatDoor.Bp

/-- How many bits are meant. -/
def sz (s : Int) : Nat := (min (max s 0) 32).toNat
theorem sz_le (s : Int) : sz s ≤ 32 := by unfold sz; omega
theorem near (s : Int) (w : World) : Calls Tryz.prog 65 #[.int .i64 s] w fun r w' => r = .returned (.int .i64 (sz s)) ∧ w' = w := by
  obtain ⟨t, ht⟩ : ∃ t : Int, t = (sz s : Int) := ⟨_, rfl⟩
  have H : t = min (max s 0) 32 := by rw [ht]; unfold sz; omega
  rw [← ht]
  clear ht
  rcases Int.lt_or_le s 0 with h | h
  · obtain rfl : t = 0 := by omega
    clear H
    go_enter Tryz.func65, Tryz.ntmps65
    go_wp2
    go_ret
    exact ⟨rfl, rfl⟩
  · rcases Int.lt_or_le 32 s with h2 | h2
    · obtain rfl : t = 32 := by omega
      clear H
      go_enter Tryz.func65, Tryz.ntmps65
      go_wp2
      go_ret
      exact ⟨rfl, rfl⟩
    · obtain rfl : t = s := by omega
      clear H
      go_enter Tryz.func65, Tryz.ntmps65
      go_wp2
      go_ret
      exact ⟨rfl, rfl⟩
theorem low_eq {n s : Nat} (h1 : n < 18446744073709551616) (hs : s ≤ 32) : bits BinOp.and IntKind.u64 (n : Int) (IntKind.u64.wrap (IntKind.u64.wrap (2 ^ s) - 1)) % 4294967296 = ((n % 2 ^ s : Nat) : Int) := by
  have hp : 2 ^ s ≤ 2 ^ 32 := Nat.pow_le_pow_right (by decide) hs
  have h0 := Nat.two_pow_pos s
  have hc : (2 : Int) ^ s = ((2 ^ s : Nat) : Int) := by simp
  have hm := Nat.mod_lt n h0
  have ha := Nat.and_two_pow_sub_one_eq_mod n s
  rw [hc]
  generalize 2 ^ s = m at *
  rw [IntWalk.u64_in (m : Int) (by omega), IntWalk.u64_in ((m : Int) - 1) (by omega), show (m : Int) - 1 = ((m - 1 : Nat) : Int) by omega, u64_and_nat n (m - 1) h1 (by omega), ha]
  omega
theorem lowest (n s : Nat) (w : World) (h1 : n < 18446744073709551616) (hs : s ≤ 32) : Calls Tryz.prog 66 #[.int .u64 n, .int .i64 s] w fun r w' => r = .returned (.int .u32 ((n % 2 ^ s : Nat) : Int)) ∧ w' = w := by
  have H := Lib.hid (low_eq h1 hs)
  go_enter Tryz.func66, Tryz.ntmps66
  go_wp2
  go_ret
  exact ⟨by rw [← H.out]; rfl, rfl⟩
theorem lowest_q (n s q : Nat) (w : World) (h1 : n < 18446744073709551616) (hs : s ≤ 32) (hq : n % 2 ^ s = q) : Calls Tryz.prog 66 #[.int .u64 n, .int .i64 s] w fun r w' => r = .returned (.int .u32 (q : Int)) ∧ w' = w := by
  subst hq
  exact lowest n s w h1 hs
theorem or_byte {n x : Nat} (hn : n < 4294967296) (hx : x < 256) : bits .or .u64 ((n : Int) * 256) (x : Int) = ((n * 256 + x : Nat) : Int) := by
  have ho := Nat.two_pow_add_eq_or_of_lt (i := 8) hx n
  rw [show (n : Int) * 256 = ((n * 256 : Nat) : Int) by simp, u64_or_nat (n * 256) x (by omega) (by omega), show n * 256 = 2 ^ 8 * n by omega, ← ho]
end Go.Proofs.YtgaofnmgdefdcaaGreatDoor.Bf

namespace Go.Proofs.YtgaofnmgdefdcaaGreatDoor.Bq
open Go.RowKit Go.Proofs.YtgaofnmgdefdcaaGreatDoor.Gen Go.Proofs.YtgaofnmgdefdcaaGreatDoor.Cl Go.Proofs.YtgaofnmgdefdcaaGreatDoor.Bp

/-- Bits as bytes of their own. -/
def ib (l : List Nat) : List Int := l.map (fun b : Nat => (b : Int))
theorem ib_len (l : List Nat) : (ib l).length = l.length := by simp [ib]
theorem ib_app (l m : List Nat) : ib (l ++ m) = ib l ++ ib m := by simp [ib]
theorem ib_byte {l : List Nat} (h : ∀ b ∈ l, b < 2) : ∀ x ∈ ib l, 0 ≤ x ∧ x < 2 := by
  intro x hx
  obtain ⟨b, hb, rfl⟩ := List.mem_map.1 hx
  have := h b hb
  omega
theorem made (t : Nat) : madeCells (Value.int .u8 0).cells (t * 1) = (bv (ib (List.replicate t 0))).toArray := by
  apply Array.ext_getElem?
  intro j
  by_cases hj : j < t
  · simp [madeCells, hj, Nat.mod_one, bv, ib, Value.cells]
  · simp [madeCells, hj, bv, ib]
theorem make_bytes (t : Nat) (ht : t ≤ 1000000) (w : World) : (Instr.makeSlice 29 (.int .i64 (t : Int)) (.int .i64 (t : Int))).run Tryz.prog w = .ok (.slice (some ⟨w.heap.size, 0, none⟩) t t) (w.alloc (.cells (bv (ib (List.replicate t 0))).toArray 5)) := by
  obtain ⟨i0, hi0, hz0, hz1, hz2⟩ := info_parts u8_info
  have h := run_make (P := Tryz.prog) w 29 5 i0 _ Tryz.underlying29 hi0 hz0 .i64 .i64 (t : Int) (t : Int) (by omega) (by omega) (by rw [hz2]; omega) (by omega)
  rw [hz1, Int.toNat_natCast, made] at h
  exact h
/-- What the row of Bits holds when d of its t places are filled, the last first. -/
def fill (n t d : Nat) : List Nat := List.replicate (t - d) 0 ++ tb n d
theorem fill_set {n t d : Nat} (hd : d < t) : ((bv (ib (fill n t d))).toArray).setIfInBounds (t - 1 - d) (.int .u8 ((n / 2 ^ d % 2 : Nat) : Int)) = (bv (ib (fill n t (d + 1)))).toArray := by
  unfold fill
  rw [tb_cons, show t - d = (t - 1 - d) + 1 by omega, show t - (d + 1) = t - 1 - d by omega, List.replicate_succ']
  simp [bv, ib]
theorem fill_len {n t d : Nat} (hd : d ≤ t) : (fill n t d).length = t := by
  unfold fill
  simp [tb_len]
  omega
theorem bits_ (n t : Nat) (w : World) (hn : n < 4294967296) (ht : t ≤ 32) : Calls Tryz.prog 42 #[.int .u32 (n : Int), .int .i64 (t : Int)] w (Own w.heap.size t (ib (tb n t)) w) := by
  have hmk := fun w => make_bytes t (by omega) w
  go_enter Tryz.func42, Tryz.ntmps42
  go_wp2
  clear hmk
  go_loopw [0, 6] (fun nv i wr => ∃ d e : Nat, d + e = t ∧ nv = .int .u32 ((n / 2 ^ d : Nat) : Int) ∧ i = .int .i64 ((e : Int) - 1) ∧ Blk wr w.heap.size 5 (bv (ib (fill n t d))).toArray ∧ Keeps (fun _ => False) w wr) (fun _ i _ => (intOf i + 1).toNat)
  case atStart => exact ⟨0, t, by omega, by simp, rfl, by simpa [fill, tb] using Blk.new w 5 _, (Keeps.refl _ _).alloc _⟩
  case round =>
    obtain ⟨d, e, hde, rfl, rfl, hb, hk⟩ := hrel
    have HB := Lib.hid hb
    have HK := Lib.hid hk
    have hle : n / 2 ^ d < 4294967296 := Nat.lt_of_le_of_lt (Nat.div_le_self _ _) hn
    have HN2 : Hid (n / 2 ^ d / 2 = n / 2 ^ (d + 1)) := by show n / 2 ^ d / 2 = n / 2 ^ (d + 1); rw [Nat.div_div_eq_div_mul, Nat.pow_succ]
    rcases e with _ | e
    · obtain rfl : d = t := by omega
      clear HN2
      go_wp2
      go_ret
      refine ⟨_, _, rfl, ⟨by simp [bv, ib_len, tb_len], .inr ⟨_, _, _, rfl, Nat.le_refl _, HB.out, Nat.le_refl _, by simp only [maxLen]; omega, by simp [bv, ib_len, fill_len], ?_⟩⟩, HK.out⟩
      simp [fill]
      rw [List.take_of_length_le (by simp [bv, ib_len, tb_len])]
    · have hc : wr.cell? ⟨w.heap.size, e, none⟩ = (bv (ib (fill n t d))).toArray[e]? := hb.cell e
      have hfl : (bv (ib (fill n t d))).length = t := by rw [bv_len, ib_len, fill_len (by omega)]
      obtain ⟨u, hu⟩ : ∃ u, (bv (ib (fill n t d))).toArray[e]? = some u := ⟨_, Array.getElem?_eq_getElem (by simp [hfl]; omega)⟩
      rw [hu] at hc
      have hf : wr.frozen? ⟨w.heap.size, e, none⟩ = false := hb.frozen e
      have HS : Hid (Blk (wr.setCell ⟨w.heap.size, e, none⟩ (.int .u8 ((n / 2 ^ d % 2 : Nat) : Int))) w.heap.size 5 (bv (ib (fill n t (d + 1)))).toArray) := by
        have hs := fill_set (n := n) (t := t) (d := d) (by omega)
        rw [show t - 1 - d = e by omega] at hs
        have h := hb.setCell e (.int .u8 ((n / 2 ^ d % 2 : Nat) : Int))
        rw [hs] at h
        exact h
      have HKS := Lib.hid (hk.setCell (p := ⟨w.heap.size, e, none⟩) (.inr (Nat.le_refl _)) (.int .u8 ((n / 2 ^ d % 2 : Nat) : Int)))
      have he0 : (0 : Int) ≤ (e : Int) := by omega
      have het : (e : Int) < (t : Int) := by omega
      clear hb hk hu hfl
      generalize n / 2 ^ d = N at *
      go_wp2
      exact ⟨⟨d + 1, e, by omega, by rw [← HN2.out]; rfl, by go_num, HS.out, HKS.out⟩, by simp [intOf]⟩
theorem of_len (xs : List Nat) : (ib (ofB xs)).length = 8 * xs.length := by rw [ib_len, ofB_len]
end Go.Proofs.YtgaofnmgdefdcaaGreatDoor.Bq


namespace Go.Proofs.YtgaofnmgdefdcaaGreatDoor.Bw
open Go.RowKit Go.Proofs.YtgaofnmgdefdcaaGreatDoor.Gen Go.Proofs.YtgaofnmgdefdcaaGreatDoor.Cl Go.Proofs.YtgaofnmgdefdcaaGreatDoor.Bp Go.Proofs.YtgaofnmgdefdcaaGreatDoor.Bf

/-- The bits of bytes. -/
def bitsOf (xs : List Int) : List Nat := ofB (xs.map Int.toNat)
theorem bitsOf_len (xs : List Int) : (bitsOf xs).length = 8 * xs.length := by simp [bitsOf, ofB_len]
theorem bitsOf_snoc (xs : List Int) (x : Int) : bitsOf (xs ++ [x]) = bitsOf xs ++ tb x.toNat 8 := by simp [bitsOf, ofB]

/-- Block g is a Writer: whole bytes xs, in a row of its own, v; of last the lowest o bits are open. -/
structure At (base g : Nat) (v : Value) (xs : List Int) (last o : Nat) (w : World) : Prop where
  low : base ≤ g
  size : base ≤ w.heap.size
  form : ∃ A c, v = .slice A xs.length c
  blk : Blk w g 71 #[v, .int .u64 last, .int .i64 o]
  own : w.ownsRow base 5 1 v xs.length (bv xs)
  fit : last < 18446744073709551616
  byte : ∀ x ∈ xs, 0 ≤ x ∧ x < 256
/-- It has these bits. -/
def IsBw (base g : Nat) (v : Value) (l : List Nat) (w : World) : Prop := ∃ xs last o, At base g v xs last o w ∧ o < 8 ∧ l = bitsOf xs ++ tb last o
/-- The blocks that a Writer may turn. -/
def Its (g : Nat) (v : Value) (k : Nat) : Prop := k = g ∨ v.ownBlock = some k
/-- From v in w to v' in w': only its own blocks have turned, and it lies where it lay, or in new memory. -/
structure Moves (g : Nat) (v v' : Value) (w w' : World) : Prop where
  keeps : Keeps (Its g v) w w'
  at_ : v'.ownBlock = v.ownBlock ∨ ∃ b, v'.ownBlock = some b ∧ w.heap.size ≤ b
theorem Moves.refl (g : Nat) (v : Value) (w : World) : Moves g v v w w := ⟨Keeps.refl _ _, .inl rfl⟩
theorem Moves.trans {g : Nat} {v v1 v2 : Value} {w w1 w2 : World} (h : Moves g v v1 w w1) (h2 : Moves g v1 v2 w1 w2) : Moves g v v2 w w2 := by
  obtain ⟨k, ho⟩ := h
  obtain ⟨hk2, ho2⟩ := h2
  refine ⟨⟨hk2.os.trans k.os, hk2.tape.trans k.tape, hk2.output.trans k.output, Nat.le_trans k.size hk2.size, fun b hb hn => ?_⟩, ?_⟩
  · refine (hk2.block b (Nat.lt_of_lt_of_le hb k.size) ?_).trans (k.block b hb hn)
    rintro (rfl | h)
    · exact hn (.inl rfl)
    · rcases ho with ho | ⟨b', ho, hb'⟩
      · exact hn (.inr (ho ▸ h))
      · rw [ho] at h
        injection h with h
        omega
  · rcases ho2 with ho2 | ⟨b', ho2, hb'⟩
    · rw [ho2]
      exact ho
    · exact .inr ⟨b', ho2, Nat.le_trans k.size hb'⟩
/-- Behind a put. -/
def Puts (base g : Nat) (v : Value) (l : List Nat) (w : World) (r : Ending) (w' : World) : Prop :=
  r = .returned (.tuple #[]) ∧ ∃ v', IsBw base g v' l w' ∧ Moves g v v' w w'

theorem At.keeps {S : Nat → Prop} {base g : Nat} {v : Value} {xs : List Int} {last o : Nat} {w w1 : World} (h : At base g v xs last o w) (k : Keeps S w w1) (hn : ∀ b, Its g v b → ¬ S b) : At base g v xs last o w1 :=
  ⟨h.low, Nat.le_trans h.size k.size, h.form, h.blk.keeps k (hn g (.inl rfl)), own_keeps h.own k fun b hb => hn b (.inr hb), h.fit, h.byte⟩
theorem At.drew {base g : Nat} {v : Value} {xs : List Int} {last o : Nat} {w : World} (h : At base g v xs last o w) : At base g v xs last o w.drew := h.keeps (S := fun _ => False) ((Keeps.refl _ _).drewN 1) fun _ _ => id
theorem At.ne {base g : Nat} {v : Value} {xs : List Int} {last o : Nat} {w : World} (h : At base g v xs last o w) : ∀ b, v.ownBlock = some b → b ≠ g := fun b hb e => by
  subst e
  exact own_ne h.own h.blk (by decide) hb
theorem At.set {base g : Nat} {v : Value} {xs : List Int} {last o last' o' : Nat} {w : World} (h : At base g v xs last o w) (i : Nat) (u : Value) (hl : last' < 18446744073709551616)
    (hs : (#[v, .int .u64 last, .int .i64 o] : Array Value).setIfInBounds i u = #[v, .int .u64 last', .int .i64 o']) : At base g v xs last' o' (w.setCell ⟨g, i, none⟩ u) :=
  ⟨h.low, by simpa [World.setCell] using h.size, h.form, hs ▸ h.blk.setCell i u, own_keeps (S := (· = g)) h.own ((Keeps.refl _ _).setOwn _ _) h.ne, hl, h.byte⟩
theorem IsBw.keeps {S : Nat → Prop} {base g : Nat} {v : Value} {l : List Nat} {w w1 : World} (h : IsBw base g v l w) (k : Keeps S w w1) (hn : ∀ b, Its g v b → ¬ S b) : IsBw base g v l w1 := by
  obtain ⟨xs, last, o, h, h2⟩ := h
  exact ⟨xs, last, o, h.keeps k hn, h2⟩
theorem IsBw.its {base g : Nat} {v : Value} {l : List Nat} {w : World} (h : IsBw base g v l w) : ∀ k, Its g v k → base ≤ k ∧ k < w.heap.size := by
  obtain ⟨xs, last, o, h, _⟩ := h
  rintro k (rfl | hk)
  · exact ⟨h.low, h.blk.lt⟩
  · exact h.own.lt k hk
theorem new_bw (w : World) : IsBw w.heap.size w.heap.size (.slice none 0 0) [] (w.alloc (.cells #[.slice none 0 0, .int .u64 0, .int .i64 0] 71)) :=
  ⟨[], 0, 0, ⟨Nat.le_refl _, by simp, ⟨none, 0, rfl⟩, Blk.new _ _ _, World.ownsRow_nil _ _ _ _, by decide, by simp⟩, by decide, rfl⟩

/-- The end of a round of Put: the row that append gave is stored into the Writer. -/
theorem stored {base g : Nat} {v v3 : Value} {xs : List Int} {x last o : Nat} {w w3 : World} (h : At base g v xs last o w) (h7 : Blk w3 g 71 #[v, .int .u64 last, .int .i64 o])
    (ho : w3.ownsRow base 5 1 v3 (xs ++ [(x : Int)]).length (bv (xs ++ [(x : Int)]))) (hx : x < 256) (hk : Keeps (Its g v) w w3) (hat : v3.ownBlock = v.ownBlock ∨ ∃ b, v3.ownBlock = some b ∧ w.heap.size ≤ b) :
    At base g v3 (xs ++ [(x : Int)]) last o (w3.setCell ⟨g, 0, none⟩ v3) ∧ Moves g v v3 w (w3.setCell ⟨g, 0, none⟩ v3) := by
  refine ⟨⟨h.low, ?_, ?_, ?_, ?_, h.fit, ?_⟩, hk.setCell (p := ⟨g, 0, none⟩) (.inl (.inl rfl)) _, hat⟩
  · have := hk.size
    have := h.size
    simp [World.setCell]
    omega
  · obtain ⟨A', c', h, _⟩ := own_form ho
    exact ⟨A', c', h⟩
  · simpa using h7.setCell 0 v3
  · exact own_keeps (S := (· = g)) ho ((Keeps.refl _ _).setOwn _ _) fun b hb' e => by subst e; exact own_ne ho h7 (by decide) hb'
  · intro y hy
    rcases List.mem_append.1 hy with hy | hy
    · exact h.byte y hy
    · rw [List.mem_singleton.1 hy]
      omega

theorem put_none (n s : Int) (w : World) : Calls Tryz.prog 39 #[.pointer none, .int .u32 n, .int .i64 s] w fun r w' => r = .returned (.tuple #[]) ∧ w' = w := by
  go_enter Tryz.func39, Tryz.ntmps39
  go_wp2
  refine bodyPost_ret (results_none rfl _ _ _) rfl ?_
  exact ⟨rfl, rfl⟩
theorem bytes_none (w : World) : Calls Tryz.prog 45 #[.pointer none] w fun r w' => r = .returned (.slice none 0 0) ∧ w' = w := by
  go_enter Tryz.func45, Tryz.ntmps45
  go_wp2
  go_ret
  exact ⟨rfl, rfl⟩

/-- Bytes out of bits, in a row of its own. -/
def Packed (base : Nat) (l : List Nat) (w : World) (r : Ending) (w' : World) : Prop :=
  ∃ A c ys n, ys.length = n ∧ r = .returned (.slice A n c) ∧ IsPack l (ys.map Int.toNat) ∧ (∀ y ∈ ys, 0 ≤ y ∧ y < 256) ∧ w'.ownsRow base 5 1 (.slice A n c) n (bv ys) ∧ Keeps (fun _ => False) w w'
theorem packed_one {l : List Nat} {xs ys : List Int} (h : IsPack l (xs.map Int.toNat)) (h' : IsPack l (ys.map Int.toNat)) (hx : ∀ x ∈ xs, 0 ≤ x ∧ x < 256) (hy : ∀ y ∈ ys, 0 ≤ y ∧ y < 256) : xs = ys := by
  have h1 := congrArg (List.map (fun n : Nat => (n : Int))) (pack_one h h')
  rw [List.map_map, List.map_map] at h1
  have e : ∀ zs : List Int, (∀ z ∈ zs, 0 ≤ z ∧ z < 256) → zs.map ((fun n : Nat => (n : Int)) ∘ Int.toNat) = zs := by
    intro zs hz
    rw [show zs = zs.map id by simp, List.map_map]
    refine List.map_congr_left fun z hm => ?_
    have := hz z (by simpa using hm)
    simp
    omega
  rwa [e xs hx, e ys hy] at h1
theorem whole_pack {xs : List Int} (h : ∀ x ∈ xs, 0 ≤ x ∧ x < 256) : IsPack (bitsOf xs) (xs.map Int.toNat) := pack_whole fun x hx => by
  obtain ⟨y, hy, rfl⟩ := List.mem_map.1 hx
  have := h y hy
  omega
theorem part_pack {xs : List Int} {last o x : Nat} (h : ∀ x ∈ xs, 0 ≤ x ∧ x < 256) (h0 : 0 < o) (h8 : o < 8) (hx : last * 2 ^ (8 - o) % 256 = x) : IsPack (bitsOf xs ++ tb last o) ((xs ++ [(x : Int)]).map Int.toNat) := by
  have hp := pack_part (xs := xs.map Int.toNat) (u := tb last o) (whole_pack h).1 (tb_bit o last) (by rw [tb_len]; exact h0) (by rw [tb_len]; exact h8)
  rw [tb_len, num_tb] at hp
  have e : last % 2 ^ o * 2 ^ (8 - o) = x := by
    rw [← hx, show (256 : Nat) = 2 ^ o * 2 ^ (8 - o) by rw [← Nat.pow_add, show o + (8 - o) = 8 by omega], Nat.mul_mod_mul_right]
  rw [e] at hp
  simpa [bitsOf] using hp
theorem bytes (g base : Nat) (v : Value) (l : List Nat) (w : World) (h : IsBw base g v l w) (hl : l.length ≤ 7999000) :
    Calls Tryz.prog 45 #[.pointer (some ⟨g, 0, none⟩)] w (Packed w.heap.size l w) := by
  obtain ⟨xs, last, o, h, ho, rfl⟩ := h
  obtain ⟨A, c, rfl⟩ := h.form
  have h0 : w.cell? ⟨g, 0, none⟩ = some (.slice A xs.length c) := h.blk.cell 0
  have hxl : xs.length < 1000000 := by
    rw [List.length_append, bitsOf_len, tb_len] at hl
    omega
  have H := Lib.hid h
  clear h hl
  go_enter Tryz.func45, Tryz.ntmps45
  go_wp2_with fail
  refine (clone A c xs w (Lies.of_own H.out.own) (by omega)).mono ?_
  rintro e w1 ⟨A1, c1, rfl, hv, hk⟩
  have HV := Lib.hid hv
  have HK := Lib.hid hk
  have H1 := Lib.hid (H.out.keeps hk (fun _ _ => id))
  have h2 : w1.cell? ⟨g, 2, none⟩ = some (.int .i64 o) := H1.out.blk.cell 2
  clear hv hk h0
  by_cases h00 : o = 0
  · subst h00
    go_wp2
    go_ret
    exact ⟨A1, c1, xs, _, rfl, rfl, by simpa [tb] using whole_pack H.out.byte, H.out.byte, HV.out, HK.out⟩
  · obtain ⟨i0, hi0, hz0, hz1, hz2⟩ := info_parts u8_info
    have h1 : w1.cell? ⟨g, 1, none⟩ = some (.int .u64 last) := H1.out.blk.cell 1
    have hpos : 0 < o := by omega
    have hs0 : (0 : Int) ≤ 8 - (o : Int) := by omega
    have hs1 : IntKind.i64.wrap (8 - (o : Int)) = 8 - (o : Int) := IntWalk.i64_in _ (by omega)
    have hs2 : (8 - (o : Int)).toNat = 8 - o := by omega
    obtain ⟨L, hL⟩ : ∃ L, last * 2 ^ (8 - o) % 18446744073709551616 = L := ⟨_, rfl⟩
    obtain ⟨x, hx⟩ : ∃ x, L % 256 = x := ⟨_, rfl⟩
    have hwl : IntKind.u64.wrap ((last : Int) * 2 ^ (8 - o)) = (L : Int) := by rw [IntKind.wrap_u64, ← hL]; simp
    have hw8 : IntKind.u8.wrap (L : Int) = (x : Int) := by rw [IntKind.wrap_u8, ← hx]; simp
    have HX : Hid (last * 2 ^ (8 - o) % 256 = x) := by
      show last * 2 ^ (8 - o) % 256 = x
      rw [← hx, ← hL]
      omega
    have HXB : Hid (x < 256) := by show x < 256; omega
    have hnews : ∀ j u, [Value.int .u8 (x : Int)][j]? = some u → (w1.alloc (.cells #[.int .u8 (x : Int)] 5)).cell? ((⟨w1.heap.size, 0, none⟩ : Addr).add j) = some u := by
      intro j u hu
      rw [add_none, (Blk.new w1 5 #[.int .u8 (x : Int)]).cell]
      simpa using hu
    have HNW := Lib.hid hnews
    have e1 : (w1.alloc (.cells #[.int .u8 (x : Int)] 5)).cell? ⟨g, 1, none⟩ = some (.int .u64 last) := (H1.out.blk.alloc _).cell 1
    have e2 : (w1.alloc (.cells #[.int .u8 (x : Int)] 5)).cell? ⟨g, 2, none⟩ = some (.int .i64 o) := (H1.out.blk.alloc _).cell 2
    clear hnews hx hL
    go_wp2
    go_region_held3 (fun w' => w'.cell? ⟨g, 1, none⟩ = some (.int .u64 last) ∧ w'.cell? ⟨g, 2, none⟩ = some (.int .i64 o)) (first | exact ⟨e1, e2⟩ | exact ⟨h1, h2⟩ | exact ⟨k1, k2⟩)
      ((refine step_append_lies _ (by rfl) _ _ _ (by rfl) w.heap.size 5 i0 _ 1 1 Tryz.underlying29 hi0 hz0 hz1 hz2 rfl (by omega) (.slice A1 xs.length c1) xs.length (bv xs) (by rfl) (by exact HV.out.alloc _) ⟨w1.heap.size, 0, none⟩ 1 1 [.int .u8 (x : Int)] (by rfl) rfl (by exact HNW.out) (by simp [Value.oneCell']) (by omega) (by simp only [maxLen]; omega) (by omega) (by have := HK.out.size; simp; omega) _ rfl ?_
        intro g3 cap3 w3 hown3 hgrow3 hat3 hlt3
        have h7 : Blk w3 g 71 #[.slice A xs.length c, .int .u64 last, .int .i64 o] := Blk.grown (by exact H1.out.blk.alloc _) hgrow3 (fun e => by have hx1 := (HV.out.lt _ e).1; have hx2 := H.out.blk.lt; omega)
        have k1 : w3.cell? ⟨g, 1, none⟩ = some (.int .u64 last) := h7.cell 1
        have k2 : w3.cell? ⟨g, 2, none⟩ = some (.int .i64 o) := h7.cell 2
        have HO3 := Lib.hid hown3
        have HG3 := Lib.hid hgrow3
        clear h7 hown3 hgrow3 hat3 hlt3))
    go_wp2
    go_ret
    refine ⟨_, _, xs ++ [(x : Int)], _, by simp, rfl, part_pack H.out.byte hpos ho HX.out, ?_, by simpa [bv_append, bv] using HO3.out, Keeps.grown (w1 := (w1.alloc (.cells #[.int .u8 (x : Int)] 5)).drew) (by exact (HK.out.alloc _).drewN 1) HG3.out (fun k hk => .inr (HV.out.lt k hk).1)⟩
    intro y hy
    rcases List.mem_append.1 hy with hy | hy
    · exact H.out.byte y hy
    · rw [List.mem_singleton.1 hy]
      have := HXB.out
      omega
end Go.Proofs.YtgaofnmgdefdcaaGreatDoor.Bw

namespace Go.Proofs.YtgaofnmgdefdcaaGreatDoor.Bw
open Go.RowKit Go.Proofs.YtgaofnmgdefdcaaGreatDoor.Gen Go.Proofs.YtgaofnmgdefdcaaGreatDoor.Cl Go.Proofs.YtgaofnmgdefdcaaGreatDoor.Bp Go.Proofs.YtgaofnmgdefdcaaGreatDoor.Bf

set_option maxHeartbeats 4000000 in
set_option maxRecDepth 100000 in
theorem put (g base : Nat) (v : Value) (l : List Nat) (n : Nat) (s : Int) (w : World) (h : IsBw base g v l w) (hl : l.length + 32 ≤ 8000000) (hn : n < 4294967296) :
    Calls Tryz.prog 39 #[.pointer (some ⟨g, 0, none⟩), .int .u32 n, .int .i64 s] w (Puts base g v (l ++ tb n (sz s)) w) := by
  obtain ⟨xs, last, o, h, ho, rfl⟩ := h
  have hs := sz_le s
  obtain ⟨A, c, rfl⟩ := h.form
  have h0 : w.cell? ⟨g, 0, none⟩ = some (.slice A xs.length c) := h.blk.cell 0
  have h1 : w.cell? ⟨g, 1, none⟩ = some (.int .u64 last) := h.blk.cell 1
  have h2 : w.cell? ⟨g, 2, none⟩ = some (.int .i64 o) := h.blk.cell 2
  have f1 : w.frozen? ⟨g, 1, none⟩ = false := h.blk.frozen 1
  have hfit := h.fit
  have H := Lib.hid h
  clear h
  go_enter Tryz.func39, Tryz.ntmps39
  go_wp2_with fail
  refine (near s _).mono ?_
  rintro e w1 ⟨rfl, rfl⟩
  generalize sz s = t at *
  have ht0 : (0 : Int) ≤ (t : Int) := by omega
  obtain ⟨q, hq⟩ : ∃ q, n % 2 ^ t = q := ⟨_, rfl⟩
  obtain ⟨L, hL⟩ : ∃ L, last * 2 ^ t % 18446744073709551616 = L := ⟨_, rfl⟩
  have hq1 : q < 4294967296 := by have := Nat.mod_le n (2 ^ t); omega
  have hL1 : L < 18446744073709551616 := by omega
  have hwn : IntKind.u64.wrap (n : Int) = (n : Int) := IntWalk.u64_in _ (by omega)
  have hwq : IntKind.u64.wrap (q : Int) = (q : Int) := IntWalk.u64_in _ (by omega)
  have hwl : IntKind.u64.wrap ((last : Int) * 2 ^ t) = (L : Int) := by rw [IntKind.wrap_u64, ← hL]; simp
  have hor : bits .or .u64 (L : Int) (q : Int) = ((push last n t : Nat) : Int) := by rw [u64_or_nat L q hL1 (by omega), ← hL, ← hq, push_or last n (by omega)]
  obtain ⟨P, hP⟩ : ∃ P, push last n t = P := ⟨_, rfl⟩
  rw [hP] at hor
  have HP := Lib.hid hP
  have HPL : Hid (P < 18446744073709551616) := by rw [← hP]; exact push_lt last n (by omega)
  have HQ := Lib.hid hq
  clear hP hq hL
  have HO := Lib.hid ho
  have HL := Lib.hid hl
  have HC2 := Lib.hid h2
  clear ho hl h2 h0
  go_upto_region 2 with fail
  go_cut [2] from 10 (fun sl wx => sl = .int .i64 t ∧ At base g (.slice A xs.length c) xs P o wx ∧ Keeps (Its g (.slice A xs.length c)) w1 wx)
  case first =>
    go_region_with ((go_at_call 66; refine (lowest_q n t q _ (by omega) hs HQ.out).mono ?_; rintro e w2 ⟨rfl, rfl⟩))
    all_goals go_wp2_with fail
    all_goals go_meet
    all_goals exact ⟨rfl, (H.out.set 1 _ HPL.out rfl).drew, ((Keeps.refl _ _).setCell (p := ⟨g, 1, none⟩) (.inl (.inl rfl)) _).drewN 1⟩
  case rest =>
    obtain ⟨rfl, hat, hk⟩ := hcut
    have HA := Lib.hid hat
    have HK := Lib.hid hk
    have c2 : wc.cell? ⟨g, 2, none⟩ = some (.int .i64 o) := hat.blk.cell 2
    have d2 : wc.frozen? ⟨g, 2, none⟩ = false := hat.blk.frozen 2
    have ho := HO.out
    clear hat hk h1 f1 hfit hq1 hL1 hwn hwq hwl hor HQ HC2 H
    have HA2 := Lib.hid (HA.out.set 2 (.int .i64 ((o : Int) + (t : Int))) HPL.out (o' := o + t) (by simp))
    have HK2 := Lib.hid (HK.out.setCell (p := ⟨g, 2, none⟩) (.inl (.inl rfl)) (.int .i64 ((o : Int) + (t : Int))))
    have HT : Hid (bitsOf xs ++ tb P (o + t) = bitsOf xs ++ tb last o ++ tb n t) := by
      show bitsOf xs ++ tb P (o + t) = bitsOf xs ++ tb last o ++ tb n t
      rw [← HP.out, push_tb (by omega), List.append_assoc]
    have HN : Hid (8 * xs.length + (o + t) ≤ 8000000) := by
      show 8 * xs.length + (o + t) ≤ 8000000
      have := HL.out
      rw [List.length_append, bitsOf_len, tb_len] at this
      omega
    have HD : Hid (o + t ≤ 39) := by show o + t ≤ 39; omega
    clear HA HK HP HO HL
    go_wp2
    generalize wc.setCell ⟨g, 2, none⟩ (.int .i64 ((o : Int) + (t : Int))) = W at *
    generalize bitsOf xs ++ tb last o ++ tb n t = l at *
    clear c2 d2
    obtain ⟨i0, hi0, hz0, hz1, hz2⟩ := info_parts u8_info
    go_loopw [] (fun wr => ∃ (A' : Option Addr) (xs' : List Int) (c' o' : Nat), At base g (.slice A' xs'.length c') xs' P o' wr ∧ bitsOf xs' ++ tb P o' = l ∧ 8 * xs'.length + o' ≤ 8000000 ∧ o' ≤ 39 ∧ Moves g (.slice A xs.length c) (.slice A' xs'.length c') w1 wr) (fun wr => (intOf ((wr.cell? ⟨g, 2, none⟩).getD undef)).toNat)
    case atStart => exact ⟨A, xs, c, o + t, HA2.out, HT.out, HN.out, HD.out, HK2.out, .inl rfl⟩
    case round =>
      obtain ⟨A', xs', c', o', hat, hbits, hlen, ho', hmv⟩ := hrel
      have c0 : wr.cell? ⟨g, 0, none⟩ = some (.slice A' xs'.length c') := hat.blk.cell 0
      have c1 : wr.cell? ⟨g, 1, none⟩ = some (.int .u64 P) := hat.blk.cell 1
      have c2 : wr.cell? ⟨g, 2, none⟩ = some (.int .i64 o') := hat.blk.cell 2
      have d0 : wr.frozen? ⟨g, 0, none⟩ = false := hat.blk.frozen 0
      have d2 : wr.frozen? ⟨g, 2, none⟩ = false := hat.blk.frozen 2
      have HA := Lib.hid hat
      have HB := Lib.hid hbits
      have HM := Lib.hid hmv
      clear hat hbits hmv HA2 HK2 HT HN HD
      by_cases h8 : 8 ≤ o'
      · obtain ⟨o2, rfl⟩ : ∃ o2, o' = o2 + 8 := ⟨o' - 8, by omega⟩
        obtain ⟨x, hx⟩ : ∃ x, P / 2 ^ o2 % 256 = x := ⟨_, rfl⟩
        have hw8 : IntKind.u8.wrap ((P : Int) / 2 ^ o2) = (x : Int) := by rw [IntKind.wrap_u8, ← hx]; simp
        have HX := Lib.hid hx
        have HXB : Hid (x < 256) := by show x < 256; omega
        have HA2 := Lib.hid (HA.out.set 2 (.int .i64 (o2 : Int)) HPL.out (o' := o2) (by simp))
        have HM2 := Lib.hid (HM.out.trans ⟨(Keeps.refl _ _).setCell (p := ⟨g, 2, none⟩) (.inl (.inl rfl)) (.int .i64 (o2 : Int)), .inl rfl⟩)
        have ho0 : (0 : Int) ≤ (o2 : Int) := by omega
        have HC := Lib.hid c2
        clear hx c0 c1 d0 HA HM
        go_wp2
        generalize wr.setCell ⟨g, 2, none⟩ (.int .i64 (o2 : Int)) = W2 at *
        clear c2 d2
        have c0 : W2.cell? ⟨g, 0, none⟩ = some (.slice A' xs'.length c') := HA2.out.blk.cell 0
        have c1 : W2.cell? ⟨g, 1, none⟩ = some (.int .u64 P) := HA2.out.blk.cell 1
        have c2 : W2.cell? ⟨g, 2, none⟩ = some (.int .i64 o2) := HA2.out.blk.cell 2
        have hnews : ∀ j u, [Value.int .u8 (x : Int)][j]? = some u → (W2.alloc (.cells #[.int .u8 (x : Int)] 5)).cell? ((⟨W2.heap.size, 0, none⟩ : Addr).add j) = some u := by
          intro j u hu
          rw [add_none, (Blk.new W2 5 #[.int .u8 (x : Int)]).cell]
          simpa using hu
        have HNW := Lib.hid hnews
        have e0 : (W2.alloc (.cells #[.int .u8 (x : Int)] 5)).cell? ⟨g, 0, none⟩ = some (.slice A' xs'.length c') := (HA2.out.blk.alloc _).cell 0
        have hxl : xs'.length ≤ 1000000 := by omega
        clear hnews HPL
        go_region_law ((refine step_append_lies _ (by rfl) _ _ _ (by rfl) base 5 i0 _ 1 1 Tryz.underlying29 hi0 hz0 hz1 hz2 rfl (by omega) (.slice A' xs'.length c') xs'.length (bv xs') (by rfl) (by exact HA2.out.own.alloc _) ⟨W2.heap.size, 0, none⟩ 1 1 [.int .u8 (x : Int)] (by rfl) rfl (by exact HNW.out) (by simp [Value.oneCell']) (by omega) (by simp only [maxLen]; omega) (by omega) (by have := HA2.out.size; simp; omega) _ rfl ?_
                        intro g3 cap3 w3 hown3 hgrow3 hat3 hlt3
                        have h7 : Blk w3 g 71 #[.slice A' xs'.length c', .int .u64 P, .int .i64 o2] := Blk.grown (by exact HA2.out.blk.alloc _) hgrow3 (fun e => HA2.out.ne _ e rfl)
                        have c3 : w3.cell? ⟨g, 0, none⟩ = some (.slice A' xs'.length c') := h7.cell 0
                        have d3 : w3.frozen? ⟨g, 0, none⟩ = false := h7.frozen 0
                        have H7 := Lib.hid h7
                        have HO3 := Lib.hid hown3
                        have HG3 := Lib.hid hgrow3
                        have HT3 := Lib.hid hat3
                        clear h7 hown3 hgrow3 hat3 hlt3))
        all_goals go_wp2
        all_goals
          have HR := stored HA2.out H7.out (x := x) (by simpa [bv_append, bv] using HO3.out) HXB.out (Keeps.grown (w1 := (W2.alloc (.cells #[.int .u8 (x : Int)] 5)).drew) (by exact ((Keeps.refl _ _).alloc _).drewN 1) HG3.out (fun k hk => .inl (.inr hk))) (by rcases HT3.out with h | h; exact .inl h.symm; exact .inr ⟨_, rfl, by rw [h]; simp⟩)
          refine ⟨⟨some ⟨g3, 0, none⟩, xs' ++ [(x : Int)], cap3, o2, by simpa using HR.1, by rw [bitsOf_snoc, Int.toNat_natCast, ← HX.out, List.append_assoc, ← shift_tb]; exact HB.out, by simp; omega, by omega, by simpa using HM2.out.trans HR.2⟩, ?_⟩
          have hm2 := HR.1.blk.cell 2
          have hm1 := HC.out
          rw [hm2, hm1]
          show ((o2 : Int)).toNat < (((o2 + 8 : Nat) : Int)).toNat
          omega
      · go_wp2
        go_end0
        exact ⟨rfl, _, ⟨xs', P, o', HA.out, by omega, HB.out.symm⟩, HM.out⟩
end Go.Proofs.YtgaofnmgdefdcaaGreatDoor.Bw


namespace Go.Proofs.YtgaofnmgdefdcaaGreatDoor.Qh
open Go.RowKit Go.Proofs.YtgaofnmgdefdcaaGreatDoor.Gen

/-- R hangs on the blocks that F holds of, all of them there. -/
def Held (F : Nat → Prop) (R : World → Prop) (w : World) : Prop :=
  (∀ k, F k → k < w.heap.size) ∧ ∀ S w1, Keeps S w w1 → (∀ k, F k → ¬ S k) → R w1
section
variable {F F' S : Nat → Prop} {R R' : World → Prop} {w w1 w2 : World}
theorem Held.out (h : Held F R w) : R w := h.2 (fun _ => False) w (Keeps.refl _ _) (fun _ _ => id)
theorem Held.lt (h : Held F R w) {k : Nat} (hk : F k) : k < w.heap.size := h.1 k hk
theorem Held.keeps (h : Held F R w) (k : Keeps S w w1) (hn : ∀ b, F b → ¬ S b) : Held F R w1 :=
  ⟨fun b hb => Nat.lt_of_lt_of_le (h.1 b hb) k.size, fun S' w2 k2 hn2 =>
    h.2 (fun b => S b ∨ S' b) w2 ((k.mono fun _ _ => .inl).trans (k2.mono fun _ _ => .inr)) fun b hb hx => hx.elim (hn b hb) (hn2 b hb)⟩
theorem Held.more (h : Held F R w) (k : Keeps (fun _ => False) w w1) : Held F R w1 := h.keeps k fun _ _ => id
theorem Held.mono (h : Held F R w) (hF : ∀ k, F k → F' k) (hl : ∀ k, F' k → k < w.heap.size) : Held F' R w :=
  ⟨hl, fun S w1 k hn => h.2 S w1 k fun b hb => hn b (hF b hb)⟩
theorem Held.imp (h : Held F R w) (hr : ∀ u, R u → R' u) : Held F R' w := ⟨h.1, fun S w1 k hn => hr w1 (h.2 S w1 k hn)⟩
theorem Held.and (h : Held F R w) (h' : Held F' R' w) : Held (fun k => F k ∨ F' k) (fun u => R u ∧ R' u) w :=
  ⟨fun k hk => hk.elim (h.1 k) (h'.1 k), fun S w1 k hn => ⟨h.2 S w1 k fun b hb => hn b (.inl hb), h'.2 S w1 k fun b hb => hn b (.inr hb)⟩⟩
/-- From w to w1 only blocks of F have turned; what is F' now was of F, or is new. -/
structure Step (F F' : Nat → Prop) (w w1 : World) : Prop where
  keeps : Keeps F w w1
  sub : ∀ k, F' k → F k ∨ w.heap.size ≤ k
theorem Step.refl (F : Nat → Prop) (w : World) : Step F F w w := ⟨Keeps.refl _ _, fun _ => .inl⟩
theorem Step.trans {F1 F2 : Nat → Prop} (h : Step F F1 w w1) (h2 : Step F1 F2 w1 w2) : Step F F2 w w2 := by
  refine ⟨⟨h2.keeps.os.trans h.keeps.os, h2.keeps.tape.trans h.keeps.tape, h2.keeps.output.trans h.keeps.output, Nat.le_trans h.keeps.size h2.keeps.size, fun k hk hn => ?_⟩, fun k hk => ?_⟩
  · refine (h2.keeps.block k (Nat.lt_of_lt_of_le hk h.keeps.size) fun h1 => ?_).trans (h.keeps.block k hk hn)
    rcases h.sub k h1 with h3 | h3
    · exact hn h3
    · omega
  · rcases h2.sub k hk with h3 | h3
    · exact h.sub k h3
    · exact .inr (Nat.le_trans h.keeps.size h3)
theorem Step.quiet (k : Keeps (fun _ => False) w w1) : Step F F w w1 := ⟨k.none_, fun _ => .inl⟩
theorem Step.more (h : Step F F' w w1) (k : Keeps (fun _ => False) w1 w2) : Step F F' w w2 := h.trans (.quiet k)
theorem Step.pre (k : Keeps (fun _ => False) w w1) (h : Step F F' w1 w2) : Step F F' w w2 := (Step.quiet k).trans h
theorem Step.of_drew (h : Step F F' w.drew w1) : Step F F' w w1 := ⟨h.keeps.of_drew, h.sub⟩
/-- What hangs on other blocks stays. -/
theorem Held.step {G : Nat → Prop} (h : Held G R w) (s : Step F F' w w1) (hd : ∀ k, G k → ¬ F k) : Held G R w1 := h.keeps s.keeps hd
theorem Held.apart {G : Nat → Prop} (h : Held G R w) (s : Step F F' w w1) (hd : ∀ k, G k → ¬ F k) : ∀ k, G k → ¬ F' k := fun k hk hf => by
  rcases s.sub k hf with h1 | h1
  · exact hd k hk h1
  · have := h.1 k hk
    omega
end
end Go.Proofs.YtgaofnmgdefdcaaGreatDoor.Qh

namespace Go.Proofs.YtgaofnmgdefdcaaGreatDoor.Cm
open Go.RowKit Go.ChangeMaps Go.MapKept Go.Proofs.YtgaofnmgdefdcaaGreatDoor.Gen Go.Proofs.YtgaofnmgdefdcaaGreatDoor.Mp Go.Maps

section
variable {P : Program} {k : TypeId} {w w1 : World} {b r : Nat} {m met : List (Lit × Value)}
theorem keeps_setBlock {w : World} {b : Nat} {es : Array MapEntry} {ck : Nat} {o' : Obj} (h : w.heap[b]? = some (.map es ck)) : Keeps (· = b) w (setBlock w b o') :=
  ⟨rfl, rfl, rfl, by simp [setBlock], fun i _ hi => heap_setBlock_other h _ hi⟩
theorem setBlock_same {w : World} {b : Nat} {es : Array MapEntry} {ck : Nat} (h : w.heap[b]? = some (.map es ck)) : setBlock w b (.map es ck) = w := by
  have e : w.heap.setIfInBounds b (.map es ck) = w.heap := by
    apply Array.ext_getElem?
    intro i
    by_cases hi : i = b
    · subst hi; exact (heap_setBlock_same h _).trans h.symm
    · exact heap_setBlock_other h _ hi
  unfold setBlock
  rw [e]
theorem IsM.same (h : IsM P k w b m) (e : w1.heap[b]? = w.heap[b]?) : IsM P k w1 b m := by
  obtain ⟨D, ⟨es, clock, h1, h2⟩, h3⟩ := h
  exact ⟨D, ⟨es, clock, e.trans h1, h2⟩, h3⟩
/-- An entry made, then what is stored into it; what is looked up between is what was looked up ahead. -/
theorem IsM.entry {t e : TypeId} (h : IsM P k w b m) (L : WideMaps.KeyLaw P k) (ht : P.underlying t = some (.map k e)) {z : Value} (hz : ∀ u : World, (zeroValue e).run P u = .ok z u) {key : Value} {kl : Lit} (hkey : keyOf P k key = some kl) (hl : m.length ≤ 1000000) :
    ∃ v0 st w1, (Instr.mapEntry t (.map (some b)) key).run P w = .ok (.tuple #[v0, goInt st]) w1 ∧ Keeps (· = b) w w1 ∧
      (∀ c, (Instr.lookup t (.map (some b)) key false).run P w = .ok c w → (Instr.lookup t (.map (some b)) key false).run P w1 = .ok c w1) ∧
      ∀ (w2 : World) (val : Value), w2.heap[b]? = w1.heap[b]? → ∃ w3, (Instr.entryStore t (.map (some b)) (goInt st) val).run P w2 = .ok () w3 ∧ IsM P k w3 b (upd m kl val) ∧ Keeps (· = b) w2 w3 := by
  obtain ⟨D, h1, h3⟩ := h
  have hown := h1
  obtain ⟨es, clock, hb, F, hs, hD⟩ := h1
  obtain ⟨v0, st, es1, clock1, hE, hcase, hS⟩ := WideElems.entry_then_store L ht hz hb F hkey
  refine ⟨v0, st, setBlock w b (.map es1 clock1), hE, keeps_setBlock hb, ?_, fun w2 val hw2 => ?_⟩
  · intro c hc
    rcases L.find w hkey es.toList F.keys with ⟨f1, f2⟩ | ⟨j, e0, f1, f2, f3⟩
    · have e1 := hE
      simp [Instr.mapEntry, run_underlying ht, MapKept.run_getObj_map hb, L.check w false hkey, f1, hz, MapKept.run_setObj_map _ hb, Result.andThen] at e1
      obtain ⟨_, e2⟩ := e1
      have hc2 := hc
      simp [Instr.lookup, run_underlying ht, MapKept.run_getObj_map hb, L.check w _ hkey, f1, hz, Result.andThen] at hc2
      subst hc2
      have hb1 : (setBlock w b (.map es1 clock1)).heap[b]? = some (.map (es.push ⟨key, z, clock⟩) (clock + 1)) := by
        rw [← e2]
        exact heap_setBlock_same hb _
      generalize setBlock w b (.map es1 clock1) = W1 at hb1 ⊢
      have hks : ∀ e ∈ (es.push ⟨key, z, clock⟩).toList, ∃ l, keyOf P k e.key = some l := by
        intro x hx
        simp only [Array.toList_push, List.mem_append, List.mem_singleton] at hx
        rcases hx with hx | rfl
        · exact F.keys x hx
        · exact ⟨kl, hkey⟩
      rcases L.find W1 hkey _ hks with ⟨g1, g2⟩ | ⟨j, e0, g1, g2, g3⟩
      · exact absurd rfl (g2 ⟨key, z, clock⟩ (by simp))
      · have hm := List.mem_of_getElem? g2
        simp only [Array.toList_push, List.mem_append, List.mem_singleton] at hm
        rcases hm with hm | rfl
        · exact absurd g3 (f2 e0 hm)
        · simp only [Array.toList_push] at g1
          simp [Instr.lookup, run_underlying ht, MapKept.run_getObj_map hb1, L.check W1 _ hkey, g1, Result.andThen]
    · have hj : es[j]? = some e0 := by simpa using f2
      have hsame : es.modify j (fun e => { e with key := key }) = es := by
        apply Array.ext_getElem?
        intro i
        rw [Array.getElem?_modify]
        split
        · next hi =>
          subst hi
          rw [hj, ← f3]
          rfl
        · rfl
      have e1 := hE
      simp [Instr.mapEntry, run_underlying ht, MapKept.run_getObj_map hb, L.check w false hkey, f1, hj, f3, L.stays w hkey, hsame, MapKept.run_setObj_map _ hb, Result.andThen] at e1
      obtain ⟨_, e2⟩ := e1
      have e3 : setBlock w b (.map es1 clock1) = w := by
        rw [← e2]
        exact setBlock_same hb
      rw [e3]
      exact hc
  · obtain ⟨es', clock', g1, g2⟩ := hS w2 val (hw2.trans (heap_setBlock_same hb _))
    have hb2 : w2.heap[b]? = some (.map es1 clock1) := hw2.trans (heap_setBlock_same hb _)
    refine ⟨_, g1, ?_, keeps_setBlock hb2⟩
    obtain ⟨w', r1, r2, _⟩ := hown.update (Keyed.of_law L) ht (by simp only [maxLen]; omega) hkey (d := .held val) (ps := []) (val := val) rfl
    rw [g2] at r1
    injection r1 with _ r1
    subst r1
    exact IsM.same (IsM.of r2 (h3.put ((Keyed.of_law L).key hkey) val)) ((heap_setBlock_same hb2 _).trans (heap_setBlock_same hb _).symm)
end

/-! ### maps as functions of the numbers of their keys -/
/-- Keys in memory, and as they are told apart: of each number below N one. -/
structure Ks (P : Program) (k : TypeId) (N : Nat) (kv : Nat → Value) (kl : Nat → Lit) : Prop where
  keyed : Keyed P k
  ok : ∀ i, i < N → keyOf P k (kv i) = some (kl i)
  inj : ∀ i j, i < N → j < N → kv i = kv j → i = j
section
variable {P : Program} {k : TypeId} {N : Nat} {kv : Nat → Value} {kl : Nat → Lit}
theorem Ks.lit (K : Ks P k N kv kl) {i : Nat} (h : i < N) : WideAt.IsKeyLit (kl i) := K.keyed.key (K.ok i h)
theorem Ks.linj (K : Ks P k N kv kl) {i j : Nat} (hi : i < N) (hj : j < N) (h : kl i = kl j) : i = j :=
  K.inj i j hi hj (K.keyed.inj (K.ok i hi) (by rw [h]; exact K.ok j hj))
/-- These entries are those of this function. -/
structure Fm (kl : Nat → Lit) (N : Nat) (val : Nat → Option Value) (m : List (Lit × Value)) : Prop where
  sub : ∀ p ∈ m, ∃ i, i < N ∧ p.1 = kl i ∧ val i = some p.2
  all : ∀ i, i < N → ∀ v, val i = some v → (kl i, v) ∈ m
def putF (val : Nat → Option Value) (i : Nat) (v : Value) (j : Nat) : Option Value := if j = i then some v else val j
theorem Fm.put (K : Ks P k N kv kl) {val : Nat → Option Value} {m : List (Lit × Value)} (h : Fm kl N val m) {i : Nat} (hi : i < N) (v : Value) : Fm kl N (putF val i v) (upd m (kl i) v) := by
  refine ⟨fun p hp => ?_, fun j hj u hu => ?_⟩
  · rcases (mem_upd (K.lit hi)).1 hp with ⟨h1, h2⟩ | rfl
    · obtain ⟨j, hj, e1, e2⟩ := h.sub p h1
      refine ⟨j, hj, e1, ?_⟩
      rw [putF, if_neg (fun e => h2 (by rw [e1, e]))]
      exact e2
    · exact ⟨i, hi, rfl, by rw [putF, if_pos rfl]⟩
  · rw [mem_upd (K.lit hi)]
    unfold putF at hu
    split at hu
    · next e =>
      injection hu with hu
      subst e
      subst hu
      exact .inr rfl
    · next e => exact .inl ⟨h.all j hj u hu, fun e2 => e (K.linj hj hi e2)⟩
theorem Fm.keys (K : Ks P k N kv kl) {val : Nat → Option Value} {m : List (Lit × Value)} (h : Fm kl N val m) {i : Nat} (hi : i < N) : kl i ∈ m.map (·.1) ↔ val i ≠ none := by
  constructor
  · intro hm
    obtain ⟨p, hp, e⟩ := List.mem_map.1 hm
    obtain ⟨j, hj, e1, e2⟩ := h.sub p hp
    have := K.linj hj hi (e1.symm.trans e)
    subst this
    rw [e2]
    simp
  · intro hv
    cases hc : val i with
    | none => exact absurd hc hv
    | some v => exact List.mem_map.2 ⟨_, h.all i hi v hc, rfl⟩
/-- How many keys there are. -/
def cntF (val : Nat → Option Value) (N : Nat) : Nat := ((List.range N).filter fun i => (val i).isSome).length
theorem Fm.len (K : Ks P k N kv kl) {val : Nat → Option Value} {m : List (Lit × Value)} (h : Fm kl N val m) (hn : (m.map (·.1)).Nodup) : m.length = cntF val N := by
  have h1 : (((List.range N).filter fun i => (val i).isSome).map kl).Nodup := by
    have hr : ((List.range N).filter fun i => (val i).isSome).Nodup := List.nodup_range.sublist List.filter_sublist
    refine List.pairwise_map.2 (hr.imp_of_mem ?_)
    intro a b ha hb hne e
    simp only [List.mem_filter, List.mem_range] at ha hb
    exact hne (K.linj ha.1 hb.1 e)
  have h2 := nodup_all hn h1 (fun x hx => by
    obtain ⟨p, hp, rfl⟩ := List.mem_map.1 hx
    obtain ⟨i, hi, e1, e2⟩ := h.sub p hp
    exact List.mem_map.2 ⟨i, by simp [hi, e2], e1.symm⟩) (fun x hx => by
    obtain ⟨i, hi, rfl⟩ := List.mem_map.1 hx
    simp only [List.mem_filter, List.mem_range] at hi
    rw [h.keys K hi.1]
    intro e
    rw [e] at hi
    simp at hi)
  have h3 := h2.length_eq
  rw [List.length_map, List.length_map] at h3
  exact h3
/-- Block b is a map that is this function. -/
def IsF (P : Program) (k : TypeId) (N : Nat) (kl : Nat → Lit) (w : World) (b : Nat) (val : Nat → Option Value) : Prop := ∃ m, IsM P k w b m ∧ Fm kl N val m
variable {w w1 : World} {b r : Nat} {val : Nat → Option Value}
theorem IsF.lt (h : IsF P k N kl w b val) : b < w.heap.size := by obtain ⟨m, h1, _⟩ := h; exact h1.lt
theorem IsF.keeps {S : Nat → Prop} (h : IsF P k N kl w b val) (hk : Keeps S w w1) (hn : ¬ S b) : IsF P k N kl w1 b val := by obtain ⟨m, h1, h2⟩ := h; exact ⟨m, h1.keeps hk hn, h2⟩
theorem IsF.congr {val' : Nat → Option Value} (h : IsF P k N kl w b val) (e : ∀ i, i < N → val i = val' i) : IsF P k N kl w b val' := by
  obtain ⟨m, h1, h2⟩ := h
  refine ⟨m, h1, fun p hp => ?_, fun i hi v hv => h2.all i hi v (by rw [e i hi]; exact hv)⟩
  obtain ⟨i, hi, e1, e2⟩ := h2.sub p hp
  exact ⟨i, hi, e1, by rw [← e i hi]; exact e2⟩
theorem IsF.ne_blk {g : Nat} {t : TypeId} {cs : Array Value} (h : IsF P k N kl w b val) (hb : Blk w g t cs) : g ≠ b := by obtain ⟨m, h1, _⟩ := h; exact h1.ne_blk hb
theorem IsF.new (P : Program) (k : TypeId) (N : Nat) (kl : Nat → Lit) (w : World) : IsF P k N kl (w.alloc (.map #[] 0)) w.heap.size (fun _ => none) :=
  ⟨[], IsM.new P k w, ⟨fun p h => (by cases h), fun i _ v h => (by cases h)⟩⟩
theorem IsF.m_le (K : Ks P k N kv kl) {m : List (Lit × Value)} (h : IsM P k w b m) (hf : Fm kl N val m) : m.length ≤ N := by
  rw [hf.len K h.nd, cntF]
  have := List.length_filter_le (fun i => (val i).isSome) (List.range N)
  rw [List.length_range] at this
  exact this
theorem IsF.look (K : Ks P k N kv kl) {e t : TypeId} (h : IsF P k N kl w b val) (ht : P.underlying t = some (.map k e)) {z : Value} (hz : (zeroValue e).run P w = .ok z w) {i : Nat} (hi : i < N) :
    (∀ v, val i = some v → (Instr.lookup t (.map (some b)) (kv i) false).run P w = .ok v w ∧ (Instr.lookup t (.map (some b)) (kv i) true).run P w = .ok (.tuple #[v, .bool true]) w) ∧
    (val i = none → (Instr.lookup t (.map (some b)) (kv i) false).run P w = .ok z w ∧ (Instr.lookup t (.map (some b)) (kv i) true).run P w = .ok (.tuple #[z, .bool false]) w) := by
  obtain ⟨m, h1, h2⟩ := h
  obtain ⟨l1, l2⟩ := h1.look w K.keyed ht hz (K.ok i hi)
  exact ⟨fun v hv => l1 v (h2.all i hi v hv), fun hv => l2 (fun hm => (h2.keys K hi).1 hm hv)⟩
theorem IsF.len_run (K : Ks P k N kv kl) {e t : TypeId} {n : Nat} (h : IsF P k N kl w b val) (ht : P.underlying t = some (.map k e)) (hn : cntF val N = n) (ty : TypeId) : (Builtin.len_ #[t] ty #[.map (some b)]).run P w = .ok (.int .i64 (n : Int)) w := by
  obtain ⟨m, h1, h2⟩ := h
  exact h1.len_run w ht (by rw [h2.len K h1.nd, hn]) ty
theorem IsF.entry (K : Ks P k N kv kl) (L : WideMaps.KeyLaw P k) {e t : TypeId} (h : IsF P k N kl w b val) (ht : P.underlying t = some (.map k e)) {z : Value} (hz : ∀ u : World, (zeroValue e).run P u = .ok z u) {i : Nat} (hi : i < N) (hN : N ≤ 1000000) :
    ∃ v0 st w1, (Instr.mapEntry t (.map (some b)) (kv i)).run P w = .ok (.tuple #[v0, goInt st]) w1 ∧ Keeps (· = b) w w1 ∧
      (∀ c, (Instr.lookup t (.map (some b)) (kv i) false).run P w = .ok c w → (Instr.lookup t (.map (some b)) (kv i) false).run P w1 = .ok c w1) ∧
      ∀ (w2 : World) (v : Value), w2.heap[b]? = w1.heap[b]? → ∃ w3, (Instr.entryStore t (.map (some b)) (goInt st) v).run P w2 = .ok () w3 ∧ IsF P k N kl w3 b (putF val i v) ∧ Keeps (· = b) w2 w3 := by
  obtain ⟨m, h1, h2⟩ := h
  obtain ⟨v0, st, w1, r1, r2, r3, r4⟩ := Cm.IsM.entry h1 L ht hz (K.ok i hi) (by have := IsF.m_le K h1 h2; omega)
  refine ⟨v0, st, w1, r1, r2, r3, fun w2 v hw2 => ?_⟩
  obtain ⟨w3, s1, s2, s3⟩ := r4 w2 v hw2
  exact ⟨w3, s1, ⟨_, s2, h2.put K hi v⟩, s3⟩
/-- A range over it is under way: these keys have come. -/
def RgF (P : Program) (k : TypeId) (N : Nat) (kl : Nat → Lit) (w : World) (b r : Nat) (val : Nat → Option Value) (seen : List Nat) (cnt : Nat) : Prop :=
  ∃ m met, Rgs P k w b r m met cnt ∧ Fm kl N val m ∧ (∀ i ∈ seen, i < N ∧ val i ≠ none) ∧ ∀ i, i < N → (kl i ∈ met.map (·.1) ↔ i ∈ seen)
variable {seen : List Nat} {cnt : Nat}
theorem RgF.isF (h : RgF P k N kl w b r val seen cnt) : IsF P k N kl w b val := by obtain ⟨m, met, h1, h2, _⟩ := h; exact ⟨m, h1.isM, h2⟩
theorem RgF.left_eq (h : RgF P k N kl w b r val seen cnt) : w.rangeLeft b r = cnt := by obtain ⟨m, met, h1, _⟩ := h; exact h1.left_eq
theorem RgF.lt (h : RgF P k N kl w b r val seen cnt) : r < w.heap.size := by obtain ⟨m, met, h1, _⟩ := h; exact h1.lt
theorem RgF.keeps {S : Nat → Prop} (h : RgF P k N kl w b r val seen cnt) (hk : Keeps S w w1) (hb : ¬ S b) (hr : ¬ S r) : RgF P k N kl w1 b r val seen cnt := by
  obtain ⟨m, met, h1, h2⟩ := h; exact ⟨m, met, h1.keeps hk hb hr, h2⟩
theorem RgF.ne_blk {g : Nat} {t : TypeId} {cs : Array Value} (h : RgF P k N kl w b r val seen cnt) (hb : Blk w g t cs) : g ≠ r := by obtain ⟨m, met, h1, _⟩ := h; exact h1.ne_blk hb
theorem RgF.seen_in (h : RgF P k N kl w b r val seen cnt) : ∀ i ∈ seen, i < N ∧ val i ≠ none := by obtain ⟨m, met, _, _, h3, _⟩ := h; exact h3
end

section
variable {P : Program} {k : TypeId} {N : Nat} {kv : Nat → Value} {kl : Nat → Lit} (w : World) {ops : Array Oper} {rest : List Oper} {o : Oper} {a : Act} {Q : Exit → Act → World → Prop}
theorem wpList_update_f (K : Ks P k N kv kl) (hg : o.guard = none) (x y v : Operand) (t : TypeId) (hop : o.op = Op.mapUpdate t x y v) (e : TypeId) (ht : P.underlying t = some (.map k e)) (b : Nat) (val : Nat → Option Value) (hm : a.eval x = .map (some b)) (h : IsF P k N kl w b val) (hN : N ≤ 1000000)
    (i : Nat) (hi : i < N) (u : Value) (hx : a.eval y = kv i) (hv : a.eval v = u) (hK : ∀ w', IsF P k N kl w' b (putF val i u) → Keeps (· = b) w w' → wpList P ops Q rest (a.put o.dst undef) w') :
    wpList P ops Q (o :: rest) a w := by
  obtain ⟨m, h1, h2⟩ := h
  exact wpList_update_m w hg x y v t hop k e K.keyed ht b m hm h1 (by have := IsF.m_le K h1 h2; omega) (kv i) u (kl i) hx hv (K.ok i hi) fun w' r1 r2 => hK w' ⟨_, r1, h2.put K hi u⟩ r2
theorem wpList_range_f (K : Ks P k N kv kl) (hg : o.guard = none) (x : Operand) (t : TypeId) (hop : o.op = Op.range t x) (e : TypeId) (ht : P.underlying t = some (.map k e)) (b : Nat) (val : Nat → Option Value)
    (hm : a.eval x = .map (some b)) (h : IsF P k N kl w b val) (hK : ∀ w' cnt, RgF P k N kl w' b w.heap.size val [] cnt → Keeps (fun _ => False) w w' → wpList P ops Q rest (a.put o.dst (.pointer (some ⟨w.heap.size, 0, none⟩))) w') : wpList P ops Q (o :: rest) a w := by
  obtain ⟨m, h1, h2⟩ := h
  exact wpList_range_m w hg x t hop k e K.keyed ht b m hm h1 fun w' r1 r2 => hK w' _ ⟨m, [], r1, h2, by simp, by simp⟩ r2
theorem wpList_next_f (K : Ks P k N kv kl) (hg : o.guard = none) (it : Operand) (hop : o.op = Op.next it false) (b r : Nat) (val : Nat → Option Value) (seen : List Nat) (cnt : Nat)
    (hit : a.eval it = .pointer (some ⟨r, 0, none⟩)) (h : RgF P k N kl w b r val seen cnt)
    (hDone : (∀ i, i < N → val i ≠ none → i ∈ seen) → wpList P ops Q rest (a.put o.dst (.tuple #[.bool false])) w)
    (hMore : ∀ (i : Nat) (v : Value) (w' : World) (cnt' : Nat), i < N → val i = some v → i ∉ seen → RgF P k N kl w' b r val (seen ++ [i]) cnt' → cnt' < cnt → Keeps (· = r) w w' →
      (Instr.entry (.pointer (some ⟨r, 0, none⟩))).run P w' = .ok (.tuple #[kv i, v]) w' → wpList P ops Q rest (a.put o.dst (.tuple #[.bool true, kv i, v])) w') :
    wpList P ops Q (o :: rest) a w := by
  obtain ⟨m, met, h1, h2, h3, h4⟩ := h
  refine wpList_next_m (α := Value) (β := Value) w hg it hop k K.keyed id id (fun key kl _ => ⟨key, rfl⟩) b r m met cnt (fun p _ => ⟨p.2, rfl⟩) hit h1 ?_ ?_
  · intro hp
    refine hDone fun i hi hv => (h4 i hi).1 ?_
    rw [(hp.map (·.1)).mem_iff]
    exact (h2.keys K hi).2 hv
  · intro x c l w' cnt' hkey hmem hnot hrg hlt hkp hen
    simp only [id] at hkey hmem hrg hen ⊢
    obtain ⟨i, hi, e1, e2⟩ := h2.sub _ hmem
    simp only at e1 e2
    subst e1
    have hxi := K.keyed.inj hkey (K.ok i hi)
    subst hxi
    have hns : i ∉ seen := fun hs => hnot ((h4 i hi).2 hs)
    refine hMore i c w' cnt' hi e2 hns ⟨m, _, hrg, h2, ?_, ?_⟩ hlt hkp hen
    · intro j hj
      rcases List.mem_append.1 hj with hj | hj
      · exact h3 j hj
      · rw [List.mem_singleton] at hj
        subst hj
        exact ⟨hi, by rw [e2]; simp⟩
    · intro j hj
      rw [List.map_append, List.mem_append, h4 j hj, List.mem_append]
      simp only [List.map_cons, List.map_nil, List.mem_singleton]
      constructor
      · rintro (h | h)
        · exact .inl h
        · exact .inr (K.linj hj hi h)
      · rintro (h | h)
        · exact .inl h
        · exact .inr (by rw [h])
end
end Go.Proofs.YtgaofnmgdefdcaaGreatDoor.Cm
