/- For seats without huff.Sizes: what huff.New's texts want of its texts, and the names of their parts. -/
/- bytes.Clone: the same bytes, in a row of its own; nil of nil. At most ten million bytes. -/
import Derived.Test.YtgaofnmgdefdcaaGreatDoorJHufCmpHufMap
import Derived.Test.YtgaofnmgdefdcaaGreatDoorJHufRowHufEv
import Derived.Test.YtgaofnmgdefdcaaGreatDoorHufStI
import Derived.Test.YtgaofnmgdefdcaaGreatDoorProg
import Derived.Test.YtgaofnmgdefdcaaGreatDoorJGenBitPlain
import Derived.WalkKit
import Derived.WalkSpells
import Derived.WalkLawsBesides
import Derived.Lib.Hide
import Derived.Maps.AppendAt
import Derived.BigQuiet
import Derived.Outline
import Derived.Laws.BitsAllLaws

namespace Go.Proofs.YtgaofnmgdefdcaaGreatDoor.Hm
end Go.Proofs.YtgaofnmgdefdcaaGreatDoor.Hm
namespace Go.Proofs.YtgaofnmgdefdcaaGreatDoor.Hg
end Go.Proofs.YtgaofnmgdefdcaaGreatDoor.Hg
namespace Go.Proofs.YtgaofnmgdefdcaaGreatDoor.So
end Go.Proofs.YtgaofnmgdefdcaaGreatDoor.So
namespace Go.Proofs.YtgaofnmgdefdcaaGreatDoor.Hs
open Go.RowKit
theorem int_key : Go.Maps.Keyed Tryz.prog 3 := Go.Maps.int_keyed Tryz.underlying3
end Go.Proofs.YtgaofnmgdefdcaaGreatDoor.Hs
namespace Go.Proofs.YtgaofnmgdefdcaaGreatDoor.Hf
open Go.RowKit Go.Proofs.YtgaofnmgdefdcaaGreatDoor.Gen
theorem keeps_low {w wr w1 : World} {S : Nat → Prop} (h : Keeps (fun _ => False) w wr) (k : Keeps S wr w1) (hw : ∀ x, S x → w.heap.size ≤ x) : Keeps (fun _ => False) w w1 :=
  ⟨k.os.trans h.os, k.tape.trans h.tape, k.output.trans h.output, Nat.le_trans h.size k.size, fun x hx hn => (k.block x (Nat.lt_of_lt_of_le hx h.size) (fun hs => by have := hw x hs; omega)).trans (h.block x hx hn)⟩
end Go.Proofs.YtgaofnmgdefdcaaGreatDoor.Hf
namespace Go.Proofs.YtgaofnmgdefdcaaGreatDoor.Ha
end Go.Proofs.YtgaofnmgdefdcaaGreatDoor.Ha
namespace Go.Proofs.YtgaofnmgdefdcaaGreatDoor.Hz
open Go.RowKit Go.Shelf Go.Lib Go.Sort Go.Proofs.YtgaofnmgdefdcaaGreatDoor.Gen Go.Proofs.YtgaofnmgdefdcaaGreatDoor.Mp Go.Proofs.YtgaofnmgdefdcaaGreatDoor.Hr Go.Proofs.YtgaofnmgdefdcaaGreatDoor.Hp Go.Proofs.YtgaofnmgdefdcaaGreatDoor.Hm Go.Proofs.YtgaofnmgdefdcaaGreatDoor.Hg Go.Proofs.YtgaofnmgdefdcaaGreatDoor.So Go.Proofs.YtgaofnmgdefdcaaGreatDoor.Hs Go.Proofs.YtgaofnmgdefdcaaGreatDoor.Hf
theorem many_ (n : Nat) (w : World) : Calls Tryz.prog 81 #[.int .i64 (n : Int)] w fun r w' => r = .returned (.bool (decide (1 ≤ n ∧ n ≤ 256))) ∧ w' = w := by
  go_enter Tryz.func81, Tryz.ntmps81
  go_wp2
  all_goals
    go_ret
    refine ⟨?_, rfl⟩
    refine congrArg (fun b => Ending.returned (Value.bool b)) ?_
    rw [Bool.eq_iff_iff]
    simp
    try omega
theorem num_ (x : Int) (w : World) : Calls Tryz.prog 100 #[.int .i64 x] w fun r w' => r = .returned (.bool (decide (-2147483647 ≤ x ∧ x ≤ 2147483647))) ∧ w' = w := by
  go_enter Tryz.func100, Tryz.ntmps100
  go_wp2
  all_goals
    go_ret
    refine ⟨?_, rfl⟩
    simp
    try omega

theorem ent_info : (Tryz.prog.info? 87).map (fun i => (i.zero, i.size, i.bytes)) = some (some (.agg #[.int .i64 0, .int .i64 0]), 2, 16) := by kernel_rfl
theorem made_ents (n : Nat) : (madeCells (Value.agg #[.int .i64 0, .int .i64 0]).cells (n * 2)).toList = evs (List.replicate n (0, 0)) := by
  refine List.ext_getElem? fun i => ?_
  by_cases hi : i < n * 2
  · have h1 : i / 2 < (List.replicate n ((0 : Int), (0 : Nat))).length := by simp; omega
    have h2 := evs_get0 _ _ h1
    have h3 := evs_get1 _ _ h1
    have e : (madeCells (Value.agg #[.int .i64 0, .int .i64 0]).cells (n * 2)).toList[i]? = some (.int .i64 0) := by
      rcases Nat.mod_two_eq_zero_or_one i with h | h <;> simp [madeCells, Value.cells, hi, h]
    rw [e]
    rcases Nat.mod_two_eq_zero_or_one i with h | h
    · rw [show i / 2 * 2 = i by omega] at h2
      rw [h2]
      simp [List.getD_eq_getElem?_getD, List.getElem?_replicate, show i / 2 < n by omega]
    · rw [show i / 2 * 2 + 1 = i by omega] at h3
      rw [h3]
      simp [List.getD_eq_getElem?_getD, List.getElem?_replicate, show i / 2 < n by omega]
  · rw [List.getElem?_eq_none (by simp [madeCells]; omega), List.getElem?_eq_none (by rw [evs_len]; simp; omega)]

end Go.Proofs.YtgaofnmgdefdcaaGreatDoor.Hz
namespace Go.Proofs.YtgaofnmgdefdcaaGreatDoor.Hz
open Go.RowKit Go.Shelf Go.Lib Go.Sort Go.Proofs.YtgaofnmgdefdcaaGreatDoor.Gen Go.Proofs.YtgaofnmgdefdcaaGreatDoor.Mp Go.Proofs.YtgaofnmgdefdcaaGreatDoor.Hr Go.Proofs.YtgaofnmgdefdcaaGreatDoor.Hp Go.Proofs.YtgaofnmgdefdcaaGreatDoor.Hm Go.Proofs.YtgaofnmgdefdcaaGreatDoor.Hg Go.Proofs.YtgaofnmgdefdcaaGreatDoor.So Go.Proofs.YtgaofnmgdefdcaaGreatDoor.Hs Go.Proofs.YtgaofnmgdefdcaaGreatDoor.Hf
theorem wf_of {x : Int} (h : -2147483648 ≤ x ∧ x ≤ 2147483648) : (Lit.int .i64 x).wf = true := by
  have hm : IntKind.i64.min = -9223372036854775808 ∧ IntKind.i64.max = 9223372036854775807 := by decide
  simp [Lit.wf, hm.1, hm.2]
  omega
end Go.Proofs.YtgaofnmgdefdcaaGreatDoor.Hz

namespace Go.Proofs.YtgaofnmgdefdcaaGreatDoor.Cl
open Go.RowKit Go.Proofs.YtgaofnmgdefdcaaGreatDoor.Gen

theorem u8_info : (Tryz.prog.info? 5).map (fun i => (i.zero, i.size, i.bytes)) = some (some (.int .u8 0), 1, 1) := by kernel_rfl

/-- bytes.Clone: nil of nil. -/
theorem clone_nil (c : Nat) (w : World) : Calls Tryz.prog 71 #[.slice none 0 c] w fun r w' => r = .returned (.slice none 0 0) ∧ w = w' := by
  have he := fun (w : World) => Lib.run_eql_slice_nil (P := Tryz.prog) w 29 5 none 0 c 0 0 Tryz.underlying29
  go_enter Tryz.func71, Tryz.ntmps71
  go_wp2
  go_ret
  exact ⟨rfl, rfl⟩
/-- bytes.Clone: the same bytes, in a row of its own. -/
def Own (base n : Nat) (xs : List Int) (w : World) (r : Ending) (w' : World) : Prop :=
  ∃ A c, r = .returned (.slice A n c) ∧ w'.ownsRow base 5 1 (.slice A n c) n (bv xs) ∧ Keeps (fun _ => False) w w'
theorem clone_some (ad : Addr) (c : Nat) (xs : List Int) (w : World) (hl : Lies w (some ad) xs) (hn : xs.length ≤ 10000000) :
    Calls Tryz.prog 71 #[.slice (some ad) xs.length c] w (Own w.heap.size xs.length xs w) := by
  obtain ⟨i0, hi0, hz0, hz1, hz2⟩ := info_parts u8_info
  have he := fun (w : World) => Lib.run_eql_slice_nil (P := Tryz.prog) w 29 5 (some ad) xs.length c 0 0 Tryz.underlying29
  have hnews : ∀ j u, (bv xs)[j]? = some u → (w.alloc (.cells #[] 5)).cell? (ad.add j) = some u :=
    (hl.keeps (S := fun _ => False) ((Keeps.refl _ _).alloc _) (fun _ _ _ => id)).news
  go_enter Tryz.func71, Tryz.ntmps71
  go_wp2_with (
    at_builtin
    refine wpList_append_own_at _ rfl (.tmp 5) (.tmp 6) _ rfl w.heap.size 5 i0 _ 1 1 Tryz.underlying29 hi0 hz0 hz1 hz2 rfl (by omega) (.slice (some ⟨w.heap.size, 0, none⟩) 0 0) 0 [] rfl
      ⟨rfl, .inr ⟨w.heap.size, 0, #[], rfl, Nat.le_refl _, heap_alloc_new w _, Nat.le_refl _, by simp [maxLen], rfl, rfl⟩⟩ ad xs.length c (bv xs) rfl (by rw [bv_len]; omega) hnews (bv_one xs) (by simp only [maxLen]; omega) (by omega) (by simp) ?_
    intro v1 w1 hown1 hg1 hnil1 hat1)
  go_ret
  simp only [Nat.zero_add, List.nil_append] at hown1
  obtain ⟨A1, c1, rfl, _⟩ := own_form hown1
  refine ⟨A1, c1, rfl, hown1, ((Keeps.refl _ _).alloc _).grown hg1 (fun k hk => .inr (by simp [Value.ownBlock] at hk; omega))⟩
theorem clone (A : Option Addr) (c : Nat) (xs : List Int) (w : World) (hl : Lies w A xs) (hn : xs.length ≤ 10000000) :
    Calls Tryz.prog 71 #[.slice A xs.length c] w (Own w.heap.size xs.length xs w) := by
  rcases A with _ | ad
  · have hx : xs = [] := by
      rcases hl with h | ⟨b, o, h, _⟩
      · exact h
      · cases h
    subst hx
    exact (clone_nil c w).mono fun r w' ⟨hr, hw⟩ => ⟨none, 0, hr, World.ownsRow_nil _ _ _ _, by rw [hw]; exact Keeps.refl _ _⟩
  · exact clone_some ad c xs w hl hn

theorem clone_n (A : Option Addr) (n c : Nat) (xs : List Int) (w : World) (hx : xs.length = n) (hl : Lies w A xs) (hn : n ≤ 10000000) :
    Calls Tryz.prog 71 #[.slice A n c] w (Own w.heap.size n xs w) := by
  subst hx
  exact clone A c xs w hl hn
end Go.Proofs.YtgaofnmgdefdcaaGreatDoor.Cl
