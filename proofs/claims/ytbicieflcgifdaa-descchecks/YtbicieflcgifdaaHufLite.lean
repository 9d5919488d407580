/- For seats without huff.Sizes: what huff.New's texts want of its texts, and the names of their parts. -/
import Derived.Test.YtbicieflcgifdaaHufMap
import Derived.Test.YtbicieflcgifdaaHufEv
import Derived.Test.YtbicieflcgifdaaHufStI
namespace Go.Proofs.Ytbicieflcgifdaa.Hm
end Go.Proofs.Ytbicieflcgifdaa.Hm
namespace Go.Proofs.Ytbicieflcgifdaa.Hg
end Go.Proofs.Ytbicieflcgifdaa.Hg
namespace Go.Proofs.Ytbicieflcgifdaa.So
end Go.Proofs.Ytbicieflcgifdaa.So
namespace Go.Proofs.Ytbicieflcgifdaa.Hs
open Go.RowKit
theorem int_key : Go.Maps.Keyed Try.prog 3 := Go.Maps.int_keyed Try.underlying3
end Go.Proofs.Ytbicieflcgifdaa.Hs
namespace Go.Proofs.Ytbicieflcgifdaa.Hf
open Go.RowKit Go.Proofs.Ytbicieflcgifdaa.Gen
theorem keeps_low {w wr w1 : World} {S : Nat → Prop} (h : Keeps (fun _ => False) w wr) (k : Keeps S wr w1) (hw : ∀ x, S x → w.heap.size ≤ x) : Keeps (fun _ => False) w w1 :=
  ⟨k.os.trans h.os, k.tape.trans h.tape, k.output.trans h.output, Nat.le_trans h.size k.size, fun x hx hn => (k.block x (Nat.lt_of_lt_of_le hx h.size) (fun hs => by have := hw x hs; omega)).trans (h.block x hx hn)⟩
end Go.Proofs.Ytbicieflcgifdaa.Hf
namespace Go.Proofs.Ytbicieflcgifdaa.Ha
end Go.Proofs.Ytbicieflcgifdaa.Ha
namespace Go.Proofs.Ytbicieflcgifdaa.Hz
open Go.RowKit Go.Shelf Go.Lib Go.Sort Go.Proofs.Ytbicieflcgifdaa.Gen Go.Proofs.Ytbicieflcgifdaa.Mp Go.Proofs.Ytbicieflcgifdaa.Hr Go.Proofs.Ytbicieflcgifdaa.Hp Go.Proofs.Ytbicieflcgifdaa.Hm Go.Proofs.Ytbicieflcgifdaa.Hg Go.Proofs.Ytbicieflcgifdaa.So Go.Proofs.Ytbicieflcgifdaa.Hs Go.Proofs.Ytbicieflcgifdaa.Hf
theorem many_ (n : Nat) (w : World) : Calls Try.prog 62 #[.int .i64 (n : Int)] w fun r w' => r = .returned (.bool (decide (1 ≤ n ∧ n ≤ 256))) ∧ w' = w := by
  go_enter Try.func62, Try.ntmps62
  go_wp2
  all_goals
    go_ret
    refine ⟨?_, rfl⟩
    refine congrArg (fun b => Ending.returned (Value.bool b)) ?_
    rw [Bool.eq_iff_iff]
    simp
    try omega
theorem num_ (x : Int) (w : World) : Calls Try.prog 88 #[.int .i64 x] w fun r w' => r = .returned (.bool (decide (-2147483647 ≤ x ∧ x ≤ 2147483647))) ∧ w' = w := by
  go_enter Try.func88, Try.ntmps88
  go_wp2
  all_goals
    go_ret
    refine ⟨?_, rfl⟩
    simp
    try omega

theorem ent_info : (Try.prog.info? 71).map (fun i => (i.zero, i.size, i.bytes)) = some (some (.agg #[.int .i64 0, .int .i64 0]), 2, 16) := by kernel_rfl
theorem made_ents (n : Nat) : (madeCells (Value.agg #[.int .i64 0, .int .i64 0]).cells (n * 2)).toList = evs (List.replicate n (0, 0)) := by
  refine List.ext_getElem? fun i => ?_
  by_cases hi : i < n * 2
  · have h1 : i / 2 < (List.replicate n ((0 : Int), (0 : Nat))).length := by simp; omega
    have h2 := evs_get0 _ _ h1
    have h3 := evs_get1 _ _ h1
    have e : (madeCells (Value.agg #[.int .i64 0, .int .i64 0]).cells (n * 2)).toList[i]? = some (.int .i64 0) := by
      rcases Nat.mod_two_eq_zero_or_one i with h | h <;> simp [madeCells, Value.cells, hi, h]
    rw [e]
    rcases Nat.mod_two_eq_zero_or_one i with h | h
    · rw [show i / 2 * 2 = i by omega] at h2
      rw [h2]
      simp [List.getD_eq_getElem?_getD, List.getElem?_replicate, show i / 2 < n by omega]
    · rw [show i / 2 * 2 + 1 = i by omega] at h3
      rw [h3]
      simp [List.getD_eq_getElem?_getD, List.getElem?_replicate, show i / 2 < n by omega]
  · rw [List.getElem?_eq_none (by simp [madeCells]; omega), List.getElem?_eq_none (by rw [evs_len]; simp; omega)]

end Go.Proofs.Ytbicieflcgifdaa.Hz
namespace Go.Proofs.Ytbicieflcgifdaa.Hz
open Go.RowKit Go.Shelf Go.Lib Go.Sort Go.Proofs.Ytbicieflcgifdaa.Gen Go.Proofs.Ytbicieflcgifdaa.Mp Go.Proofs.Ytbicieflcgifdaa.Hr Go.Proofs.Ytbicieflcgifdaa.Hp Go.Proofs.Ytbicieflcgifdaa.Hm Go.Proofs.Ytbicieflcgifdaa.Hg Go.Proofs.Ytbicieflcgifdaa.So Go.Proofs.Ytbicieflcgifdaa.Hs Go.Proofs.Ytbicieflcgifdaa.Hf
theorem wf_of {x : Int} (h : -2147483648 ≤ x ∧ x ≤ 2147483648) : (Lit.int .i64 x).wf = true := by
  have hm : IntKind.i64.min = -9223372036854775808 ∧ IntKind.i64.max = 9223372036854775807 := by decide
  simp [Lit.wf, hm.1, hm.2]
  omega
end Go.Proofs.Ytbicieflcgifdaa.Hz
