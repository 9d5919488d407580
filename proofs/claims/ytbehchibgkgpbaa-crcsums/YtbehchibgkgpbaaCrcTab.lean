/- crc's small functions, call by call: what becomes of a byte once all its bits went out; a sum's bytes. -/
import Derived.Test.YtbehchibgkgpbaaProg
import Derived.Test.YtbehchibgkgpbaaGen
import Derived.Test.YtbehchibgkgpbaaCrcPlain
import Derived.WalkKit
import Derived.WalkSpells
import Derived.WalkLawsBesides
import Derived.Lib.Hide
import Derived.Maps.AppendAt
import Derived.BigQuiet
import Derived.Outline
import Derived.Laws.BitsAllLaws
import Derived.Deep.WholeRow
import Derived.Deep.CutRange
import Derived.Deep.RegionHeld3
import Derived.Deep.RegionLaw
import Derived.Deep.AppendLies
namespace Go.Proofs.Ytbehchibgkgpbaa.Ct
open Go.RowKit Go.Proofs.Ytbehchibgkgpbaa.Gen Go.Proofs.Ytbehchibgkgpbaa.Cp

theorem it_snoc : ∀ (d c : Nat), it (d + 1) c = bit1 (it d c) := fun d c => it_add d 1 c
theorem and1 {n : Nat} (h : n < 4294967296) : bits .and .u32 (n : Int) 1 = ((n % 2 : Nat) : Int) := by
  have := u32_and_nat n 1 h (by decide)
  rw [Nat.and_one_is_mod] at this
  exact this
theorem xorp {n : Nat} (h : n < 4294967296) : bits .xor .u32 (n : Int) 3988292384 = ((n ^^^ poly : Nat) : Int) := u32_xor_nat n 3988292384 h (by decide)
theorem entry (n : Nat) (w : World) (h : n < 4294967296) : Calls Try.prog 14 #[.int .u32 (n : Int)] w fun r w' => r = .returned (.int .u32 (it 8 n)) ∧ w' = w := by
  go_enter Try.func14, Try.ntmps14
  go_wp2
  go_loopw [0, 4] (fun nv i wr => ∃ d : Nat, d ≤ 8 ∧ nv = .int .u32 ((it d n : Nat) : Int) ∧ i = .int .i64 (d : Int) ∧ wr = w) (fun _ i _ => 8 - (intOf i).toNat)
  case atStart => exact ⟨0, by omega, rfl, rfl, rfl⟩
  case round =>
    obtain ⟨d, hd, rfl, rfl, rfl⟩ := hrel
    have hc := it_lt d h
    have HS := Lib.hid (it_snoc d n)
    obtain ⟨c, hC⟩ : ∃ c, c = it d n := ⟨_, rfl⟩
    rw [← hC] at hc HS ⊢
    have hC' := Lib.hid hC
    clear hC
    by_cases hlt : d < 8
    · have ha := and1 hc
      have HX := Lib.hid (xorp (n := c / 2) (by omega))
      rcases Nat.mod_two_eq_zero_or_one c with hm | hm
      · have HB : Hid (bit1 c = c / 2) := by show bit1 c = c / 2; unfold bit1; rw [if_neg (by omega)]
        rw [hm] at ha
        go_wp2
        exact ⟨⟨d + 1, by omega, by rw [HS.out, HB.out]; simp, by simp, trivial⟩, by simp [intOf]; omega⟩
      · have HB : Hid (bit1 c = c / 2 ^^^ poly) := by show bit1 c = c / 2 ^^^ poly; unfold bit1; rw [if_pos (by omega)]
        rw [hm] at ha
        go_wp2
        exact ⟨⟨d + 1, by omega, by rw [HS.out, HB.out, ← HX.out]; simp, by simp, trivial⟩, by simp [intOf]; omega⟩
    · obtain rfl : d = 8 := by omega
      go_wp2
      go_ret
      exact ⟨by rw [hC'.out]; rfl, rfl⟩
/-- A sum's byte, the lowest being the first. -/
theorem byteOf (n i : Nat) (w : World) (h : n < 4294967296) (hi : i < 4) : Calls Try.prog 15 #[.int .u32 (n : Int), .int .i64 (i : Int)] w fun r w' => r = .returned (.int .u8 ((n / 256 ^ i % 256 : Nat) : Int)) ∧ w' = w := by
  obtain rfl | rfl | rfl | rfl : i = 0 ∨ i = 1 ∨ i = 2 ∨ i = 3 := by omega
  all_goals
    go_enter Try.func15, Try.ntmps15
    go_wp2
    go_ret
    exact ⟨by simp; try omega, rfl⟩

/-- The table when d of its entries are laid. -/
def tabAt (d : Nat) : Array Value := ((List.range 256).map fun b => if b < d then Value.int .u32 ((it 8 b : Nat) : Int) else .int .u32 0).toArray
theorem tabAt_size (d : Nat) : (tabAt d).size = 256 := by simp [tabAt]
theorem tabAt_get {d b : Nat} (h : b < 256) : (tabAt d)[b]? = some (if b < d then Value.int .u32 ((it 8 b : Nat) : Int) else .int .u32 0) := by
  simp [tabAt, h]
theorem tabAt_set {d : Nat} (h : d < 256) : (tabAt d).setIfInBounds d (.int .u32 ((it 8 d : Nat) : Int)) = tabAt (d + 1) := by
  apply Array.ext_getElem?
  intro j
  rw [Array.getElem?_setIfInBounds]
  by_cases hj : j < 256
  · rw [tabAt_get hj, tabAt_get hj, tabAt_size]
    by_cases e : d = j
    · subst e
      simp [h]
    · rw [if_neg e]
      simp [show j < d + 1 ↔ j < d by omega]
  · simp [tabAt, hj]
    omega
theorem tab_info : (Try.prog.info? 37).map (fun i => (i.zero, i.size)) = some (some (.agg (Array.replicate 256 (.int .u32 0))), 256) := by kernel_rfl
theorem tab0 : Array.replicate 256 (Value.int .u32 0) = tabAt 0 := by
  apply Array.ext_getElem?
  intro j
  by_cases hj : j < 256
  · rw [tabAt_get hj]
    simp [hj]
  · simp [tabAt, hj]
theorem zero_tab (w : World) : (zeroValue 37).run Try.prog w = .ok (.agg (tabAt 0)) w := by
  have hz := (zero_of_info tab_info).1 w
  rw [tab0] at hz
  exact hz
theorem entry_q (n q : Nat) (w : World) (h : n < 4294967296) (hq : it 8 n = q) : Calls Try.prog 14 #[.int .u32 (n : Int)] w fun r w' => r = .returned (.int .u32 (q : Int)) ∧ w' = w := by
  subst hq
  exact entry n w h
/-- New: a table of its own. -/
def Tabled (w : World) (r : Ending) (w' : World) : Prop :=
  r = .returned (.pointer (some ⟨w.heap.size, 0, none⟩)) ∧ Blk w' w.heap.size 37 (tabAt 256) ∧ Keeps (fun _ => False) w w'
theorem new_ (w : World) : Calls Try.prog 8 #[] w (Tabled w) := by
  have hz := zero_tab
  generalize htz : tabAt 0 = Z at hz
  have HZ := Lib.hid htz
  clear htz
  go_enter Try.func8, Try.ntmps8
  go_wp2
  clear hz
  go_loopw [5] (fun i wr => ∃ d : Nat, d ≤ 256 ∧ i = .int .i64 (d : Int) ∧ Blk wr w.heap.size 37 (tabAt d) ∧ Keeps (fun _ => False) w wr) (fun i _ => 256 - (intOf i).toNat)
  case atStart => exact ⟨0, by omega, rfl, by rw [HZ.out]; exact Blk.new w 37 _, (Keeps.refl _ _).alloc _⟩
  case round =>
    obtain ⟨d, hd, rfl, hb, hk⟩ := hrel
    have HB := Lib.hid hb
    have HK := Lib.hid hk
    by_cases hlt : d < 256
    · obtain ⟨u, hu⟩ : ∃ u, (tabAt d)[d]? = some u := ⟨_, tabAt_get hlt⟩
      have hc : wr.cell? ⟨w.heap.size, d, none⟩ = some u := (hb.cell d).trans hu
      have hf : wr.frozen? ⟨w.heap.size, d, none⟩ = false := hb.frozen d
      obtain ⟨q, hq⟩ : ∃ q, it 8 d = q := ⟨_, rfl⟩
      have HQ := Lib.hid hq
      have HS : Hid (Blk (wr.setCell ⟨w.heap.size, d, none⟩ (.int .u32 (q : Int))) w.heap.size 37 (tabAt (d + 1))) := by
        have h := hb.setCell d (.int .u32 (q : Int))
        rw [← hq, tabAt_set hlt] at h
        rw [← hq]
        exact h
      have HKS := Lib.hid (hk.setCell (p := ⟨w.heap.size, d, none⟩) (.inr (Nat.le_refl _)) (.int .u32 (q : Int)))
      have hd0 : (0 : Int) ≤ (d : Int) := by omega
      have hd1 : (d : Int) < 256 := by omega
      clear hb hk hu hq
      go_wp2_with fail
      have hw : IntKind.u32.wrap (d : Int) = (d : Int) := IntWalk.u32_in _ (by omega)
      go_region_with ((go_at_call 14; refine (entry_q d q _ (by omega) HQ.out).mono ?_; rintro e w2 ⟨rfl, rfl⟩))
      all_goals go_wp2
      all_goals exact ⟨⟨d + 1, by omega, by go_num, HS.out.drewN 1, HKS.out.drewN 1⟩, by simp [intOf]; omega⟩
    · obtain rfl : d = 256 := by omega
      go_wp2
      go_ret
      exact ⟨rfl, HB.out, HK.out⟩
end Go.Proofs.Ytbehchibgkgpbaa.Ct
