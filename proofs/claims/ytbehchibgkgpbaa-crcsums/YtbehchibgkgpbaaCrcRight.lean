/- Right: do bytes end with their sum? -/
import Derived.Test.YtbehchibgkgpbaaCrcPut
namespace Go.Proofs.Ytbehchibgkgpbaa.Cr
open Go.RowKit Go.Proofs.Ytbehchibgkgpbaa.Gen Go.Proofs.Ytbehchibgkgpbaa.Cp Go.Proofs.Ytbehchibgkgpbaa.Ct Go.Proofs.Ytbehchibgkgpbaa.Cs Go.Proofs.Ytbehchibgkgpbaa.Cu

/-- They end with their sum. -/
def Rt (xs : List Int) : Prop := 4 ≤ xs.length ∧ xs.drop (xs.length - 4) = wordAt (sumOf (nat (xs.take (xs.length - 4)))) 4
instance (xs : List Int) : Decidable (Rt xs) := by unfold Rt; infer_instance
theorem wordAt_take (q : Nat) {i j : Nat} (h : i ≤ j) : (wordAt q j).take i = wordAt q i := by
  unfold wordAt
  rw [← List.map_take, List.take_range, Nat.min_eq_left h]
theorem wordAt_get (q : Nat) {i j : Nat} (h : i < j) : (wordAt q j).getD i 0 = ((q / 256 ^ i % 256 : Nat) : Int) := by
  simp [wordAt, List.getD_eq_getElem?_getD, h]
theorem right_nil (v : Value) (w : World) : Calls Try.prog 13 #[.pointer none, v] w fun r w' => r = .returned (.bool false) ∧ w' = w := by
  go_enter Try.func13, Try.ntmps13
  go_wp2
  go_ret
  exact ⟨rfl, rfl⟩
theorem right_short (g k c : Nat) (A : Option Addr) (w : World) (hk : k < 4) : Calls Try.prog 13 #[.pointer (some ⟨g, 0, none⟩), .slice A k c] w fun r w' => r = .returned (.bool false) ∧ w' = w := by
  go_enter Try.func13, Try.ntmps13
  go_wp2
  go_ret
  exact ⟨rfl, rfl⟩
theorem right_long (g m c b o : Nat) (xs : List Int) (r : Bool) (w : World) (hg : Blk w g 37 (tabAt 256)) (hl : Lies w (some ⟨b, o, none⟩) xs) (hb : Byt xs) (hk : xs.length = m + 4) (hc : m + 4 ≤ c) (hn : m ≤ 100000) (hr : decide (Rt xs) = r) :
    Calls Try.prog 13 #[.pointer (some ⟨g, 0, none⟩), .slice (some ⟨b, o, none⟩) (m + 4) c] w fun e w' => e = .returned (.bool r) ∧ Keeps (fun _ => False) w w' := by
  obtain ⟨q, hq⟩ : ∃ q, sumOf (nat (xs.take m)) = q := ⟨_, rfl⟩
  have hql : q < 4294967296 := by rw [← hq]; exact sum_lt _
  have hlm : Lies w (some ⟨b, o, none⟩) (xs.take m) := by
    have := hl.cut 0 m
    simpa using this
  have HS := Lib.hid (sum_one g m c q (some ⟨b, o, none⟩) (xs.take m) w hg hlm (hb.take m) (by simp; omega) (by omega) hq)
  have hcut0 := fun w => run_cut_from (P := Try.prog) 22 5 (some ⟨b, o, none⟩) (m + 4) c m .i64 Try.underlying22 Try.sizeOf5 (by omega) w
  have hcut : ∀ w, (Instr.slice 22 (.slice (some ⟨b, o, none⟩) (m + 4) c) (some (.int .i64 (m : Int))) none none).run Try.prog w = .ok (.slice (some ⟨b, o + m, none⟩) 4 (c - m)) w := by
    intro w
    rw [hcut0 w, cutAt, if_neg (by omega), Option.map_some, add_none, show m + 4 - m = 4 by omega]
  have HL := Lib.hid hl
  have HX := Lib.hid hk
  have HR := Lib.hid hr
  have HB := Lib.hid hb
  clear hg hl hb hk hlm hr hcut0
  go_enter Try.func13, Try.ntmps13
  go_wp2_with fail
  refine HS.out.mono ?_
  rintro e w1 ⟨rfl, hw1⟩
  have HK1 : Hid (Keeps (fun _ => False) w w1) := by rw [hw1]; exact (Keeps.refl _ _).alloc _
  have HL1 := Lib.hid (HL.out.keeps HK1.out (fun _ _ _ => id))
  clear hw1 HS HL
  go_wp2
  clear hcut
  go_loopw [29] (fun i wr => ∃ d : Nat, d ≤ 4 ∧ i = .int .i64 (d : Int) ∧ wr = w1 ∧ (xs.drop m).take d = wordAt q d) (fun i _ => 4 - (intOf i).toNat)
  case atStart => exact ⟨0, by omega, rfl, rfl, rfl⟩
  case round =>
    obtain ⟨d, hd, rfl, rfl, hsame⟩ := hrel
    have HM := Lib.hid hsame
    clear hsame
    have hdl : (xs.drop m).length = 4 := by rw [List.length_drop, HX.out]; omega
    have HRT : Hid (Rt xs ↔ xs.drop m = wordAt q 4) := by
      show Rt xs ↔ xs.drop m = wordAt q 4
      have := HX.out
      have hq' := hq
      unfold Rt
      rw [show xs.length - 4 = m by omega, hq]
      constructor
      · exact fun h => h.2
      · exact fun h => ⟨by omega, h⟩
    by_cases hlt : d < 4
    · obtain ⟨y, hyl, hcy, hys⟩ : ∃ y : Nat, y < 256 ∧ wr.cell? ⟨b, o + m + d, none⟩ = some (.int .u8 (y : Int)) ∧ (xs.drop m).getD d 0 = (y : Int) := by
        have hx := HX.out
        rcases HL1.out with h | ⟨b', o', h, _, hcl⟩
        · rw [h] at hx; simp at hx
        · cases h
          have hy := HB.out (xs.getD (m + d) 0) (by rw [List.getD_eq_getElem?_getD, List.getElem?_eq_getElem (by omega)]; simp)
          refine ⟨(xs.getD (m + d) 0).toNat, by omega, ?_, ?_⟩
          · rw [show (((xs.getD (m + d) 0).toNat : Nat) : Int) = xs.getD (m + d) 0 by omega, Nat.add_assoc]
            exact hcl (m + d) (by omega)
          · rw [List.getD_eq_getElem?_getD, List.getElem?_drop, ← List.getD_eq_getElem?_getD]
            omega
      have HBO := fun w => Ct.byteOf q d w hql hlt
      obtain ⟨z, hz⟩ : ∃ z, z = q / 256 ^ d % 256 := ⟨_, rfl⟩
      rw [← hz] at HBO
      have HB2 := Lib.hid HBO
      have HY := Lib.hid hys
      have HZ := Lib.hid hz
      have HDL := Lib.hid hdl
      have HQ := Lib.hid hq
      clear HBO hys hz hdl hq
      have hd0 : (0 : Int) ≤ (d : Int) := by omega
      have hd1 : (d : Int) < 4 := by omega
      by_cases hyz : y = z
      · subst hyz
        go_wp2_with fail
        refine (HB2.out _).mono ?_
        rintro e w4 ⟨rfl, rfl⟩
        go_wp2
        refine ⟨⟨d + 1, by omega, by go_num, trivial, ?_⟩, by simp [intOf]; omega⟩
        rw [wordAt_succ, ← HZ.out, ← HM.out, ← HY.out, List.take_add_one, List.getD_eq_getElem?_getD, List.getElem?_eq_getElem (by have := HDL.out; omega)]
        rfl
      · obtain rfl : r = false := by
          rw [← HR.out, decide_eq_false_iff_not, HRT.out]
          intro h
          have h2 := HY.out
          rw [h, wordAt_get q hlt, ← HZ.out] at h2
          omega
        go_wp2_with fail
        refine (HB2.out _).mono ?_
        rintro e w4 ⟨rfl, rfl⟩
        go_wp2
        go_ret
        exact ⟨rfl, HK1.out⟩
    · obtain rfl : d = 4 := by omega
      obtain rfl : r = true := by
        rw [← HR.out, decide_eq_true_iff, HRT.out, ← HM.out, List.take_of_length_le (by omega)]
      have HQ := Lib.hid hq
      have HDL := Lib.hid hdl
      clear hq hdl
      go_wp2
      go_ret
      exact ⟨rfl, HK1.out⟩
/-- Any bytes. -/
theorem right (g k c : Nat) (A : Option Addr) (xs : List Int) (r : Bool) (w : World) (hg : Blk w g 37 (tabAt 256)) (hl : Lies w A xs) (hb : Byt xs) (hk : xs.length = k) (hc : k ≤ c) (hn : k ≤ 100000) (hr : decide (Rt xs) = r) :
    Calls Try.prog 13 #[.pointer (some ⟨g, 0, none⟩), .slice A k c] w fun e w' => e = .returned (.bool r) ∧ Keeps (fun _ => False) w w' := by
  by_cases h4 : k < 4
  · obtain rfl : r = false := by
      rw [← hr, decide_eq_false_iff_not]
      intro h
      have := h.1
      omega
    refine (right_short g k c A w h4).mono ?_
    rintro e w' ⟨rfl, rfl⟩
    exact ⟨rfl, Keeps.refl _ _⟩
  · obtain ⟨m, rfl⟩ : ∃ m, k = m + 4 := ⟨k - 4, by omega⟩
    rcases hl with h | ⟨b, o, rfl, h1, h2⟩
    · rw [h] at hk; simp at hk
    · exact right_long g m c b o xs r w hg (.inr ⟨b, o, rfl, h1, h2⟩) hb hk hc (by omega) hr
end Go.Proofs.Ytbehchibgkgpbaa.Cr
