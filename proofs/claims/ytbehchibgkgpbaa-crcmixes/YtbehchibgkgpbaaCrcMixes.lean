/- The statement CrcMixes (P4.1, without the document's answer: sums of bytes that differ by the same differ by the same) holds for every input: the Go function answers true, and its arguments read as before. No conditions beyond the row's own. -/
import Derived.Test.YtbehchibgkgpbaaRows
import Derived.WalkKit
import Derived.ProofKit
import Derived.OpenShut
import Derived.ShutString
import Derived.ChangeOld
import Derived.Below
import Derived.Test.YtbehchibgkgpbaaAwake4
import Derived.Test.YtbehchibgkgpbaaCrcMore
import Derived.Test.YtbehchibgkgpbaaAnyOrd
import Derived.Outline
import Derived.RegionTactic
import Derived.ChangeAlike
import Derived.BigRegion
namespace Go.Proofs.Ytbehchibgkgpbaa.crcMixes
open Go.ChangeShapes Go.WideShapes Go.ChangeAt Go.RowKit
open Go.ChangeMaps (open_string shut_string)
open Go.Proofs.Ytbehchibgkgpbaa.Gen Go.Proofs.Ytbehchibgkgpbaa.Cp Go.Proofs.Ytbehchibgkgpbaa.Ct Go.Proofs.Ytbehchibgkgpbaa.Cs Go.Proofs.Ytbehchibgkgpbaa.Cu Go.Proofs.Ytbehchibgkgpbaa.Cr Go.Proofs.Ytbehchibgkgpbaa.Cf Go.Proofs.Ytbehchibgkgpbaa.Cm
set_option linter.unusedVariables false

theorem own : ownKnob Try.prog.godebug = none := by kernel_rfl
theorem laidOut : laidOutB Try.prog = true := by kernel_rfl

/-- WHAT THE WALK IS TOLD OF A SLICE OF INTEGERS THAT CAME IN: it is nil; or it leads to a row of 'cap' cells, the numbers 'zs' (the first 'len' are its elements, the rest its spare room), each fitting its kind. -/
def IsRow (k : IntKind) (w : World) (a : Option Addr) (len cap : Nat) (zs : List Int) : Prop :=
  (a = none ∧ len = 0 ∧ cap = 0 ∧ zs = []) ∨
  ∃ x, a = some x ∧ len ≤ cap ∧ cap ≤ maxLen ∧ zs.length = cap ∧ (∀ i, i < zs.length → w.cell? (x.add i) = some (.int k (zs.getD i 0))) ∧ ∀ n ∈ zs, (Lit.int k n).wf = true

theorem made (t : Nat) : madeCells (Value.int .u8 0).cells (t * 1) = (bv (iv (List.replicate t 0))).toArray := by
  apply Array.ext_getElem?
  intro j
  by_cases hj : j < t
  · simp [madeCells, hj, Nat.mod_one, bv, iv, Value.cells]
  · simp [madeCells, hj, bv, iv]
theorem make_bytes (t : Nat) (ht : t ≤ 1000000) (w : World) : (Instr.makeSlice 22 (.int .i64 (t : Int)) (.int .i64 (t : Int))).run Try.prog w = .ok (.slice (some ⟨w.heap.size, 0, none⟩) t t) (w.alloc (.cells (bv (iv (List.replicate t 0))).toArray 5)) := by
  obtain ⟨i0, hi0, hz0, hz1, hz2⟩ := info_parts u8_info
  have h := run_make (P := Try.prog) w 22 5 i0 _ Try.underlying22 hi0 hz0 .i64 .i64 (t : Int) (t : Int) (by omega) (by omega) (by rw [hz2]; omega) (by omega)
  rw [hz1, Int.toNat_natCast, made] at h
  exact h
theorem own_made (w : World) (t base : Nat) (ht : t ≤ 1000000) (hb : base ≤ w.heap.size) : (w.alloc (.cells (bv (iv (List.replicate t 0))).toArray 5)).ownsRow base 5 1 (.slice (some ⟨w.heap.size, 0, none⟩) t t) t (bv (iv (List.replicate t 0))) :=
  ⟨by simp [bv_len, iv_len], .inr ⟨_, _, _, rfl, hb, heap_alloc_new w _, Nat.le_refl _, by simp only [maxLen]; omega, by simp [bv, iv], by simp [bv, iv]⟩⟩
theorem run_min4 {P : Program} (ts : Array TypeId) (t : TypeId) (a b c : Nat) (w : World) : (Builtin.min_ ts t #[.int .i64 (a : Int), .int .i64 (b : Int), .int .i64 (c : Int), .int .i64 300]).run P w = .ok (.int .i64 ((min (min (min a b) c) 300 : Nat) : Int)) w := by
  have h2 : ∀ x y : Int, (if y < x then y else x) = min x y := by intro x y; split <;> omega
  simp [Builtin.min_, Builtin.min2, h2]
  split <;> omega
/-- The bytes when d of them are mixed. -/
def mix (us ms : List Nat) (n d : Nat) : List Nat := (List.range n).map fun j => if j < d then us.getD j 0 ^^^ ms.getD j 0 else 0
theorem mix_len (us ms : List Nat) (n d : Nat) : (mix us ms n d).length = n := by simp [mix]
theorem mix_get (us ms : List Nat) {n d j : Nat} (h : j < n) : (mix us ms n d)[j]? = some (if j < d then us.getD j 0 ^^^ ms.getD j 0 else 0) := by simp [mix, h]
theorem mix_zero (us ms : List Nat) (n : Nat) : mix us ms n 0 = List.replicate n 0 := by
  apply List.ext_getElem?
  intro j
  by_cases hj : j < n
  · rw [mix_get us ms hj]
    simp [hj]
  · simp [mix, hj]
theorem mix_set (us ms : List Nat) {n d : Nat} (h : d < n) : (mix us ms n d).set d (us.getD d 0 ^^^ ms.getD d 0) = mix us ms n (d + 1) := by
  apply List.ext_getElem?
  intro j
  rw [List.getElem?_set, mix_len]
  by_cases hj : j < n
  · rw [mix_get us ms hj, mix_get us ms hj]
    by_cases e : d = j
    · subst e
      simp [h]
    · rw [if_neg e]
      simp [show j < d + 1 ↔ j < d by omega]
  · rw [if_neg (by omega)]
    simp [mix, hj]
theorem mix_all (us ms : List Nat) {n : Nat} (h1 : n ≤ us.length) (h2 : n ≤ ms.length) : mix us ms n n = List.zipWith (· ^^^ ·) (us.take n) (ms.take n) := by
  apply List.ext_getElem?
  intro j
  by_cases hj : j < n
  · rw [mix_get us ms hj, if_pos hj]
    simp [List.getElem?_zipWith, hj, List.getD_eq_getElem?_getD, List.getElem?_eq_getElem (show j < us.length by omega), List.getElem?_eq_getElem (show j < ms.length by omega)]
  · rw [List.getElem?_eq_none (by rw [mix_len]; omega), List.getElem?_eq_none (by simp; omega)]
theorem mix_byte {us ms : List Nat} (ha : ∀ x ∈ us, x < 256) (hm : ∀ x ∈ ms, x < 256) (n d : Nat) : ∀ x ∈ mix us ms n d, x < 256 := by
  intro x hx
  obtain ⟨j, _, rfl⟩ := List.mem_map.1 hx
  split
  · refine Nat.xor_lt_two_pow (n := 8) ?_ ?_
    · rw [List.getD_eq_getElem?_getD]
      cases h : us[j]? with
      | none => simp
      | some y => simpa using ha y (List.mem_of_getElem? h)
    · rw [List.getD_eq_getElem?_getD]
      cases h : ms[j]? with
      | none => simp
      | some y => simpa using hm y (List.mem_of_getElem? h)
  · omega
/-- Two rows of one's own, apart. -/
structure Two (base gx gy n : Nat) (lx ly : List Nat) (w1 wr : World) : Prop where
  x : wr.ownsRow base 5 1 (.slice (some ⟨gx, 0, none⟩) n n) n (bv (iv lx))
  y : wr.ownsRow base 5 1 (.slice (some ⟨gy, 0, none⟩) n n) n (bv (iv ly))
  ne : gx ≠ gy
  keeps : Keeps (fun _ => False) w1 wr
theorem Two.swap {base gx gy n : Nat} {lx ly : List Nat} {w1 wr : World} (h : Two base gx gy n lx ly w1 wr) : Two base gy gx n ly lx w1 wr := ⟨h.y, h.x, h.ne.symm, h.keeps⟩
theorem Two.new (w : World) (n : Nat) (hn : n ≤ 1000) : Two w.heap.size w.heap.size (w.heap.size + 1) n (List.replicate n 0) (List.replicate n 0) w
    ((w.alloc (.cells (bv (iv (List.replicate n 0))).toArray 5)).alloc (.cells (bv (iv (List.replicate n 0))).toArray 5)).drew := by
  have k1 : Keeps (fun _ => False) w (w.alloc (.cells (bv (iv (List.replicate n 0))).toArray 5)) := (Keeps.refl _ _).alloc _
  have h1 := own_made w n w.heap.size (by omega) (Nat.le_refl _)
  generalize hw : w.alloc (.cells (bv (iv (List.replicate n 0))).toArray 5) = w1 at *
  have hs : w1.heap.size = w.heap.size + 1 := by rw [← hw]; simp
  have h2 := own_made w1 n w.heap.size (by omega) (by omega)
  have k2 : Keeps (fun _ => False) w1 (w1.alloc (.cells (bv (iv (List.replicate n 0))).toArray 5)).drew := ((Keeps.refl _ _).alloc _).drewN 1
  refine ⟨own_keeps h1 k2 (fun _ _ => id), ?_, by omega, k1.trans k2⟩
  rw [hs] at h2
  exact own_keeps h2 ((Keeps.refl (fun _ => False) _).drewN 1) (fun _ _ => id)
theorem Two.set {base gx gy n d : Nat} {lx ly : List Nat} {w1 wr : World} (h : Two base gx gy n lx ly w1 wr) (hd : d < n) (hb : w1.heap.size ≤ base) (p q : Nat) :
    Two base gx gy n (lx.set d p) (ly.set d q) w1 ((wr.setCell ⟨gx, d, none⟩ (.int .u8 (p : Int))).setCell ⟨gy, d, none⟩ (.int .u8 (q : Int))).drew := by
  have hne := h.ne
  obtain ⟨_, _, hgx, _⟩ := own_cell h.x hd
  obtain ⟨_, _, hgy, _⟩ := own_cell h.y hd
  have x1 := own_set h.x hd (p : Int)
  have y1 := own_keeps h.y ((Keeps.refl (· = gx) wr).setOwn d (.int .u8 (p : Int))) (fun b e => by simp [Value.ownBlock] at e; omega)
  have k1 := h.keeps.setCell (p := ⟨gx, d, none⟩) (.inr (show w1.heap.size ≤ gx by omega)) (.int .u8 (p : Int))
  generalize wr.setCell ⟨gx, d, none⟩ (.int .u8 (p : Int)) = w2 at *
  have x2 := own_keeps x1 ((Keeps.refl (· = gy) w2).setOwn d (.int .u8 (q : Int))) (fun b e => by simp [Value.ownBlock] at e; omega)
  have y2 := own_set y1 hd (q : Int)
  have k2 := k1.setCell (p := ⟨gy, d, none⟩) (.inr (show w1.heap.size ≤ gy by omega)) (.int .u8 (q : Int))
  rw [iv_set] at x2 y2
  exact ⟨own_keeps x2 ((Keeps.refl (fun _ => False) _).drewN 1) (fun _ _ => id), own_keeps y2 ((Keeps.refl (fun _ => False) _).drewN 1) (fun _ _ => id), hne, k2.drewN 1⟩
/-- The byte at place d of a row that came in. -/
theorem byte_at {w : World} {A : Option Addr} {xs : List Int} {d : Nat} (hl : Lies w A xs) (hb : Byt xs) (hd : d < xs.length) : ∃ b o y, A = some ⟨b, o, none⟩ ∧ w.cell? ⟨b, o + d, none⟩ = some (.int .u8 ((y : Nat) : Int)) ∧ y < 256 ∧ (nat xs).getD d 0 = y := by
  rcases hl with h | ⟨b, o, h, _, hcl⟩
  · rw [h] at hd; simp at hd
  · have hy := hb (xs.getD d 0) (by rw [List.getD_eq_getElem?_getD, List.getElem?_eq_getElem hd]; simp)
    refine ⟨b, o, (xs.getD d 0).toNat, h, ?_, by omega, ?_⟩
    · rw [show (((xs.getD d 0).toNat : Nat) : Int) = xs.getD d 0 by omega]
      exact hcl d hd
    · simp [nat, List.getD_eq_getElem?_getD, hd]
set_option maxHeartbeats 1000000 in
set_option maxRecDepth 100000 in
theorem walk (a0 : Option Addr) (len0 cap0 : Nat) (z0 : List Int) (a1 : Option Addr) (len1 cap1 : Nat) (z1 : List Int) (a2 : Option Addr) (len2 cap2 : Nat) (z2 : List Int) (w : World) (w0 : IsRow .u8 w a0 len0 cap0 z0) (w1 : IsRow .u8 w a1 len1 cap1 z1) (w2 : IsRow .u8 w a2 len2 cap2 z2) :
    Calls Try.prog 6 #[.slice a0 len0 cap0, .slice a1 len1 cap1, .slice a2 len2 cap2] w fun e w' => e = .returned (.bool true) ∧ Below w.heap.size w w' := by
  obtain ⟨hxl, hlc, hlies, hby⟩ := row_lies w0
  obtain ⟨hxl1, hlc1, hlies1, hby1⟩ := row_lies w1
  obtain ⟨hxl2, hlc2, hlies2, hby2⟩ := row_lies w2
  obtain ⟨n, hn⟩ : ∃ n, n = min (min (min len0 len1) len2) 300 := ⟨_, rfl⟩
  have HN := Lib.hid hn
  have hn0 : n ≤ 300 := by omega
  have hmk := fun w => make_bytes n (by omega) w
  have HMK := Lib.hid hmk
  clear hn hmk
  have hnl : n ≤ len0 ∧ n ≤ len1 ∧ n ≤ len2 := by have := HN.out; omega
  obtain ⟨xs, hxs⟩ : ∃ xs, xs = z0.take len0 := ⟨_, rfl⟩
  obtain ⟨ys, hys⟩ : ∃ xs, xs = z1.take len1 := ⟨_, rfl⟩
  obtain ⟨ms, hms⟩ : ∃ xs, xs = z2.take len2 := ⟨_, rfl⟩
  rw [← hxs] at hxl hlies hby
  rw [← hys] at hxl1 hlies1 hby1
  rw [← hms] at hxl2 hlies2 hby2
  have HX0 := Lib.hid hxl
  have HX1 := Lib.hid hxl1
  have HX2 := Lib.hid hxl2
  have HY0 : Hid (Byt xs) := hby
  have HY1 : Hid (Byt ys) := hby1
  have HY2 : Hid (Byt ms) := hby2
  have HW0 := Lib.hid hlies
  have HW1 := Lib.hid hlies1
  have HW2 := Lib.hid hlies2
  clear w0 w1 w2 hxs hys hms hxl hxl1 hxl2 hby hby1 hby2 hlies hlies1 hlies2
  go_enter Try.func6, Try.ntmps6
  go_wp2_with fail
  refine (Aw.awake _).mono ?_
  rintro e w1 ⟨rfl, hb1⟩
  have HB1 := Lib.hid hb1
  have HL0 := Lib.hid (HW0.out.below hb1)
  have HL1 := Lib.hid (HW1.out.below hb1)
  have HL2 := Lib.hid (HW2.out.below hb1)
  clear hb1 HW0 HW1 HW2
  have hmin := fun (ts : Array TypeId) (t : TypeId) (w : World) => run_min4 (P := Try.prog) ts t len0 len1 len2 w
  rw [← HN.out] at hmin
  go_wp2_with fail
  refine (new_ w1).mono ?_
  rintro e w2 ⟨rfl, hb2, hk2⟩
  have HT2 := Lib.hid hb2
  have HK2 := Lib.hid hk2
  have HLT : Hid (w1.heap.size < w2.heap.size) := HT2.out.lt
  clear hb2 hk2 hmin
  go_upto_region 5 with fail
  go_cut [9, 10] from 22 to 26 (fun x y wr => ∃ gx gy, x = .slice (some ⟨gx, 0, none⟩) n n ∧ y = .slice (some ⟨gy, 0, none⟩) n n ∧ Two w2.heap.size gx gy n (List.replicate n 0) (List.replicate n 0) w2 wr)
  case first =>
    have hmk := HMK.out
    go_region
    all_goals go_wp2_with fail
    all_goals go_meet
    · exact ⟨_, _, rfl, rfl, Two.new w2 n (by omega)⟩
    · exact ⟨_, _, rfl, rfl, (Two.new w2 n (by omega)).swap⟩
  case rest =>
    obtain ⟨gx, gy, rfl, rfl, htwo⟩ := hcut
    have HTW := Lib.hid htwo
    clear htwo
    go_wp2
    go_loopw [27] (fun i wr => ∃ d : Nat, d ≤ n ∧ i = .int .i64 (d : Int) ∧ Two w2.heap.size gx gy n (mix (nat xs) (nat ms) n d) (mix (nat ys) (nat ms) n d) w2 wr) (fun i _ => n - (intOf i).toNat)
    case atStart => exact ⟨0, by omega, rfl, by rw [mix_zero, mix_zero]; exact HTW.out⟩
    case round =>
      obtain ⟨d, hd, rfl, htw⟩ := hrel
      have HTR := Lib.hid htw
      have HKR := Lib.hid (HK2.out.trans htw.keeps)
      clear htw HTW
      have HLx := Lib.hid (HL0.out.keeps HKR.out (fun _ _ _ => id))
      have HLy := Lib.hid (HL1.out.keeps HKR.out (fun _ _ _ => id))
      have HLm := Lib.hid (HL2.out.keeps HKR.out (fun _ _ _ => id))
      by_cases hlt : d < n
      · obtain ⟨b0, o0, x, rfl, hc0, hx, hxs⟩ := byte_at HLx.out HY0.out (show d < xs.length by rw [HX0.out]; omega)
        obtain ⟨b1, o1, y, rfl, hc1, hy, hys⟩ := byte_at HLy.out HY1.out (show d < ys.length by rw [HX1.out]; omega)
        obtain ⟨b2, o2, m, rfl, hc2, hm, hms⟩ := byte_at HLm.out HY2.out (show d < ms.length by rw [HX2.out]; omega)
        obtain ⟨hcx, hfx, hgx, hhx⟩ := own_cell HTR.out.x hlt
        obtain ⟨hcy, hfy, hgy, hhy⟩ := own_cell HTR.out.y hlt
        generalize (iv (mix (nat xs) (nat ms) n d)).getD d 0 = ox at hcx
        generalize (iv (mix (nat ys) (nat ms) n d)).getD d 0 = oy at hcy
        have hne := HTR.out.ne
        have HSX := Lib.hid (mix_set (nat xs) (nat ms) hlt)
        have HSY := Lib.hid (mix_set (nat ys) (nat ms) hlt)
        rw [hxs, hms] at HSX
        rw [hys, hms] at HSY
        have HO1 := Lib.hid (u8_xor_nat x m hx hm)
        have HO2 := Lib.hid (u8_xor_nat y m hy hm)
        have hd0 : (0 : Int) ≤ (d : Int) := by omega
        have hdn : (d : Int) < (n : Int) := by omega
        have hdl0 : (d : Int) < (len0 : Int) := by omega
        have hdl1 : (d : Int) < (len1 : Int) := by omega
        have hdl2 : (d : Int) < (len2 : Int) := by omega
        clear hxs hys hms
        go_wp2_with fail
        go_region
        all_goals go_wp2
        all_goals rw [HO1.out, HO2.out]
        all_goals exact ⟨⟨d + 1, by omega, by go_num, by rw [← HSX.out, ← HSY.out]; exact HTR.out.set hlt (Nat.le_refl _) _ _⟩, by simp [intOf]; omega⟩
      · obtain rfl : d = n := by omega
        have hcA := fun w => run_cut_to (P := Try.prog) 22 5 a0 len0 cap0 d .i64 Try.underlying22 Try.sizeOf5 (by omega) w
        have hcB := fun w => run_cut_to (P := Try.prog) 22 5 a1 len1 cap1 d .i64 Try.underlying22 Try.sizeOf5 (by omega) w
        have hlA := HLx.out.cutAt cap0 0 d (by rw [HX0.out]; omega) (by rw [HX0.out]; omega)
        have hlB := HLy.out.cutAt cap1 0 d (by rw [HX1.out]; omega) (by rw [HX1.out]; omega)
        rw [List.drop_zero] at hlA hlB
        generalize cutAt a0 cap0 0 = A0 at hcA hlA
        generalize cutAt a1 cap1 0 = A1 at hcB hlB
        obtain ⟨q1, hq1⟩ : ∃ q, sumOf (nat (iv (mix (nat xs) (nat ms) d d))) = q := ⟨_, rfl⟩
        obtain ⟨q2, hq2⟩ : ∃ q, sumOf (nat (xs.take d)) = q := ⟨_, rfl⟩
        obtain ⟨q3, hq3⟩ : ∃ q, sumOf (nat (iv (mix (nat ys) (nat ms) d d))) = q := ⟨_, rfl⟩
        obtain ⟨q4, hq4⟩ : ∃ q, sumOf (nat (ys.take d)) = q := ⟨_, rfl⟩
        obtain ⟨Z, hz1, hz2⟩ : ∃ Z, bits .xor .u32 (q1 : Int) (q2 : Int) = Z ∧ bits .xor .u32 (q3 : Int) (q4 : Int) = Z := by
          refine ⟨_, rfl, ?_⟩
          rw [u32_xor_nat q1 q2 (by rw [← hq1]; exact sum_lt _) (by rw [← hq2]; exact sum_lt _), u32_xor_nat q3 q4 (by rw [← hq3]; exact sum_lt _) (by rw [← hq4]; exact sum_lt _)]
          have hx0 := HX0.out
          have hx1 := HX1.out
          have hx2 := HX2.out
          have e1 := sums_differ ((nat xs).take d) ((nat ms).take d) (by simp [nat_len]; omega)
          have e2 := sums_differ ((nat ys).take d) ((nat ms).take d) (by simp [nat_len]; omega)
          rw [nat_iv, mix_all _ _ (by rw [nat_len]; omega) (by rw [nat_len]; omega)] at hq1 hq3
          rw [show nat (xs.take d) = (nat xs).take d from by simp [nat]] at hq2
          rw [show nat (ys.take d) = (nat ys).take d from by simp [nat]] at hq4
          rw [← hq1, ← hq2, ← hq3, ← hq4, e1, e2]
        have HQ1 := Lib.hid hq1
        have HQ2 := Lib.hid hq2
        have HQ3 := Lib.hid hq3
        have HQ4 := Lib.hid hq4
        have HLA := Lib.hid hlA
        have HLB := Lib.hid hlB
        have HTB := Lib.hid (HT2.out.keeps HTR.out.keeps (fun h => h))
        have HYX : Hid (Byt (iv (mix (nat xs) (nat ms) d d))) := Lib.hid (iv_byt (mix_byte (nat_byte HY0.out) (nat_byte HY2.out) d d))
        have HYY : Hid (Byt (iv (mix (nat ys) (nat ms) d d))) := Lib.hid (iv_byt (mix_byte (nat_byte HY1.out) (nat_byte HY2.out) d d))
        have HBW : Hid (Below w.heap.size w wr) := HB1.out.trans (HKR.out.below HB1.out.size (fun _ h => h.elim))
        have HWS : Hid (w.heap.size ≤ wr.heap.size) := HBW.out.size
        clear hq1 hq2 hq3 hq4 hlA hlB
        go_wp2_with fail
        refine wp_region_held_drew (S := fun _ => True) (by kernel_rfl) trivial (fun hHeld => ?_)
        refine wpAnyH_take (i := 0) (v := ?v0) rfl (by kernel_rfl) (by kernel_rfl) (by kernel_rfl) (fun _ _ _ h => h) (Or.inl ⟨by rfl, ?y0⟩) trivial ?r0
        case y0 => (intro w hSw; go_simp; try with_reducible rfl)
        simp only [Act.put, List.getElem_toArray, List.getElem_cons_succ, List.getElem_cons_zero, List.setIfInBounds_toArray, List.set_cons_zero, List.set_cons_succ]
        refine wpAnyH_take (i := 1) (v := ?v1) rfl (by kernel_rfl) (by kernel_rfl) (by kernel_rfl) (fun _ _ _ h => h) (Or.inl ⟨by rfl, ?y1⟩) trivial ?r1
        case y1 => (intro w hSw; go_simp; try with_reducible rfl)
        simp only [Act.put, List.getElem_toArray, List.getElem_cons_succ, List.getElem_cons_zero, List.setIfInBounds_toArray, List.set_cons_zero, List.set_cons_succ]
        refine wpAnyH_take (i := 4) (v := ?v4) rfl (by kernel_rfl) (by kernel_rfl) (by kernel_rfl) (fun _ _ _ h => h) (Or.inl ⟨by rfl, ?y4⟩) trivial ?r4
        case y4 => (intro w hSw; go_simp; try with_reducible rfl)
        simp only [Act.put, List.getElem_toArray, List.getElem_cons_succ, List.getElem_cons_zero, List.setIfInBounds_toArray, List.set_cons_zero, List.set_cons_succ]
        refine wpAnyH_take (i := 5) (v := ?v5) rfl (by kernel_rfl) (by kernel_rfl) (by kernel_rfl) (fun _ _ _ h => h) (Or.inl ⟨by rfl, ?y5⟩) trivial ?r5
        case y5 => (intro w hSw; go_simp; try with_reducible rfl)
        simp only [Act.put, List.getElem_toArray, List.getElem_cons_succ, List.getElem_cons_zero, List.setIfInBounds_toArray, List.set_cons_zero, List.set_cons_succ]
        refine wpAnyH_take (i := 6) (v := ?v6) rfl (by kernel_rfl) (by kernel_rfl) (by kernel_rfl) (fun _ _ _ h => h) (Or.inl ⟨by rfl, ?y6⟩) trivial ?r6
        case y6 => (intro w hSw; go_simp; try with_reducible rfl)
        simp only [Act.put, List.getElem_toArray, List.getElem_cons_succ, List.getElem_cons_zero, List.setIfInBounds_toArray, List.set_cons_zero, List.set_cons_succ]
        refine wpAnyH_take (i := 7) (v := ?v7) rfl (by kernel_rfl) (by kernel_rfl) (by kernel_rfl) (fun _ _ _ h => h) (Or.inl ⟨by rfl, ?y7⟩) trivial ?r7
        case y7 => (intro w hSw; go_simp; try with_reducible rfl)
        simp only [Act.put, List.getElem_toArray, List.getElem_cons_succ, List.getElem_cons_zero, List.setIfInBounds_toArray, List.set_cons_zero, List.set_cons_succ]
        refine wpAnyH_take (i := 11) (v := ?v11) rfl (by kernel_rfl) (by kernel_rfl) (by kernel_rfl) (fun _ _ _ h => h) (Or.inl ⟨by rfl, ?y11⟩) trivial ?r11
        case y11 => (intro w hSw; go_simp; try with_reducible rfl)
        simp only [Act.put, List.getElem_toArray, List.getElem_cons_succ, List.getElem_cons_zero, List.setIfInBounds_toArray, List.set_cons_zero, List.set_cons_succ]
        refine wpAnyH_take (i := 12) (v := ?v12) rfl (by kernel_rfl) (by kernel_rfl) (by kernel_rfl) (fun _ _ _ h => h) (Or.inl ⟨by rfl, ?y12⟩) trivial ?r12
        case y12 => (intro w hSw; go_simp; try with_reducible rfl)
        simp only [Act.put, List.getElem_toArray, List.getElem_cons_succ, List.getElem_cons_zero, List.setIfInBounds_toArray, List.set_cons_zero, List.set_cons_succ]
        refine wpAnyH_take (i := 15) (v := ?v15) rfl (by kernel_rfl) (by kernel_rfl) (by kernel_rfl) (fun _ _ _ h => h) (Or.inl ⟨by rfl, ?y15⟩) trivial ?r15
        case y15 => (intro w hSw; go_simp; try with_reducible rfl)
        simp only [Act.put, List.getElem_toArray, List.getElem_cons_succ, List.getElem_cons_zero, List.setIfInBounds_toArray, List.set_cons_zero, List.set_cons_succ]
        refine wpAnyH_take (i := 16) (v := ?v16) rfl (by kernel_rfl) (by kernel_rfl) (by kernel_rfl) (fun _ _ _ h => h) (Or.inl ⟨by rfl, ?y16⟩) trivial ?r16
        case y16 => (intro w hSw; go_simp; try with_reducible rfl)
        simp only [Act.put, List.getElem_toArray, List.getElem_cons_succ, List.getElem_cons_zero, List.setIfInBounds_toArray, List.set_cons_zero, List.set_cons_succ]
        refine wpAnyH_take (i := 17) (v := ?v17) rfl (by kernel_rfl) (by kernel_rfl) (by kernel_rfl) (fun _ _ _ h => h) (Or.inl ⟨by rfl, ?y17⟩) trivial ?r17
        case y17 => (intro w hSw; go_simp; try with_reducible rfl)
        simp only [Act.put, List.getElem_toArray, List.getElem_cons_succ, List.getElem_cons_zero, List.setIfInBounds_toArray, List.set_cons_zero, List.set_cons_succ]
        refine wpAnyH_take (i := 18) (v := ?v18) rfl (by kernel_rfl) (by kernel_rfl) (by kernel_rfl) (fun _ _ _ h => h) (Or.inl ⟨by rfl, ?y18⟩) trivial ?r18
        case y18 => (intro w hSw; go_simp; try with_reducible rfl)
        simp only [Act.put, List.getElem_toArray, List.getElem_cons_succ, List.getElem_cons_zero, List.setIfInBounds_toArray, List.set_cons_zero, List.set_cons_succ]
        refine Ao.wpAnyH_inv (fun L a w' => ∃ s57 s58 s63 s64 s65 s68 s69 s74 s75 s76 s77 s6 : Value, a = ⟨#[Value.slice a0 len0 cap0, Value.slice a1 len1 cap1, Value.slice a2 len2 cap2, undef, undef, undef, s6, Value.int .i64 (d : Int), Value.pointer (some ⟨w1.heap.size, 0, none⟩), Value.slice (some ⟨gx, 0, none⟩) d d, Value.slice (some ⟨gy, 0, none⟩) d d, u11, Value.bool true, Value.bool false, Value.slice a0 len0 cap0, Value.int .i64 (len0 : Int), Value.slice a1 len1 cap1, Value.int .i64 (len1 : Int), Value.slice a2 len2 cap2, Value.int .i64 (len2 : Int), Value.int .i64 (d : Int), Value.pointer (some ⟨w1.heap.size, 0, none⟩), u22, u23, u24, u25, Value.int .i64 (d : Int), Value.int .i64 (d : Int), Value.bool false, u29, u30, u31, u32, u33, u34, u35, u36, u37, u38, u39, u40, u41, u42, u43, u44, u45, u46, u47, u48, u49, u50, u51, u52, u53, u54, Value.pointer (some ⟨w1.heap.size, 0, none⟩), Value.slice (some ⟨gx, 0, none⟩) d d, s57, s58, Value.pointer (some ⟨w1.heap.size, 0, none⟩), Value.slice a0 len0 cap0, Value.int .i64 (d : Int), Value.slice A0 d cap0, s63, s64, s65, Value.pointer (some ⟨w1.heap.size, 0, none⟩), Value.slice (some ⟨gy, 0, none⟩) d d, s68, s69, Value.pointer (some ⟨w1.heap.size, 0, none⟩), Value.slice a1 len1 cap1, Value.int .i64 (d : Int), Value.slice A1 d cap1, s74, s75, s76, s77], []⟩ ∧ Keeps (fun _ => False) wr w' ∧ (∀ j ∈ [0, 1, 4, 5, 6, 7, 11, 12, 15, 16, 17, 18], L j = true) ∧ (L 2 = true → Laid1 s57 (.slice (some ⟨gx, 0, none⟩) d d) w') ∧ (L 3 = true → s58 = .int .u32 (q1 : Int)) ∧ (L 8 = true → Laid1 s63 (.slice A0 d cap0) w') ∧ (L 9 = true → s64 = .int .u32 (q2 : Int)) ∧ (L 10 = true → s65 = .int .u32 Z) ∧ (L 13 = true → Laid1 s68 (.slice (some ⟨gy, 0, none⟩) d d) w') ∧ (L 14 = true → s69 = .int .u32 (q3 : Int)) ∧ (L 19 = true → Laid1 s74 (.slice A1 d cap1) w') ∧ (L 20 = true → s75 = .int .u32 (q4 : Int)) ∧ (L 21 = true → s76 = .int .u32 Z) ∧ (L 22 = true → s77 = .bool true) ∧ (L 23 = true → s6 = .bool true)) ?hs ?he _ _ _ _ rfl (by decide) ?h0
        case h0 =>
          exact ⟨undef, undef, undef, undef, undef, undef, undef, undef, undef, undef, undef, .bool false, rfl, (Keeps.refl _ _).drewN 1, by decide, fun h => by simp at h, fun h => by simp at h, fun h => by simp at h, fun h => by simp at h, fun h => by simp at h, fun h => by simp at h, fun h => by simp at h, fun h => by simp at h, fun h => by simp at h, fun h => by simp at h, fun h => by simp at h, fun h => by simp at h⟩
        case hs =>
          rintro L a w' i op ⟨s57, s58, s63, s64, s65, s68, s69, s74, s75, s76, s77, s6, rfl, hk, hdone, h2, h3, h8, h9, h10, h13, h14, h19, h20, h21, h22, h23⟩ hLi hop hall
          have hnd : i ∉ [0, 1, 4, 5, 6, 7, 11, 12, 15, 16, 17, 18] := fun h => by rw [hdone i h] at hLi; cases hLi
          have hi : i < 24 := (Array.getElem?_eq_some_iff.1 hop).1
          simp only [List.mem_cons, List.not_mem_nil, or_false, not_or] at hnd
          obtain rfl | rfl | rfl | rfl | rfl | rfl | rfl | rfl | rfl | rfl | rfl | rfl : i = 2 ∨ i = 3 ∨ i = 8 ∨ i = 9 ∨ i = 10 ∨ i = 13 ∨ i = 14 ∨ i = 19 ∨ i = 20 ∨ i = 21 ∨ i = 22 ∨ i = 23 := by omega
          all_goals simp only [List.getElem?_toArray, List.getElem?_cons_succ, List.getElem?_cons_zero, Option.some.injEq] at hop
          all_goals subst hop
          all_goals simp [Region.binds] at hall
          · refine wpOp_step rfl ?_
            intro K' hK
            have HK := Lib.hid hK
            clear hK hLi hnd
            go_simp
            exact HK.out _ _ ⟨_, _, _, _, _, _, _, _, _, _, _, _, rfl, hk.alloc _, fun j hj => by (show (if 2 = j then true else L j) = true); split; rfl; exact hdone j hj, fun _ => Laid1.new _ _, fun h => by first | rfl | exact h3 (by simpa using h), fun h => (h8 (by simpa using h)).alloc _, fun h => by first | rfl | exact h9 (by simpa using h), fun h => by first | rfl | exact h10 (by simpa using h), fun h => (h13 (by simpa using h)).alloc _, fun h => by first | rfl | exact h14 (by simpa using h), fun h => (h19 (by simpa using h)).alloc _, fun h => by first | rfl | exact h20 (by simpa using h), fun h => by first | rfl | exact h21 (by simpa using h), fun h => by first | rfl | exact h22 (by simpa using h), fun h => by first | rfl | exact h23 (by simpa using h)⟩
          · obtain ⟨p, rfl, hp⟩ := h2 (by simp [hall])
            refine wpOp_step rfl ?_
            intro K' hK
            have HK := Lib.hid hK
            clear hK hLi hnd
            go_simp
            go_at_call 11
            refine (sum_at w1.heap.size p d d q1 (some ⟨gx, 0, none⟩) (iv (mix (nat xs) (nat ms) d d)) w' (HTB.out.keeps hk (fun h => h)) hp (Lies.keeps (Lies.of_own HTR.out.x) hk (fun _ _ _ => id)) (HYX.out) (by rw [iv_len, mix_len]) (by omega) HQ1.out).mono ?_
            rintro e w4 ⟨rfl, rfl⟩
            go_simp
            exact HK.out _ _ ⟨_, _, _, _, _, _, _, _, _, _, _, _, rfl, hk, fun j hj => by (show (if 3 = j then true else L j) = true); split; rfl; exact hdone j hj, fun h => h2 (by simpa using h), fun _ => rfl, fun h => h8 (by simpa using h), fun h => by first | rfl | exact h9 (by simpa using h), fun h => by first | rfl | exact h10 (by simpa using h), fun h => h13 (by simpa using h), fun h => by first | rfl | exact h14 (by simpa using h), fun h => h19 (by simpa using h), fun h => by first | rfl | exact h20 (by simpa using h), fun h => by first | rfl | exact h21 (by simpa using h), fun h => by first | rfl | exact h22 (by simpa using h), fun h => by first | rfl | exact h23 (by simpa using h)⟩
          · refine wpOp_step rfl ?_
            intro K' hK
            have HK := Lib.hid hK
            clear hK hLi hnd
            go_simp
            exact HK.out _ _ ⟨_, _, _, _, _, _, _, _, _, _, _, _, rfl, hk.alloc _, fun j hj => by (show (if 8 = j then true else L j) = true); split; rfl; exact hdone j hj, fun h => (h2 (by simpa using h)).alloc _, fun h => by first | rfl | exact h3 (by simpa using h), fun _ => Laid1.new _ _, fun h => by first | rfl | exact h9 (by simpa using h), fun h => by first | rfl | exact h10 (by simpa using h), fun h => (h13 (by simpa using h)).alloc _, fun h => by first | rfl | exact h14 (by simpa using h), fun h => (h19 (by simpa using h)).alloc _, fun h => by first | rfl | exact h20 (by simpa using h), fun h => by first | rfl | exact h21 (by simpa using h), fun h => by first | rfl | exact h22 (by simpa using h), fun h => by first | rfl | exact h23 (by simpa using h)⟩
          · obtain ⟨p, rfl, hp⟩ := h8 (by simp [hall])
            refine wpOp_step rfl ?_
            intro K' hK
            have HK := Lib.hid hK
            clear hK hLi hnd
            go_simp
            go_at_call 11
            refine (sum_at w1.heap.size p d cap0 q2 A0 (xs.take d) w' (HTB.out.keeps hk (fun h => h)) hp (Lies.keeps (HLA.out) hk (fun _ _ _ => id)) (HY0.out.take d) (by rw [List.length_take, HX0.out]; omega) (by omega) HQ2.out).mono ?_
            rintro e w4 ⟨rfl, rfl⟩
            go_simp
            exact HK.out _ _ ⟨_, _, _, _, _, _, _, _, _, _, _, _, rfl, hk, fun j hj => by (show (if 9 = j then true else L j) = true); split; rfl; exact hdone j hj, fun h => h2 (by simpa using h), fun h => by first | rfl | exact h3 (by simpa using h), fun h => h8 (by simpa using h), fun _ => rfl, fun h => by first | rfl | exact h10 (by simpa using h), fun h => h13 (by simpa using h), fun h => by first | rfl | exact h14 (by simpa using h), fun h => h19 (by simpa using h), fun h => by first | rfl | exact h20 (by simpa using h), fun h => by first | rfl | exact h21 (by simpa using h), fun h => by first | rfl | exact h22 (by simpa using h), fun h => by first | rfl | exact h23 (by simpa using h)⟩
          · obtain rfl := h3 (by simp [hall])
            obtain rfl := h9 (by simp [hall])
            refine wpOp_step rfl ?_
            intro K' hK
            have HK := Lib.hid hK
            clear hK hLi hnd
            go_simp
            exact HK.out _ _ ⟨_, _, _, _, _, _, _, _, _, _, _, _, rfl, hk, fun j hj => by (show (if 10 = j then true else L j) = true); split; rfl; exact hdone j hj, fun h => h2 (by simpa using h), fun h => by first | rfl | exact h3 (by simpa using h), fun h => h8 (by simpa using h), fun h => by first | rfl | exact h9 (by simpa using h), fun _ => rfl, fun h => h13 (by simpa using h), fun h => by first | rfl | exact h14 (by simpa using h), fun h => h19 (by simpa using h), fun h => by first | rfl | exact h20 (by simpa using h), fun h => by first | rfl | exact h21 (by simpa using h), fun h => by first | rfl | exact h22 (by simpa using h), fun h => by first | rfl | exact h23 (by simpa using h)⟩
          · refine wpOp_step rfl ?_
            intro K' hK
            have HK := Lib.hid hK
            clear hK hLi hnd
            go_simp
            exact HK.out _ _ ⟨_, _, _, _, _, _, _, _, _, _, _, _, rfl, hk.alloc _, fun j hj => by (show (if 13 = j then true else L j) = true); split; rfl; exact hdone j hj, fun h => (h2 (by simpa using h)).alloc _, fun h => by first | rfl | exact h3 (by simpa using h), fun h => (h8 (by simpa using h)).alloc _, fun h => by first | rfl | exact h9 (by simpa using h), fun h => by first | rfl | exact h10 (by simpa using h), fun _ => Laid1.new _ _, fun h => by first | rfl | exact h14 (by simpa using h), fun h => (h19 (by simpa using h)).alloc _, fun h => by first | rfl | exact h20 (by simpa using h), fun h => by first | rfl | exact h21 (by simpa using h), fun h => by first | rfl | exact h22 (by simpa using h), fun h => by first | rfl | exact h23 (by simpa using h)⟩
          · obtain ⟨p, rfl, hp⟩ := h13 (by simp [hall])
            refine wpOp_step rfl ?_
            intro K' hK
            have HK := Lib.hid hK
            clear hK hLi hnd
            go_simp
            go_at_call 11
            refine (sum_at w1.heap.size p d d q3 (some ⟨gy, 0, none⟩) (iv (mix (nat ys) (nat ms) d d)) w' (HTB.out.keeps hk (fun h => h)) hp (Lies.keeps (Lies.of_own HTR.out.y) hk (fun _ _ _ => id)) (HYY.out) (by rw [iv_len, mix_len]) (by omega) HQ3.out).mono ?_
            rintro e w4 ⟨rfl, rfl⟩
            go_simp
            exact HK.out _ _ ⟨_, _, _, _, _, _, _, _, _, _, _, _, rfl, hk, fun j hj => by (show (if 14 = j then true else L j) = true); split; rfl; exact hdone j hj, fun h => h2 (by simpa using h), fun h => by first | rfl | exact h3 (by simpa using h), fun h => h8 (by simpa using h), fun h => by first | rfl | exact h9 (by simpa using h), fun h => by first | rfl | exact h10 (by simpa using h), fun h => h13 (by simpa using h), fun _ => rfl, fun h => h19 (by simpa using h), fun h => by first | rfl | exact h20 (by simpa using h), fun h => by first | rfl | exact h21 (by simpa using h), fun h => by first | rfl | exact h22 (by simpa using h), fun h => by first | rfl | exact h23 (by simpa using h)⟩
          · refine wpOp_step rfl ?_
            intro K' hK
            have HK := Lib.hid hK
            clear hK hLi hnd
            go_simp
            exact HK.out _ _ ⟨_, _, _, _, _, _, _, _, _, _, _, _, rfl, hk.alloc _, fun j hj => by (show (if 19 = j then true else L j) = true); split; rfl; exact hdone j hj, fun h => (h2 (by simpa using h)).alloc _, fun h => by first | rfl | exact h3 (by simpa using h), fun h => (h8 (by simpa using h)).alloc _, fun h => by first | rfl | exact h9 (by simpa using h), fun h => by first | rfl | exact h10 (by simpa using h), fun h => (h13 (by simpa using h)).alloc _, fun h => by first | rfl | exact h14 (by simpa using h), fun _ => Laid1.new _ _, fun h => by first | rfl | exact h20 (by simpa using h), fun h => by first | rfl | exact h21 (by simpa using h), fun h => by first | rfl | exact h22 (by simpa using h), fun h => by first | rfl | exact h23 (by simpa using h)⟩
          · obtain ⟨p, rfl, hp⟩ := h19 (by simp [hall])
            refine wpOp_step rfl ?_
            intro K' hK
            have HK := Lib.hid hK
            clear hK hLi hnd
            go_simp
            go_at_call 11
            refine (sum_at w1.heap.size p d cap1 q4 A1 (ys.take d) w' (HTB.out.keeps hk (fun h => h)) hp (Lies.keeps (HLB.out) hk (fun _ _ _ => id)) (HY1.out.take d) (by rw [List.length_take, HX1.out]; omega) (by omega) HQ4.out).mono ?_
            rintro e w4 ⟨rfl, rfl⟩
            go_simp
            exact HK.out _ _ ⟨_, _, _, _, _, _, _, _, _, _, _, _, rfl, hk, fun j hj => by (show (if 20 = j then true else L j) = true); split; rfl; exact hdone j hj, fun h => h2 (by simpa using h), fun h => by first | rfl | exact h3 (by simpa using h), fun h => h8 (by simpa using h), fun h => by first | rfl | exact h9 (by simpa using h), fun h => by first | rfl | exact h10 (by simpa using h), fun h => h13 (by simpa using h), fun h => by first | rfl | exact h14 (by simpa using h), fun h => h19 (by simpa using h), fun _ => rfl, fun h => by first | rfl | exact h21 (by simpa using h), fun h => by first | rfl | exact h22 (by simpa using h), fun h => by first | rfl | exact h23 (by simpa using h)⟩
          · obtain rfl := h14 (by simp [hall])
            obtain rfl := h20 (by simp [hall])
            refine wpOp_step rfl ?_
            intro K' hK
            have HK := Lib.hid hK
            clear hK hLi hnd
            go_simp
            exact HK.out _ _ ⟨_, _, _, _, _, _, _, _, _, _, _, _, rfl, hk, fun j hj => by (show (if 21 = j then true else L j) = true); split; rfl; exact hdone j hj, fun h => h2 (by simpa using h), fun h => by first | rfl | exact h3 (by simpa using h), fun h => h8 (by simpa using h), fun h => by first | rfl | exact h9 (by simpa using h), fun h => by first | rfl | exact h10 (by simpa using h), fun h => h13 (by simpa using h), fun h => by first | rfl | exact h14 (by simpa using h), fun h => h19 (by simpa using h), fun h => by first | rfl | exact h20 (by simpa using h), fun _ => rfl, fun h => by first | rfl | exact h22 (by simpa using h), fun h => by first | rfl | exact h23 (by simpa using h)⟩
          · obtain rfl := h10 (by simp [hall])
            obtain rfl := h21 (by simp [hall])
            refine wpOp_step rfl ?_
            intro K' hK
            have HK := Lib.hid hK
            clear hK hLi hnd
            go_simp
            exact HK.out _ _ ⟨_, _, _, _, _, _, _, _, _, _, _, _, rfl, hk, fun j hj => by (show (if 22 = j then true else L j) = true); split; rfl; exact hdone j hj, fun h => h2 (by simpa using h), fun h => by first | rfl | exact h3 (by simpa using h), fun h => h8 (by simpa using h), fun h => by first | rfl | exact h9 (by simpa using h), fun h => by first | rfl | exact h10 (by simpa using h), fun h => h13 (by simpa using h), fun h => by first | rfl | exact h14 (by simpa using h), fun h => h19 (by simpa using h), fun h => by first | rfl | exact h20 (by simpa using h), fun h => by first | rfl | exact h21 (by simpa using h), fun _ => by simp, fun h => by first | rfl | exact h23 (by simpa using h)⟩
          · obtain rfl := h22 (by simp [hall])
            refine wpOp_step rfl ?_
            intro K' hK
            have HK := Lib.hid hK
            clear hK hLi hnd
            go_simp
            exact HK.out _ _ ⟨_, _, _, _, _, _, _, _, _, _, _, _, rfl, hk, fun j hj => by (show (if 23 = j then true else L j) = true); split; rfl; exact hdone j hj, fun h => h2 (by simpa using h), fun h => by first | rfl | exact h3 (by simpa using h), fun h => h8 (by simpa using h), fun h => by first | rfl | exact h9 (by simpa using h), fun h => by first | rfl | exact h10 (by simpa using h), fun h => h13 (by simpa using h), fun h => by first | rfl | exact h14 (by simpa using h), fun h => h19 (by simpa using h), fun h => by first | rfl | exact h20 (by simpa using h), fun h => by first | rfl | exact h21 (by simpa using h), fun h => by first | rfl | exact h22 (by simpa using h), fun _ => rfl⟩
        case he =>
          rintro L a w' ⟨s57, s58, s63, s64, s65, s68, s69, s74, s75, s76, s77, s6, rfl, hk, hdone, h2, h3, h8, h9, h10, h13, h14, h19, h20, h21, h22, h23⟩ hnone
          have hd : ∀ j ∈ [0, 1, 4, 5, 6, 7, 11, 12, 15, 16, 17, 18], L j = true := hdone
          simp only [List.mem_cons, List.not_mem_nil, or_false, forall_eq_or_imp, forall_eq] at hd
          obtain ⟨d0, d1, d4, d5, d6, d7, d11, d12, d15, d16, d17, d18⟩ := hd
          have l2 : L 2 = true := by
            cases hL : L 2 with
            | true => rfl
            | false =>
              obtain ⟨op, hop, hb⟩ := hnone 2 (by decide) hL
              simp only [List.getElem?_toArray, List.getElem?_cons_succ, List.getElem?_cons_zero, Option.some.injEq] at hop
              subst hop
              exfalso
              simp [Region.binds, *] at hb
          have l8 : L 8 = true := by
            cases hL : L 8 with
            | true => rfl
            | false =>
              obtain ⟨op, hop, hb⟩ := hnone 8 (by decide) hL
              simp only [List.getElem?_toArray, List.getElem?_cons_succ, List.getElem?_cons_zero, Option.some.injEq] at hop
              subst hop
              exfalso
              simp [Region.binds, *] at hb
          have l13 : L 13 = true := by
            cases hL : L 13 with
            | true => rfl
            | false =>
              obtain ⟨op, hop, hb⟩ := hnone 13 (by decide) hL
              simp only [List.getElem?_toArray, List.getElem?_cons_succ, List.getElem?_cons_zero, Option.some.injEq] at hop
              subst hop
              exfalso
              simp [Region.binds, *] at hb
          have l19 : L 19 = true := by
            cases hL : L 19 with
            | true => rfl
            | false =>
              obtain ⟨op, hop, hb⟩ := hnone 19 (by decide) hL
              simp only [List.getElem?_toArray, List.getElem?_cons_succ, List.getElem?_cons_zero, Option.some.injEq] at hop
              subst hop
              exfalso
              simp [Region.binds, *] at hb
          have l3 : L 3 = true := by
            cases hL : L 3 with
            | true => rfl
            | false =>
              obtain ⟨op, hop, hb⟩ := hnone 3 (by decide) hL
              simp only [List.getElem?_toArray, List.getElem?_cons_succ, List.getElem?_cons_zero, Option.some.injEq] at hop
              subst hop
              exfalso
              simp [Region.binds, *] at hb
          have l9 : L 9 = true := by
            cases hL : L 9 with
            | true => rfl
            | false =>
              obtain ⟨op, hop, hb⟩ := hnone 9 (by decide) hL
              simp only [List.getElem?_toArray, List.getElem?_cons_succ, List.getElem?_cons_zero, Option.some.injEq] at hop
              subst hop
              exfalso
              simp [Region.binds, *] at hb
          have l14 : L 14 = true := by
            cases hL : L 14 with
            | true => rfl
            | false =>
              obtain ⟨op, hop, hb⟩ := hnone 14 (by decide) hL
              simp only [List.getElem?_toArray, List.getElem?_cons_succ, List.getElem?_cons_zero, Option.some.injEq] at hop
              subst hop
              exfalso
              simp [Region.binds, *] at hb
          have l20 : L 20 = true := by
            cases hL : L 20 with
            | true => rfl
            | false =>
              obtain ⟨op, hop, hb⟩ := hnone 20 (by decide) hL
              simp only [List.getElem?_toArray, List.getElem?_cons_succ, List.getElem?_cons_zero, Option.some.injEq] at hop
              subst hop
              exfalso
              simp [Region.binds, *] at hb
          have l10 : L 10 = true := by
            cases hL : L 10 with
            | true => rfl
            | false =>
              obtain ⟨op, hop, hb⟩ := hnone 10 (by decide) hL
              simp only [List.getElem?_toArray, List.getElem?_cons_succ, List.getElem?_cons_zero, Option.some.injEq] at hop
              subst hop
              exfalso
              simp [Region.binds, *] at hb
          have l21 : L 21 = true := by
            cases hL : L 21 with
            | true => rfl
            | false =>
              obtain ⟨op, hop, hb⟩ := hnone 21 (by decide) hL
              simp only [List.getElem?_toArray, List.getElem?_cons_succ, List.getElem?_cons_zero, Option.some.injEq] at hop
              subst hop
              exfalso
              simp [Region.binds, *] at hb
          have l22 : L 22 = true := by
            cases hL : L 22 with
            | true => rfl
            | false =>
              obtain ⟨op, hop, hb⟩ := hnone 22 (by decide) hL
              simp only [List.getElem?_toArray, List.getElem?_cons_succ, List.getElem?_cons_zero, Option.some.injEq] at hop
              subst hop
              exfalso
              simp [Region.binds, *] at hb
          have l23 : L 23 = true := by
            cases hL : L 23 with
            | true => rfl
            | false =>
              obtain ⟨op, hop, hb⟩ := hnone 23 (by decide) hL
              simp only [List.getElem?_toArray, List.getElem?_cons_succ, List.getElem?_cons_zero, Option.some.injEq] at hop
              subst hop
              exfalso
              simp [Region.binds, *] at hb
          obtain rfl := h23 l23
          have HBE : Hid (Below w.heap.size w w') := HBW.out.trans (hk.below HWS.out (fun _ h => h.elim))
          clear hnone hdone h2 h3 h8 h9 h10 h13 h14 h19 h20 h21 h22 l2 l3 l8 l9 l10 l13 l14 l19 l20 l21 l22 l23 d0 d1 d4 d5 d6 d7 d11 d12 d15 d16 d17 d18 hk
          go_wp2
          go_ret
          exact ⟨rfl, HBE.out⟩

set_option maxRecDepth 100000 in
theorem lifted (os : Os) (started : os.Started) (H : Type) (enc : TypeId × Value → H) :
    ReturnsInHanded {} Try.checked os 6 .any (Rows.crcMixesSpec.pre6 enc Try.prog Try.f6 Rows.crcMixesRow.domain false) (Rows.crcMixesSpec.post enc Try.prog Try.f6 false true false false) := by
  refine returnsInHanded_of_change (C := Try.checked) own started (by kernel_rfl) Try.func6
    (ChangeSpec.witness6 (enc := enc) (C := Try.checked) false ⟨#[], #[.slice none 0 0, .slice none 0 0, .slice none 0 0], []⟩ 8 (by kernel_rfl) (by kernel_rfl) (by kernel_rfl) (by kernel_rfl)) ?_
  intro W base args ds gs before hval0 hW hcnd _
  have hval : ∀ (j : Nat) t v, Try.f6.params[j]? = some t → args[j]? = some v → Value.okWide Try.prog W .any base t v := hval0
  have hW' := hW
  obtain ⟨p, q, hA0, hV, rfl, hfz, hnd⟩ := hW
  have hA : DataW.TrodAll enc Try.prog W 0 (fun _ => true) true Try.f6.params.toList args.toList ds p := hA0
  rw [Try.params6] at hA hval
  obtain ⟨v0, vs0, d0, ds0, p0, q0, hargs, rfl, rfl, h0, r0⟩ := trodAll_cons hA
  obtain ⟨v1, vs1, d1, ds1, p1, q1, rfl, rfl, rfl, h1, r1⟩ := trodAll_cons r0
  obtain ⟨v2, vs2, d2, ds2, p2, q2, rfl, rfl, rfl, h2, r2⟩ := trodAll_cons r1
  obtain ⟨rfl, rfl, rfl⟩ := trodAll_nil r2
  obtain rfl : args = #[v0, v1, v2] := by cases args; simp_all
  obtain ⟨rfl, rfl⟩ := trodVars_none hV
  obtain ⟨a0, len0, cap0, rfl⟩ := okWide_slice Try.underlying22 (hval 0 22 v0 rfl rfl)
  have k0 := h0
  have lt0 : ∀ x ∈ p0, x.block < W.heap.size := by obtain ⟨m, hm⟩ := k0; exact DataW.trod_lt m _ _ _ hm
  obtain ⟨z0, w0⟩ : ∃ zs, IsRow .u8 W a0 len0 cap0 zs := by
    obtain ⟨fuel, hf⟩ := h0
    rcases open_ints Try.underlying22 Try.underlying5 (by kernel_rfl) hf with ⟨hcs, _⟩ | ⟨x, l, c, zs, hcs, _, hl, hm, hz, _, hcell, hwz⟩
    · simp [Value.cells] at hcs
      obtain ⟨rfl, rfl, rfl⟩ := hcs
      exact ⟨[], .inl ⟨rfl, rfl, rfl, rfl⟩⟩
    · simp [Value.cells] at hcs
      obtain ⟨rfl, rfl, rfl⟩ := hcs
      exact ⟨zs, .inr ⟨_, rfl, hl, hm, by simpa using hz, hcell, hwz⟩⟩
  obtain ⟨a1, len1, cap1, rfl⟩ := okWide_slice Try.underlying22 (hval 1 22 v1 rfl rfl)
  have k1 := h1
  have lt1 : ∀ x ∈ p1, x.block < W.heap.size := by obtain ⟨m, hm⟩ := k1; exact DataW.trod_lt m _ _ _ hm
  obtain ⟨z1, w1⟩ : ∃ zs, IsRow .u8 W a1 len1 cap1 zs := by
    obtain ⟨fuel, hf⟩ := h1
    rcases open_ints Try.underlying22 Try.underlying5 (by kernel_rfl) hf with ⟨hcs, _⟩ | ⟨x, l, c, zs, hcs, _, hl, hm, hz, _, hcell, hwz⟩
    · simp [Value.cells] at hcs
      obtain ⟨rfl, rfl, rfl⟩ := hcs
      exact ⟨[], .inl ⟨rfl, rfl, rfl, rfl⟩⟩
    · simp [Value.cells] at hcs
      obtain ⟨rfl, rfl, rfl⟩ := hcs
      exact ⟨zs, .inr ⟨_, rfl, hl, hm, by simpa using hz, hcell, hwz⟩⟩
  obtain ⟨a2, len2, cap2, rfl⟩ := okWide_slice Try.underlying22 (hval 2 22 v2 rfl rfl)
  have k2 := h2
  have lt2 : ∀ x ∈ p2, x.block < W.heap.size := by obtain ⟨m, hm⟩ := k2; exact DataW.trod_lt m _ _ _ hm
  obtain ⟨z2, w2⟩ : ∃ zs, IsRow .u8 W a2 len2 cap2 zs := by
    obtain ⟨fuel, hf⟩ := h2
    rcases open_ints Try.underlying22 Try.underlying5 (by kernel_rfl) hf with ⟨hcs, _⟩ | ⟨x, l, c, zs, hcs, _, hl, hm, hz, _, hcell, hwz⟩
    · simp [Value.cells] at hcs
      obtain ⟨rfl, rfl, rfl⟩ := hcs
      exact ⟨[], .inl ⟨rfl, rfl, rfl, rfl⟩⟩
    · simp [Value.cells] at hcs
      obtain ⟨rfl, rfl, rfl⟩ := hcs
      exact ⟨zs, .inr ⟨_, rfl, hl, hm, by simpa using hz, hcell, hwz⟩⟩
  clear hA0 hval0
  refine (walk a0 len0 cap0 z0 a1 len1 cap1 z1 a2 len2 cap2 z2 W w0 w1 w2).mono fun e W' ⟨he, bel⟩ => ?_
  subst he
  exact ⟨_, rfl, _, _, _, [], _, [], hW', trodAll_mk1 (shut_bool Try.underlying4 _), (trodAll_cons_mk (Below.trod laidOut (by kernel_rfl) (of_decide_eq_true (by kernel_rfl)) k0 bel lt0) (trodAll_cons_mk (Below.trod laidOut (by kernel_rfl) (of_decide_eq_true (by kernel_rfl)) k1 bel lt1) (trodAll_cons_mk (Below.trod laidOut (by kernel_rfl) (of_decide_eq_true (by kernel_rfl)) k2 bel lt2) trodAll_mk0))), rfl, bel.frame _, fun h => by cases h⟩

theorem over : Rows.crcMixesRow.holds Try.pinned (OpenSpec.ofChange Rows.crcMixesSpec) :=
  OpenClaim.holds_of_wide 6 Try.f6 rfl rfl rfl rfl rfl rfl rfl ⟨rfl, rfl, rfl, rfl, rfl⟩ rfl rfl rfl rfl rfl (by kernel_rfl) Try.func6 (by kernel_rfl)
    (of_decide_eq_true (by kernel_rfl)) (by unfold Func.isWrapper; first | (rw [if_pos (by decide +kernel)]; kernel_rfl) | (rw [if_neg (by decide +kernel)]; exact ⟨rfl, rfl⟩))
    (fun os started H enc _ => lifted os started H enc)

/-- The statement, as given. -/
theorem proved : Rows.CrcMixesSaid := over
end Go.Proofs.Ytbehchibgkgpbaa.crcMixes
namespace Go.Proofs.Ytbehchibgkgpbaa
/-- The statement, as given. -/
theorem crcMixes_holds : Rows.CrcMixesSaid := crcMixes.proved
#print axioms crcMixes_holds
end Go.Proofs.Ytbehchibgkgpbaa
