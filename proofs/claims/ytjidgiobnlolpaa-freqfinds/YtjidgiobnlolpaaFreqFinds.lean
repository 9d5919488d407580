/- The statement FreqFinds (P6.1: to which byte each part belongs; where each one's begin) holds for every input: the Go function answers true, and its arguments read as before. No conditions beyond the row's own. -/
import Derived.Test.YtjidgiobnlolpaaRows
import Derived.WalkKit
import Derived.ProofKit
import Derived.OpenShut
import Derived.ShutString
import Derived.ChangeOld
import Derived.Below
import Derived.Test.YtjidgiobnlolpaaAwake6
import Derived.Test.YtjidgiobnlolpaaFrqFind
import Derived.Outline
import Derived.RegionTactic
namespace Go.Proofs.Ytjidgiobnlolpaa.freqFinds
open Go.ChangeShapes Go.WideShapes Go.ChangeAt Go.RowKit
open Go.ChangeMaps (open_string shut_string)
open Go.Proofs.Ytjidgiobnlolpaa.Gen Go.Proofs.Ytjidgiobnlolpaa.Fq Go.Proofs.Ytjidgiobnlolpaa.Aw
set_option linter.unusedVariables false

theorem own : ownKnob Try.prog.godebug = none := by kernel_rfl
theorem laidOut : laidOutB Try.prog = true := by kernel_rfl

/-- WHAT THE WALK IS TOLD OF A SLICE OF INTEGERS THAT CAME IN: it is nil; or it leads to a row of 'cap' cells, the numbers 'zs' (the first 'len' are its elements, the rest its spare room), each fitting its kind. -/
def IsRow (k : IntKind) (w : World) (a : Option Addr) (len cap : Nat) (zs : List Int) : Prop :=
  (a = none ∧ len = 0 ∧ cap = 0 ∧ zs = []) ∨
  ∃ x, a = some x ∧ len ≤ cap ∧ cap ≤ maxLen ∧ zs.length = cap ∧ (∀ i, i < zs.length → w.cell? (x.add i) = some (.int k (zs.getD i 0))) ∧ ∀ n ∈ zs, (Lit.int k n).wf = true

theorem kv {w : World} {g : Nat} {v : Array Value} (h : Blk w g 27 v) : Keeps (fun _ => False) w (w.alloc (.cells v 27)) := (Keeps.refl _ _).alloc _
set_option maxRecDepth 20000 in
set_option maxHeartbeats 1000000 in
theorem walk (a0 : Option Addr) (len0 cap0 : Nat) (z0 : List Int) (a1 : Option Addr) (len1 cap1 : Nat) (z1 : List Int) (a2 : Int) (w : World) (w0 : IsRow .u8 w a0 len0 cap0 z0) (w1 : IsRow .u16 w a1 len1 cap1 z1) (w2 : (Lit.int .u16 a2).wf = true) :
    Calls Try.prog 6 #[.slice a0 len0 cap0, .slice a1 len1 cap1, .int .u16 a2] w fun e w' => e = .returned (.bool true) ∧ Below w.heap.size w w' := by
  obtain ⟨hxl, hlc, hl0, hbx⟩ := row_lies w0
  have hmo := row_more w1
  have hpb : 0 ≤ a2 ∧ a2 ≤ 65535 := by
    have hm : IntKind.u16.min = 0 ∧ IntKind.u16.max = 65535 := by decide
    simp only [Lit.wf, hm.1, hm.2, Bool.and_eq_true, decide_eq_true_eq] at w2
    omega
  obtain ⟨xs, hxs⟩ : ∃ xs, z0.take len0 = xs := ⟨_, rfl⟩
  rw [hxs] at hxl hl0 hbx
  have HXL := Lib.hid hxl
  have HL0 := Lib.hid hl0
  have HBX := Lib.hid hbx
  have HMO := Lib.hid hmo
  clear w0 w1 w2 hxs hxl hl0 hbx hmo hlc
  have hz3 : ∀ w, (zeroValue 27).run Try.prog w = .ok (.agg (vs zs)) w := tab_zero
  have hz4 : ∀ w, (zeroValue 53).run Try.prog w = .ok (.agg (vs (List.replicate 257 0))) w := long_zero
  generalize hZ : vs zs = Z at hz3
  generalize hZ2 : vs (List.replicate 257 0) = Z2 at hz4
  have HZS := Lib.hid hZ
  have HZS2 := Lib.hid hZ2
  clear hZ hZ2
  by_cases h300 : 300 < len0
  · go_enter Try.func6, Try.ntmps6
    go_wp2_with (go_at_call 8; refine (awake w).mono ?_; rintro e w1 ⟨rfl, hb1⟩; have HB1 := Lib.hid hb1; clear hb1)
    go_ret
    exact ⟨rfl, HB1.out⟩
  · obtain ⟨c, hc⟩ : ∃ c, cnt xs (am z1 len1) len0 = c := ⟨_, rfl⟩
    have HCL : Hid (c.length = 256) := by show _ = _; rw [← hc]; exact cnt_len _ _ _
    have HCR : Hid (InR c) := by show InR c; rw [← hc]; exact cnt_inR _ _ (am_in HMO.out) _ (by omega)
    have HCN : Hid (∀ w1, Keeps (fun _ => False) w w1 → Calls Try.prog 9 #[.slice a0 len0 cap0, .slice a1 len1 cap1] w1 fun r w' => r = .returned (.agg (vs c)) ∧ Keeps (fun _ => False) w1 w') := by
      refine Lib.hid fun w1 hk => ?_
      rw [← hc]
      exact counts a0 len0 cap0 xs a1 len1 cap1 z1 w1 HXL.out (HL0.out.keeps hk fun _ _ _ => id) (by omega) HBX.out (HMO.out.keeps hk)
    clear hc
    obtain ⟨cs, hcs⟩ : ∃ cs, vs c = cs := ⟨_, rfl⟩
    rw [hcs] at HCN
    by_cases hs : c.sum = 0
    · have HE : Hid (¬ (InR c ∧ c.sum ≠ 0)) := fun h => h.2 hs
      have HSC : Hid (∀ w, Calls Try.prog 10 #[.agg cs] w fun r w' => r = .returned (.tuple #[.agg Z, .bool false]) ∧ Keeps (fun _ => False) w w') := by
        refine Lib.hid fun w => ?_
        rw [← hcs]
        refine (scaled c w HCL.out).mono fun r w' ⟨h1, h2⟩ => ⟨?_, h2⟩
        rw [h1, if_neg HE.out, decide_eq_false HE.out, HZS.out]
      have HZI : Hid ((Try.prog.info? 27).map (·.size) = some Z.size) := by show _ = _; rw [← HZS.out]; exact tab_size zs_len
      have HZ1 : Hid (Z.all (·.oneCell') = true) := by show _ = _; rw [← HZS.out]; exact vs_one _
      clear hs hcs HE
      go_enter Try.func6, Try.ntmps6
      go_wp2_with (first
        | (go_at_call 8; refine (awake w).mono ?_; rintro e w1 ⟨rfl, hb1⟩; have HB1 := Lib.hid hb1; clear hb1)
        | (go_at_call 9; refine (HCN.out _ (Keeps.of_below HB1.out)).mono ?_; rintro e w2 ⟨rfl, hk2⟩; have HK2 := Lib.hid hk2; clear hk2)
        | (go_at_call 10; refine (HSC.out _).mono ?_; rintro e w3 ⟨rfl, hk3⟩; have HK3 := Lib.hid hk3; clear hk3)
        | ((with_reducible refine st_row (Blk.new _ 27 Z) HZI.out rfl HZ1.out ?_ ?_ ?_); rfl; rfl))
      go_ret
      exact ⟨rfl, HB1.out.trans (((Keeps.setRow (((HK2.out.trans HK3.out)).alloc _) (.inr (HK2.out.trans HK3.out).size) _)).below HB1.out.size (fun _ h => h.elim))⟩
    · have HE : Hid (InR c ∧ c.sum ≠ 0) := Lib.hid ⟨HCR.out, hs⟩
      obtain ⟨l, hl⟩ : ∃ l, scal c = l := ⟨_, rfl⟩
      obtain ⟨hok1, hok2, hok3⟩ := scal_ok HCL.out HCR.out
      rw [hl] at hok1 hok2 hok3
      have HLL := Lib.hid hok1
      have HLF := Lib.hid hok2
      have HLS := Lib.hid hok3
      obtain ⟨v, hv⟩ : ∃ v, vs l = v := ⟨_, rfl⟩
      have HV := Lib.hid hv
      have HVI : Hid ((Try.prog.info? 27).map (·.size) = some v.size) := by show _ = _; rw [← hv]; exact tab_size hok1
      have HV1 : Hid (v.all (·.oneCell') = true) := by show _ = _; rw [← hv]; exact vs_one _
      have HZV : Hid (Z.size = v.size) := by show _ = _; rw [← hv, ← HZS.out, vs_size, vs_size, zs_len, hok1]
      have HVG : Hid (∀ j, j < 256 → v[j]? = some (.int .i64 (l.getD j 0))) := fun j hj => by rw [← HV.out]; exact vs_get (by rw [HLL.out]; exact hj)
      have HSC : Hid (∀ w, Calls Try.prog 10 #[.agg cs] w fun r w' => r = .returned (.tuple #[.agg v, .bool true]) ∧ Keeps (fun _ => False) w w') := by
        refine Lib.hid fun w => ?_
        rw [← hcs]
        refine (scaled c w HCL.out).mono fun r w' ⟨h1, h2⟩ => ⟨?_, h2⟩
        rw [h1, if_pos HE.out, decide_eq_true HE.out, hl, hv]
      obtain ⟨u, hu⟩ : ∃ u, vs (sta l 256) = u := ⟨_, rfl⟩
      have HUI : Hid ((Try.prog.info? 53).map (·.size) = some u.size) := by show _ = _; rw [← hu]; exact long_size (sta_len _ _)
      have HU1 : Hid (u.all (·.oneCell') = true) := by show _ = _; rw [← hu]; exact vs_one _
      have HZU : Hid (Z2.size = u.size) := by show _ = _; rw [← hu, ← HZS2.out, vs_size, vs_size, sta_len, List.length_replicate]
      have HUG : Hid (∀ j, j < 257 → u[j]? = some (.int .i64 ((l.take j).sum))) := fun j hj => by rw [← hu, vs_get (by rw [sta_len]; exact hj), sta_get _ _ hj, if_pos (by omega)]
      have HST : Hid (∀ w, Calls Try.prog 23 #[.agg v] w fun r w' => r = .returned (.agg u) ∧ Keeps (fun _ => False) w w') := fun w => starts l v u w HV.out hu HLL.out HLF.out
      clear hs hcs hl hok1 hok2 hok3 hv hu HE
      go_enter Try.func6, Try.ntmps6
      go_upto_region 6 with (first
        | (go_at_call 8; refine (awake w).mono ?_; rintro e w1 ⟨rfl, hb1⟩; have HB1 := Lib.hid hb1; clear hb1)
        | (go_at_call 9; refine (HCN.out _ (Keeps.of_below HB1.out)).mono ?_; rintro e w2 ⟨rfl, hk2⟩; have HK2 := Lib.hid hk2; clear hk2)
        | (go_at_call 10; refine (HSC.out _).mono ?_; rintro e w3 ⟨rfl, hk3⟩; have HK3 := Lib.hid hk3; clear hk3)
        | ((with_reducible refine st_row (Blk.new _ 27 Z) HVI.out HZV.out HV1.out ?_ ?_ ?_); rfl; rfl))
      obtain ⟨T, hT⟩ : ∃ T, w3.heap.size = T := ⟨_, rfl⟩
      generalize hW : (w3.alloc (.cells Z 27)).setRow w3.heap.size v = W
      have HBT : Hid (Blk W T 27 v) := by show Blk _ _ _ _; rw [← hW, ← hT]; exact Blk.setRow (Blk.new _ _ _) _
      have HKW : Hid (Keeps (fun _ => False) w1 W) := by show Keeps _ _ _; rw [← hW]; exact Keeps.setRow ((HK2.out.trans HK3.out).alloc _) (.inr (HK2.out.trans HK3.out).size) _
      rw [hT]
      clear hT hW HK2 HK3 HSC HCN hz3
      go_upto_region 9 with (first
        | (go_at_call 23; refine (HST.out _).mono ?_; rintro e w4 ⟨rfl, hk4⟩; have HBT4 := Lib.hid (HBT.out.keeps hk4 id); have HKW4 := Lib.hid (HKW.out.trans hk4); clear hk4)
        | ((with_reducible refine ld_row HBT.out Try.underlying27 HVI.out ?_ ?_); rfl)
        | ((with_reducible refine st_row (Blk.new _ 53 Z2) HUI.out HZU.out HU1.out ?_ ?_ ?_); rfl; rfl))
      obtain ⟨S, hS⟩ : ∃ S, w4.heap.size = S := ⟨_, rfl⟩
      generalize hW : (w4.alloc (.cells Z2 53)).setRow w4.heap.size u = W5
      have hlt4 := HBT4.out.lt
      have HBS5 : Hid (Blk W5 S 53 u) := by show Blk _ _ _ _; rw [← hW, ← hS]; exact Blk.setRow (Blk.new _ _ _) _
      have HBT5 : Hid (Blk W5 T 27 v) := by show Blk _ _ _ _; rw [← hW]; exact Blk.setRowFar (HBT4.out.alloc _) (by omega) _
      have HKW5 : Hid (Keeps (fun _ => False) w1 W5) := by show Keeps _ _ _; rw [← hW]; exact Keeps.setRow (HKW4.out.alloc _) (.inr HKW4.out.size) _
      rw [hS]
      clear hS hW hlt4 HBT HKW HBT4 HKW4 HST hz4
      go_wp2_with ((with_reducible refine ld_row HBT5.out Try.underlying27 HVI.out ?_ ?_); rfl)
      go_loopw [10, 32] (fun s i wr => ∃ d : Nat, d ≤ 256 ∧ s = .int .i64 ((l.take d).sum) ∧ i = .int .i64 (d : Int) ∧ Hid (Blk wr S 53 u ∧ Blk wr T 27 v ∧ Keeps (fun _ => False) w1 wr)) (fun _ i _ => 256 - (intOf i).toNat)
      case atStart => exact ⟨0, by omega, rfl, rfl, Lib.hid ⟨HBS5.out, HBT5.out, HKW5.out⟩⟩
      case round =>
        obtain ⟨d, hd, rfl, rfl, HH⟩ := hrel
        clear HBS5 HBT5 HKW5
        obtain ⟨hbS, hbT, hkw⟩ := HH.out
        have HBT := Lib.hid hbT
        have HBS := Lib.hid hbS
        have HKW := Lib.hid hkw
        obtain ⟨s, hs⟩ : ∃ s, (l.take d).sum = s := ⟨_, rfl⟩
        have hsb := sum_bound HLF.out HLL.out d
        rw [hs] at hsb ⊢
        by_cases hlt : d < 256
        · obtain ⟨x, hx⟩ : ∃ x, l.getD d 0 = x := ⟨_, rfl⟩
          have hxb : 0 ≤ x ∧ x ≤ 4096 := by rw [← hx]; exact HLF.out _ (getD_mem (by rw [HLL.out]; exact hlt))
          have hgd : ∀ w, (Instr.index 27 (.agg v) (.int .i64 (d : Int))).run Try.prog w = .ok (.int .i64 x) w := run_idx 27 256 Try.underlying27 v .i64 d _ hlt (by rw [HVG.out d hlt, hx])
          have HSX : Hid ((l.take (d + 1)).sum = s + x) := by show _ = _; rw [sum_next (by rw [HLL.out]; exact hlt), hs, hx]
          have hcS : wr.cell? ⟨S, d, none⟩ = some (.int .i64 s) := by rw [hbS.cell, HUG.out d (by omega), hs]
          have hsx : s + x ≤ 4096 := by
            have h1 := sum_mono HLF.out (a := d + 1) (b := 256) (by omega) (by rw [HLL.out]; omega)
            have e : l.take 256 = l := List.take_of_length_le (by rw [HLL.out]; omega)
            rw [HSX.out, e, HLS.out] at h1
            exact h1
          have HSE := Lib.hid hs
          have HXE := Lib.hid hx
          have hd0 : (0 : Int) ≤ (d : Int) := by omega
          have hd1 : (d : Int) < 256 := by omega
          have hd2 : (d : Int) < 257 := by omega
          have hw : IntKind.i64.wrap (s + x) = s + x := IntWalk.i64_in _ (by omega)
          have hw2 : IntKind.u8.wrap (d : Int) = (d : Int) := IntWalk.u8_in _ (by omega)
          have hw3 : IntKind.i64.wrap (s + x - 1) = s + x - 1 := IntWalk.i64_in _ (by omega)
          clear hs hx hbS hbT hkw HH
          by_cases hx0 : 0 < x
          · have HF1 : Hid (∀ w, Calls Try.prog 24 #[.agg v, .int .i64 s] w fun r w' => r = .returned (.int .u8 (d : Int)) ∧ w' = w.alloc (.cells v 27)) := fun w => find l v s d w HV.out HLL.out HLF.out (by omega) hlt (by rw [HSE.out]; omega) (by rw [HSE.out, HXE.out]; omega)
            have HF2 : Hid (∀ w, Calls Try.prog 24 #[.agg v, .int .i64 (s + x - 1)] w fun r w' => r = .returned (.int .u8 (d : Int)) ∧ w' = w.alloc (.cells v 27)) := fun w => find l v (s + x - 1) d w HV.out HLL.out HLF.out (by omega) hlt (by rw [HSE.out]; omega) (by rw [HSE.out, HXE.out]; omega)
            obtain ⟨y, hy⟩ : ∃ y, s + x - 1 = y := ⟨_, rfl⟩
            rw [hy] at HF2
            have hw4 : IntKind.i64.wrap (s + x - 1) = y := by rw [hw3, hy]
            clear hy hw3
            go_wp2_with (first
              | (have H := HF1; go_at_call 24; refine (H.out _).mono ?_; rintro e w6 ⟨rfl, hw6⟩; have HBT6 := Lib.hid (HBT.out.keeps (hw6 ▸ kv HBT.out) id); have HBS6 := Lib.hid (HBS.out.keeps (hw6 ▸ kv HBT.out) id); have HKW6 := Lib.hid (HKW.out.trans (hw6 ▸ kv HBT.out)); clear hw6 HBT HBS HKW HF1 H)
              | (have H := HF2; go_at_call 24; refine (H.out _).mono ?_; rintro e w7 ⟨rfl, hw7⟩; have HBT7 := Lib.hid (HBT6.out.keeps (hw7 ▸ kv HBT6.out) id); have HBS7 := Lib.hid (HBS6.out.keeps (hw7 ▸ kv HBT6.out) id); have HKW7 := Lib.hid (HKW6.out.trans (hw7 ▸ kv HBT6.out)); clear hw7 HBT6 HBS6 HKW6 HF2 H)
              | ((with_reducible refine ld_row_g HBT.out Try.underlying27 HVI.out ?_ ?_ ?_); rfl; rfl)
              | ((with_reducible refine ld_row_g HBT6.out Try.underlying27 HVI.out ?_ ?_ ?_); rfl; rfl))
            exact ⟨⟨d + 1, by omega, by rw [HSX.out], by go_num, Lib.hid ⟨HBS7.out, HBT7.out, HKW7.out⟩⟩, by simp [intOf]; omega⟩
          · have hx00 : x = 0 := by omega
            subst hx00
            have hw5 : IntKind.i64.wrap s = s := IntWalk.i64_in _ (by omega)
            go_wp2_with fail
            exact ⟨⟨d + 1, by omega, by rw [HSX.out]; simp, by go_num, Lib.hid ⟨HBS.out, HBT.out, HKW.out⟩⟩, by simp [intOf]; omega⟩
        · obtain rfl : d = 256 := by omega
          have hrem : a2.tmod 4096 = a2 % 4096 := Int.tmod_eq_emod_of_nonneg (by omega)
          obtain ⟨k, hk⟩ : ∃ k, a2 % 4096 = k := ⟨_, rfl⟩
          rw [hk] at hrem
          have hkb : 0 ≤ k ∧ k < 4096 := by omega
          have hw1 : IntKind.i64.wrap k = k := IntWalk.i64_in _ (by omega)
          have hw2 : IntKind.u16.wrap k = k := IntWalk.u16_in _ (by omega)
          obtain ⟨i, hi, h1, h2⟩ := place HLF.out hkb.1 256 (by rw [HLL.out]; omega) (by rw [List.take_of_length_le (by rw [HLL.out]; omega), HLS.out]; exact hkb.2)
          have HF1 : Hid (∀ w, Calls Try.prog 24 #[.agg v, .int .i64 k] w fun r w' => r = .returned (.int .u8 (i : Int)) ∧ w' = w.alloc (.cells v 27)) := fun w => find l v k i w HV.out HLL.out HLF.out (by omega) hi h1 h2
          obtain ⟨p, hp⟩ : ∃ p, (l.take i).sum = p := ⟨_, rfl⟩
          obtain ⟨q, hq⟩ : ∃ q, (l.take (i + 1)).sum = q := ⟨_, rfl⟩
          have hpk : p ≤ k := by omega
          have hkq : k < q := by rw [← hq, sum_next (by rw [HLL.out]; exact hi)]; exact h2
          obtain ⟨W7, hW7⟩ : ∃ W7, wr.alloc (.cells v 27) = W7 := ⟨_, rfl⟩
          have hb7 : Blk W7 S 53 u := by rw [← hW7]; exact hbS.alloc _
          have HK7 : Hid (Keeps (fun _ => False) w1 W7) := by show Keeps _ _ _; rw [← hW7]; exact hkw.alloc _
          have hc0 : W7.cell? ⟨S, 256, none⟩ = some (.int .i64 4096) := by rw [hb7.cell, HUG.out 256 (by omega), List.take_of_length_le (by rw [HLL.out]; omega), HLS.out]
          have hc1 : W7.cell? ⟨S, i, none⟩ = some (.int .i64 p) := by rw [hb7.cell, HUG.out i (by omega), hp]
          have hc2 : W7.cell? ⟨S, i + 1, none⟩ = some (.int .i64 q) := by rw [hb7.cell, HUG.out (i + 1) (by omega), hq]
          have HW7 := Lib.hid hW7
          have hi0 : (0 : Int) ≤ (i : Int) := by omega
          have hi1 : (i : Int) < 257 := by omega
          have hi2 : (i : Int) + 1 < 257 := by omega
          have hi3 : ((i : Int) + 1).toNat = i + 1 := by omega
          clear hs hk h1 h2 hp hq hW7 hb7 hbS hbT hkw HH hlt
          go_wp2_with (first
            | (have H := HF1; go_at_call 24; refine (H.out _).mono ?_; rintro e w6 ⟨rfl, rfl⟩; rw [HW7.out]; clear HF1 H)
            | ((with_reducible refine ld_row_g HBT.out Try.underlying27 HVI.out ?_ ?_ ?_); rfl; rfl))
          go_ret
          exact ⟨rfl, HB1.out.trans (HK7.out.below HB1.out.size (fun _ h => h.elim))⟩

set_option maxRecDepth 100000 in
theorem lifted (os : Os) (started : os.Started) (H : Type) (enc : TypeId × Value → H) :
    ReturnsInHanded {} Try.checked os 6 .any (Rows.freqFindsSpec.pre6 enc Try.prog Try.f6 Rows.freqFindsRow.domain false) (Rows.freqFindsSpec.post enc Try.prog Try.f6 false true false false) := by
  refine returnsInHanded_of_change (C := Try.checked) own started (by kernel_rfl) Try.func6
    (ChangeSpec.witness6 (enc := enc) (C := Try.checked) false ⟨#[], #[.slice none 0 0, .slice none 0 0, .int .u16 0], []⟩ 8 (by kernel_rfl) (by kernel_rfl) (by kernel_rfl) (by kernel_rfl)) ?_
  intro W base args ds gs before hval0 hW hcnd _
  have hval : ∀ (j : Nat) t v, Try.f6.params[j]? = some t → args[j]? = some v → Value.okWide Try.prog W .any base t v := hval0
  have hW' := hW
  obtain ⟨p, q, hA0, hV, rfl, hfz, hnd⟩ := hW
  have hA : DataW.TrodAll enc Try.prog W 0 (fun _ => true) true Try.f6.params.toList args.toList ds p := hA0
  rw [Try.params6] at hA hval
  obtain ⟨v0, vs0, d0, ds0, p0, q0, hargs, rfl, rfl, h0, r0⟩ := trodAll_cons hA
  obtain ⟨v1, vs1, d1, ds1, p1, q1, rfl, rfl, rfl, h1, r1⟩ := trodAll_cons r0
  obtain ⟨v2, vs2, d2, ds2, p2, q2, rfl, rfl, rfl, h2, r2⟩ := trodAll_cons r1
  obtain ⟨rfl, rfl, rfl⟩ := trodAll_nil r2
  obtain rfl : args = #[v0, v1, v2] := by cases args; simp_all
  obtain ⟨rfl, rfl⟩ := trodVars_none hV
  obtain ⟨a0, len0, cap0, rfl⟩ := okWide_slice Try.underlying22 (hval 0 22 v0 rfl rfl)
  have k0 := h0
  have lt0 : ∀ x ∈ p0, x.block < W.heap.size := by obtain ⟨m, hm⟩ := k0; exact DataW.trod_lt m _ _ _ hm
  obtain ⟨z0, w0⟩ : ∃ zs, IsRow .u8 W a0 len0 cap0 zs := by
    obtain ⟨fuel, hf⟩ := h0
    rcases open_ints Try.underlying22 Try.underlying5 (by kernel_rfl) hf with ⟨hcs, _⟩ | ⟨x, l, c, zs, hcs, _, hl, hm, hz, _, hcell, hwz⟩
    · simp [Value.cells] at hcs
      obtain ⟨rfl, rfl, rfl⟩ := hcs
      exact ⟨[], .inl ⟨rfl, rfl, rfl, rfl⟩⟩
    · simp [Value.cells] at hcs
      obtain ⟨rfl, rfl, rfl⟩ := hcs
      exact ⟨zs, .inr ⟨_, rfl, hl, hm, by simpa using hz, hcell, hwz⟩⟩
  obtain ⟨a1, len1, cap1, rfl⟩ := okWide_slice Try.underlying23 (hval 1 23 v1 rfl rfl)
  have k1 := h1
  have lt1 : ∀ x ∈ p1, x.block < W.heap.size := by obtain ⟨m, hm⟩ := k1; exact DataW.trod_lt m _ _ _ hm
  obtain ⟨z1, w1⟩ : ∃ zs, IsRow .u16 W a1 len1 cap1 zs := by
    obtain ⟨fuel, hf⟩ := h1
    rcases open_ints Try.underlying23 Try.underlying52 (by kernel_rfl) hf with ⟨hcs, _⟩ | ⟨x, l, c, zs, hcs, _, hl, hm, hz, _, hcell, hwz⟩
    · simp [Value.cells] at hcs
      obtain ⟨rfl, rfl, rfl⟩ := hcs
      exact ⟨[], .inl ⟨rfl, rfl, rfl, rfl⟩⟩
    · simp [Value.cells] at hcs
      obtain ⟨rfl, rfl, rfl⟩ := hcs
      exact ⟨zs, .inr ⟨_, rfl, hl, hm, by simpa using hz, hcell, hwz⟩⟩
  obtain ⟨a2, rfl, rfl, rfl, w2⟩ := open_int Try.underlying52 (hval 2 52 v2 rfl rfl) h2
  clear hA0 hval0
  refine (walk a0 len0 cap0 z0 a1 len1 cap1 z1 a2 W w0 w1 w2).mono fun e W' ⟨he, bel⟩ => ?_
  subst he
  exact ⟨_, rfl, _, _, _, [], _, [], hW', trodAll_mk1 (shut_bool Try.underlying4 _), (trodAll_cons_mk (Below.trod laidOut (by kernel_rfl) (of_decide_eq_true (by kernel_rfl)) k0 bel lt0) (trodAll_cons_mk (Below.trod laidOut (by kernel_rfl) (of_decide_eq_true (by kernel_rfl)) k1 bel lt1) (trodAll_cons_mk (shut_int Try.underlying52 w2) trodAll_mk0))), rfl, bel.frame _, fun h => by cases h⟩

theorem over : Rows.freqFindsRow.holds Try.pinned (OpenSpec.ofChange Rows.freqFindsSpec) :=
  OpenClaim.holds_of_wide 6 Try.f6 rfl rfl rfl rfl rfl rfl rfl ⟨rfl, rfl, rfl, rfl, rfl⟩ rfl rfl rfl rfl rfl (by kernel_rfl) Try.func6 (by kernel_rfl)
    (of_decide_eq_true (by kernel_rfl)) (by unfold Func.isWrapper; first | (rw [if_pos (by decide +kernel)]; kernel_rfl) | (rw [if_neg (by decide +kernel)]; exact ⟨rfl, rfl⟩))
    (fun os started H enc _ => lifted os started H enc)

/-- The statement, as given. -/
theorem proved : Rows.FreqFindsSaid := over
end Go.Proofs.Ytjidgiobnlolpaa.freqFinds
namespace Go.Proofs.Ytjidgiobnlolpaa
/-- The statement, as given. -/
theorem freqFinds_holds : Rows.FreqFindsSaid := freqFinds.proved
#print axioms freqFinds_holds
end Go.Proofs.Ytjidgiobnlolpaa
