/- The answers' own Scaled: the same parts. -/
import Derived.Test.YtjidgiobnlolpaaFrqCnt
import Derived.RegionTactic
namespace Go.Proofs.Ytjidgiobnlolpaa.Fq
open Go.RowKit Go.Proofs.Ytjidgiobnlolpaa.Gen

theorem ret_arr {fn : Func} (h : fn.results = #[.cell 2 24, .tmp 3]) (tmps : Array Value) (w : World) (g : Nat) (l : List Int) (b : Bool) (hl : l.length = 256)
    (hp : tmps.getD 2 undef = .pointer (some ⟨g, 0, none⟩)) (hq : tmps.getD 3 undef = .bool b) (hb : Blk w g 24 (vs l)) :
    (results fn tmps).run Try.prog w = .ok (.tuple #[.agg (vs l), .bool b]) w := by
  rw [results_cell_tmp h, hp, hq]
  simp only [asAddr, Result.andThen, Sem.run_pure]
  rw [run_loadVar_row w g 24 24 (vs l) (0, 0) _ hb Try.underlying24 rfl (arr_size hl)]

def RAns (c : List Int) (w : World) (r : Ending) (w' : World) : Prop :=
  r = .returned (.tuple #[.agg (vs (if c.sum ≠ 0 then scal c else zs)), .bool (decide (c.sum ≠ 0))]) ∧ Keeps (fun _ => False) w w'
set_option maxRecDepth 20000 in
theorem rscaled (c : List Int) (w : World) (hl : c.length = 256) (hr : InR c) : Calls Try.prog 11 #[.agg (vs c)] w (RAns c w) := by
  have HL := Lib.hid hl
  have HR := Lib.hid hr
  have HG : Hid (∀ j, j < 256 → (vs c)[j]? = some (.int .i64 (c.getD j 0))) := fun j hj => vs_get (by rw [HL.out]; exact hj)
  have hz : ∀ w, (zeroValue 24).run Try.prog w = .ok (.agg (vs zs)) w := arr_zero
  have HZI : Hid ((Try.prog.info? 24).map (·.size) = some (vs zs).size) := arr_size zs_len
  have HZ1 : Hid ((vs zs).all (·.oneCell') = true) := vs_one _
  generalize hcs : vs c = cs at HG ⊢
  generalize hZ : vs zs = Z at hz HZI HZ1
  have HZS := Lib.hid hZ
  have HCI : Hid (∀ d, d < 256 → 0 ≤ c.getD d 0 ∧ c.getD d 0 ≤ 2147483647 ∧ c.getD d 0 ≤ c.sum) := fun d hd => by
    have hm := getD_mem (l := c) (d := d) (by rw [HL.out]; exact hd)
    exact ⟨(HR.out _ hm).1, (HR.out _ hm).2, HR.out.mem_le _ hm⟩
  clear hl hr hcs hZ
  go_enter Try.func11, Try.ntmps11
  go_upto_region 1 with fail
  obtain ⟨A, hA⟩ : ∃ A, w.heap.size = A := ⟨_, rfl⟩
  obtain ⟨R, hR⟩ : ∃ R, w.heap.size + 1 = R := ⟨_, rfl⟩
  generalize hW : (w.alloc (.cells cs 24)).alloc (.cells Z 24) = W
  have HBA : Hid (Blk W A 24 cs) := by show Blk _ _ _ _; rw [← hW, ← hA]; exact (Blk.new w 24 cs).alloc _
  have HBR : Hid (Blk W R 24 Z) := by show Blk _ _ _ _; rw [← hW, ← hR, show w.heap.size + 1 = (w.alloc (.cells cs 24)).heap.size by simp]; exact Blk.new _ _ _
  have HK : Hid (Keeps (fun _ => False) w W) := by show Keeps _ _ _; rw [← hW]; exact ((Keeps.refl _ _).alloc _).alloc _
  have HRl : Hid (w.heap.size ≤ R) := by show _ ≤ _; omega
  rw [hR, hA]
  clear hA hR hW
  go_wp2_with fail
  go_loopw [4, 5] (fun s i wr => ∃ d : Nat, d ≤ 256 ∧ s = .int .i64 ((c.take d).sum) ∧ i = .int .i64 (d : Int) ∧ wr = W) (fun _ i _ => 256 - (intOf i).toNat)
  case atStart => exact ⟨0, by omega, rfl, rfl, rfl⟩
  case round =>
    obtain ⟨d, hd, rfl, rfl, rfl⟩ := hrel
    obtain ⟨s, hs⟩ : ∃ s, (c.take d).sum = s := ⟨_, rfl⟩
    have hsb : 0 ≤ s ∧ s ≤ 2147483647 * 256 := by
      have h := InR.sum (l := c.take d) fun x hx => HR.out x (List.mem_of_mem_take hx)
      have h2 : (c.take d).length ≤ 256 := by simp [HL.out]; omega
      omega
    rw [hs]
    by_cases hlt : d < 256
    · obtain ⟨x, hx⟩ : ∃ x, c.getD d 0 = x := ⟨_, rfl⟩
      have hca : wr.cell? ⟨A, d, none⟩ = some (.int .i64 x) := by rw [HBA.out.cell, HG.out d hlt, hx]
      have HS : Hid ((c.take (d + 1)).sum = s + x) := by show _ = _; rw [sum_next (by rw [HL.out]; exact hlt), hs, hx]
      have hxb := HCI.out d hlt
      rw [hx] at hxb
      have hw : IntKind.i64.wrap (s + x) = s + x := IntWalk.i64_in _ (by omega)
      clear hx hs
      have hd0 : (0 : Int) ≤ (d : Int) := by omega
      have hd1 : (d : Int) < 256 := by omega
      go_wp2_with fail
      exact ⟨⟨d + 1, by omega, by rw [HS.out], by go_num, trivial⟩, by simp [intOf]; omega⟩
    · obtain rfl : d = 256 := by omega
      have HS : Hid (c.sum = s) := by have := hs; rwa [List.take_of_length_le (by rw [HL.out]; omega)] at this
      clear hs hlt
      by_cases he : s = 0
      · have HE : Hid (¬ c.sum ≠ 0) := fun h => h (by rw [HS.out]; exact he)
        have hlr := HBR.out.lt
        go_upto_region 7 with fail
        obtain ⟨T, hT⟩ : ∃ T, wr.heap.size = T := ⟨_, rfl⟩
        generalize hW : wr.alloc (.cells Z 24) = W2
        have HBT2 : Hid (Blk W2 T 24 Z) := by show Blk _ _ _ _; rw [← hW, ← hT]; exact Blk.new _ _ _
        have HBR2 : Hid (Blk W2 R 24 Z) := by show Blk _ _ _ _; rw [← hW]; exact HBR.out.alloc _
        have HK2 : Hid (Keeps (fun _ => False) w W2) := by show Keeps _ _ _; rw [← hW]; exact HK.out.alloc _
        rw [hT]
        clear hT hW
        go_wp2_with (first
          | ((with_reducible refine ld_row HBT2.out Try.underlying24 HZI.out ?_ ?_); rfl)
          | ((with_reducible refine st_row HBR2.out HZI.out rfl HZ1.out ?_ ?_ ?_); rfl; rfl))
        refine bodyPost_ret (v := .tuple #[.agg Z, .bool false]) ?_ rfl ⟨by rw [if_neg HE.out, decide_eq_false HE.out, HZS.out], Keeps.setRow HK2.out (.inr HRl.out) Z⟩
        rw [← HZS.out]
        exact ret_arr rfl _ _ R zs false zs_len rfl rfl (by rw [HZS.out]; exact Blk.setRow HBR2.out Z)
      · have HE : Hid (c.sum ≠ 0) := by show _ ≠ _; rw [HS.out]; exact he
        have hlr := HBR.out.lt
        have hla := HBA.out.lt
        have hse : (s == 0) = false := by simp [he]
        go_upto_region 7 with fail
        obtain ⟨T, hT⟩ : ∃ T, wr.heap.size = T := ⟨_, rfl⟩
        generalize hW : wr.alloc (.cells Z 24) = W2
        have HBT2 : Hid (Blk W2 T 24 Z) := by show Blk _ _ _ _; rw [← hW, ← hT]; exact Blk.new _ _ _
        have HBR2 : Hid (Blk W2 R 24 Z) := by show Blk _ _ _ _; rw [← hW]; exact HBR.out.alloc _
        have HBA2 : Hid (Blk W2 A 24 cs) := by show Blk _ _ _ _; rw [← hW]; exact HBA.out.alloc _
        have HK2 : Hid (Keeps (fun _ => False) w W2) := by show Keeps _ _ _; rw [← hW]; exact HK.out.alloc _
        have HTA : Hid (T ≠ A ∧ T ≠ R ∧ w.heap.size ≤ T) := by show _ ∧ _; have := HK.out.size; omega
        rw [hT]
        clear hT hW hlr hla HBA HBR HK hz
        obtain ⟨p, hp⟩ : ∃ p, pts c = p := ⟨_, rfl⟩
        have HPL : Hid (p.length = 256) := by show _ = _; rw [← hp, pts_len, HL.out]
        have HPF : Hid (Fine p) := by show Fine p; rw [← hp]; exact pts_fine HR.out
        have HPG : Hid (∀ d, d < 256 → p.getD d 0 = part1 s (c.getD d 0)) := fun d hd => by rw [← hp, pts_get c (by rw [HL.out]; exact hd), HS.out]
        rw [HS.out] at HCI
        have HP := Lib.hid hp
        clear hp
        go_wp2_with fail
        go_loopw [7, 8, 9] (fun al be i wr => ∃ d : Nat, d ≤ 256 ∧ al = .int .i64 ((p.take d).sum) ∧ be = .int .i64 (gre c d : Nat) ∧ i = .int .i64 (d : Int) ∧ Hid (Blk wr T 24 (vs (laid p d)) ∧ Blk wr A 24 cs ∧ Blk wr R 24 Z ∧ Keeps (fun _ => False) w wr)) (fun _ _ i _ => 256 - (intOf i).toNat)
        case atStart => exact ⟨0, by omega, rfl, rfl, rfl, Lib.hid ⟨by rw [laid_zero, show List.replicate 256 (0 : Int) = zs from rfl, HZS.out]; exact HBT2.out, HBA2.out, HBR2.out, HK2.out⟩⟩
        case round =>
          obtain ⟨d, hd, rfl, rfl, rfl, HH⟩ := hrel
          clear HBA2 HBR2 HBT2 HK2
          obtain ⟨q, hq⟩ : ∃ q, (p.take d).sum = q := ⟨_, rfl⟩
          have hqb : 0 ≤ q ∧ q ≤ 1048576 := by
            have h := Fine.sum (l := p.take d) fun x hx => HPF.out x (List.mem_of_mem_take hx)
            have h2 : (p.take d).length ≤ 256 := by simp [HPL.out]; omega
            omega
          rw [hq]
          obtain ⟨a, ha⟩ : ∃ a, gre c d = a := ⟨_, rfl⟩
          have ha256 : a < 256 := by
            rcases Nat.eq_zero_or_pos d with rfl | h0
            · rw [← ha]; simp [gre]
            · have := gre_lt c h0; omega
          rw [ha]
          by_cases hlt : d < 256
          · obtain ⟨x, hx⟩ : ∃ x, c.getD d 0 = x := ⟨_, rfl⟩
            obtain ⟨y, hy⟩ : ∃ y, c.getD a 0 = y := ⟨_, rfl⟩
            have hxb := HCI.out d hlt
            have hpd := HPG.out d hlt
            rw [hx] at hxb hpd
            have HN2 : Hid (gre c (d + 1) = if y < x then d else a) := by show gre c (d + 1) = _; rw [gre, ha, hx, hy]
            have HQ : Hid ((p.take (d + 1)).sum = q + part1 s x) := by show _ = _; rw [sum_next (by rw [HPL.out]; exact hlt), hq, hpd]
            have HPD := Lib.hid hpd
            have HX := Lib.hid hx
            have HY := Lib.hid hy
            have hd1 : (d : Int) < 256 := by omega
            have hd0 : (0 : Int) ≤ (d : Int) := by omega
            have ha1 : (a : Int) < 256 := by omega
            have ha0 : (0 : Int) ≤ (a : Int) := by omega
            have hcA : wr.cell? ⟨A, d, none⟩ = some (.int .i64 x) := by rw [HH.out.2.1.cell, HG.out d hlt, hx]
            have hcT : wr.cell? ⟨T, d, none⟩ = some (.int .i64 0) := by rw [HH.out.1.cell, vs_get (by rw [laid_len HPL.out hd]; exact hlt), laid_at HPL.out hlt]
            have hfT : wr.frozen? ⟨T, d, none⟩ = false := HH.out.1.frozen d
            clear hq ha hx hy hpd
            go_upto_if 31 with fail
            go_cut [] from 31 to 45 (fun wx => Hid (Blk wx T 24 (vs (laid p (d + 1))) ∧ Blk wx A 24 cs ∧ Blk wx R 24 Z ∧ Keeps (fun _ => False) w wx))
            case first =>
              by_cases hx0 : 0 < x
              · obtain ⟨k, hk⟩ : ∃ k, x * 4096 / s = k := ⟨_, rfl⟩
                have hk2 : (x * 4096).tdiv s = k := by rw [Int.tdiv_eq_ediv_of_nonneg (by omega), hk]
                have hw : IntKind.i64.wrap (x * 4096) = x * 4096 := IntWalk.i64_in _ (by omega)
                have hkb : 0 ≤ k ∧ k ≤ 4096 := by
                  rw [← hk]
                  exact ⟨Int.ediv_nonneg (by omega) (by omega), Int.ediv_le_of_le_mul (by omega) (by omega)⟩
                have HM : Hid (part1 s x = max k 1) := by show _ = _; rw [part1, if_pos hx0, hk]
                clear hk
                have hne : T ≠ A := HTA.out.1
                have hset : ∀ m, m = max k 1 → ∀ W3, Blk W3 T 24 (vs ((laid p d).set d m)) → Blk W3 T 24 (vs (laid p (d + 1))) := by
                  intro m hm W3 hb
                  have e : (laid p d).set d m = laid p (d + 1) := by rw [← laid_set HPL.out hlt, HPD.out, HM.out, hm]
                  rwa [e] at hb
                have HSET := Lib.hid hset
                have hb1 := HH.out.1.setCell d (.int .i64 k)
                rw [vs_set] at hb1
                obtain ⟨W3, hW3⟩ : ∃ W3, wr.setCell ⟨T, d, none⟩ (.int .i64 k) = W3 := ⟨_, rfl⟩
                rw [hW3] at hb1
                have hc3 : W3.cell? ⟨T, d, none⟩ = some (.int .i64 k) := by rw [hb1.cell, vs_get (by rw [List.length_set, laid_len HPL.out hd]; exact hlt), List.getD, List.getElem?_set_self (by rw [laid_len HPL.out hd]; exact hlt)]; rfl
                have hf3 : W3.frozen? ⟨T, d, none⟩ = false := hb1.frozen d
                have HA3 : Hid (Blk W3 A 24 cs ∧ Blk W3 R 24 Z ∧ Keeps (fun _ => False) w W3) := by
                  rw [← hW3]
                  exact Lib.hid ⟨HH.out.2.1.setFar (p := ⟨T, d, none⟩) (Ne.symm HTA.out.1) _, HH.out.2.2.1.setFar (p := ⟨T, d, none⟩) (Ne.symm HTA.out.2.1) _, HH.out.2.2.2.setCell (p := ⟨T, d, none⟩) (.inr HTA.out.2.2) _⟩
                have HB1 := Lib.hid hb1
                clear hset hb1 hne
                by_cases hk0 : k = 0
                · subst hk0
                  go_wp2_with (rw [hW3])
                  go_meet
                  case rel =>
                    have hb2 := HB1.out.setCell d (.int .i64 1)
                    rw [vs_set, List.set_set] at hb2
                    exact Lib.hid ⟨HSET.out 1 (by omega) _ hb2, HA3.out.1.setFar (p := ⟨T, d, none⟩) (Ne.symm HTA.out.1) _, HA3.out.2.1.setFar (p := ⟨T, d, none⟩) (Ne.symm HTA.out.2.1) _, HA3.out.2.2.setCell (p := ⟨T, d, none⟩) (.inr HTA.out.2.2) _⟩
                · go_wp2_with (rw [hW3])
                  go_meet
                  case rel => exact Lib.hid ⟨HSET.out k (by omega) _ HB1.out, HA3.out⟩
              · have HM : Hid (part1 s x = 0) := by show _ = _; rw [part1, if_neg hx0]
                have HSm : Hid (laid p d = laid p (d + 1)) := laid_same HPL.out hlt (by rw [HPD.out, HM.out])
                go_wp2_with fail
                go_meet
                case rel => rw [← HSm.out]; exact HH
            case rest =>
              clear hcA hcT hfT HH
              obtain ⟨m, hm⟩ : ∃ m, part1 s x = m := ⟨_, rfl⟩
              have hmb : 0 ≤ m ∧ m ≤ 4096 := by rw [← hm]; exact part1_in hxb.2.2
              rw [hm] at HQ HPD
              have hcT : wc.cell? ⟨T, d, none⟩ = some (.int .i64 m) := by
                rw [hcut.out.1.cell, vs_get (by rw [laid_len HPL.out (by omega)]; exact hlt), ← laid_set HPL.out hlt, List.getD, List.getElem?_set_self (by rw [laid_len HPL.out hd]; exact hlt), HPD.out]; rfl
              have hcA : wc.cell? ⟨A, d, none⟩ = some (.int .i64 x) := by rw [hcut.out.2.1.cell, HG.out d hlt, HX.out]
              have hcB : wc.cell? ⟨A, a, none⟩ = some (.int .i64 y) := by rw [hcut.out.2.1.cell, HG.out a ha256, HY.out]
              have hw : IntKind.i64.wrap (q + m) = q + m := IntWalk.i64_in _ (by omega)
              clear hm
              go_upto_region 18 with fail
              by_cases hyx : y < x
              · have HN3 : Hid (gre c (d + 1) = d) := by show gre c (d + 1) = _; rw [HN2.out, if_pos hyx]
                clear HN2
                go_region
                go_wp2_with fail
                exact ⟨⟨d + 1, by omega, by rw [HQ.out], by rw [HN3.out], by go_num, Lib.hid ⟨hcut.out.1.drewN 1, hcut.out.2.1.drewN 1, hcut.out.2.2.1.drewN 1, hcut.out.2.2.2.drewN 1⟩⟩, by simp [intOf]; omega⟩
              · have HN3 : Hid (gre c (d + 1) = a) := by show gre c (d + 1) = _; rw [HN2.out, if_neg hyx]
                clear HN2
                go_region
                go_wp2_with fail
                exact ⟨⟨d + 1, by omega, by rw [HQ.out], by rw [HN3.out], by go_num, Lib.hid ⟨hcut.out.1.drewN 1, hcut.out.2.1.drewN 1, hcut.out.2.2.1.drewN 1, hcut.out.2.2.2.drewN 1⟩⟩, by simp [intOf]; omega⟩
          · obtain rfl : d = 256 := by omega
            have HQ : Hid (p.sum = q) := by have := hq; rwa [List.take_of_length_le (by rw [HPL.out]; omega)] at this
            have hH := HH.out
            rw [laid_all HPL.out] at hH
            obtain ⟨hbT, hbA, hbR, hk⟩ := hH
            have HBT := Lib.hid hbT
            have HBR := Lib.hid hbR
            have HK := Lib.hid hk
            have HAe := Lib.hid ha
            clear hq hbT hbA hbR hk HH ha hlt
            by_cases hpos : q < 4096
            · obtain ⟨y, hy⟩ : ∃ y, p.getD a 0 = y := ⟨_, rfl⟩
              have hyb : 0 ≤ y ∧ y ≤ 4096 := by rw [← hy]; exact HPF.out _ (getD_mem (by rw [HPL.out]; exact ha256))
              have HRes : Hid (scal c = p.set a (y + (4096 - q))) := by show _ = _; rw [scal, HP.out, HQ.out, if_pos (by omega), HAe.out, hy]
              have ha0 : (0 : Int) ≤ (a : Int) := by omega
              have ha1 : (a : Int) < 256 := by omega
              have hcT : wr.cell? ⟨T, a, none⟩ = some (.int .i64 y) := by rw [HBT.out.cell, vs_get (by rw [HPL.out]; exact ha256), hy]
              have hfT : wr.frozen? ⟨T, a, none⟩ = false := HBT.out.frozen a
              obtain ⟨z, hz⟩ : ∃ z, y + 4096 - q = z := ⟨_, rfl⟩
              have hw1 : IntKind.i64.wrap (y + 4096) = y + 4096 := IntWalk.i64_in _ (by omega)
              have hw2 : IntKind.i64.wrap (y + 4096 - q) = z := by rw [← hz]; exact IntWalk.i64_in _ (by omega)
              obtain ⟨W3, hW3⟩ : ∃ W3, wr.setCell ⟨T, a, none⟩ (.int .i64 z) = W3 := ⟨_, rfl⟩
              have HB3 : Hid (Blk W3 T 24 (vs (scal c)) ∧ Blk W3 R 24 Z ∧ Keeps (fun _ => False) w W3) := by
                refine Lib.hid ⟨?_, ?_, ?_⟩
                · rw [← hW3, HRes.out, show y + (4096 - q) = z by omega, ← vs_set]; exact HBT.out.setCell a _
                · rw [← hW3]; exact HBR.out.setFar (p := ⟨T, a, none⟩) (Ne.symm HTA.out.2.1) _
                · rw [← hW3]; exact HK.out.setCell (p := ⟨T, a, none⟩) (.inr HTA.out.2.2) _
              have HW3 := Lib.hid hW3
              have hq1 : ¬ 4096 < q := by omega
              clear hW3 hz hy
              go_upto_region 22 with (rw [HW3.out])
              go_wp2_with (rw [HW3.out])
              clear hcT hfT
              go_loopw [7] (fun l wr => l = .int .i64 q ∧ wr = W3) (fun _ _ => 0)
              case atStart => exact ⟨rfl, rfl⟩
              case round =>
                obtain ⟨rfl, rfl⟩ := hrel
                obtain ⟨hx1, hx2, hx3⟩ := scal_ok HL.out HR.out
                have HX1 := Lib.hid hx1
                clear hx1 hx2 hx3
                go_wp2_with (first
                  | ((with_reducible refine ld_row HB3.out.1 Try.underlying24 (arr_size HX1.out) ?_ ?_); rfl)
                  | ((with_reducible refine st_row HB3.out.2.1 (arr_size HX1.out) (by rw [← HZS.out, vs_size, vs_size, zs_len, HX1.out]) (vs_one _) ?_ ?_ ?_); rfl; rfl))
                refine bodyPost_ret (v := .tuple #[.agg (vs (scal c)), .bool true]) ?_ rfl ⟨by rw [if_pos HE.out, decide_eq_true HE.out], Keeps.setRow HB3.out.2.2 (.inr HRl.out) _⟩
                exact ret_arr rfl _ _ R (scal c) true HX1.out rfl rfl (Blk.setRow HB3.out.2.1 _)
            · go_wp2_with fail
              go_loopw [7] (fun al wr => ∃ j : Nat, (j : Int) ≤ q - 4096 ∧ al = .int .i64 (q - j) ∧ Hid (Blk wr T 24 (vs (lose p j)) ∧ Blk wr R 24 Z ∧ Keeps (fun _ => False) w wr)) (fun al _ => (intOf al - 4096).toNat)
              case atStart => exact ⟨0, by omega, by simp, Lib.hid ⟨HBT.out, HBR.out, HK.out⟩⟩
              case round =>
                obtain ⟨j, hj, rfl, HB⟩ := hrel
                clear HBT HBR HK
                obtain ⟨hx1, hx2, hx3⟩ := lose_ok HPL.out HPF.out (j := j) (by rw [HQ.out]; omega)
                rw [HQ.out] at hx3
                obtain ⟨l, hle⟩ : ∃ l, lose p j = l := ⟨_, rfl⟩
                have HNext : Hid (lose p (j + 1) = dec1 l) := by show _ = _; rw [lose, hle]
                have hB := HB.out
                rw [hle] at hB hx1 hx2 hx3
                have HLE := Lib.hid hle
                have HX1 := Lib.hid hx1
                have HX2 := Lib.hid hx2
                obtain ⟨hbT, hbR, hk⟩ := hB
                have HBT := Lib.hid hbT
                have HBR := Lib.hid hbR
                have HK := Lib.hid hk
                clear hle hx1 hx2 hx3 hbT hbR hk HB
                by_cases hlt : (j : Int) < q - 4096
                · have hl1 : 4096 < q - (j : Int) := by omega
                  go_wp2_with fail
                  go_loopw [10, 11] (fun mo i wx => ∃ d : Nat, d ≤ 256 ∧ mo = .int .i64 (gre l d : Nat) ∧ i = .int .i64 (d : Int) ∧ Hid (Blk wx T 24 (vs l) ∧ Blk wx R 24 Z ∧ Keeps (fun _ => False) w wx)) (fun _ i _ => 256 - (intOf i).toNat)
                  case atStart => exact ⟨0, by omega, rfl, rfl, Lib.hid ⟨HBT.out, HBR.out, HK.out⟩⟩
                  case round =>
                    clear HBT HBR HK
                    obtain ⟨d, hd, rfl, rfl, HB⟩ := hrel
                    obtain ⟨g, hg⟩ : ∃ g, gre l d = g := ⟨_, rfl⟩
                    have hgl : g < 256 := by
                      rcases Nat.eq_zero_or_pos d with rfl | h0
                      · rw [← hg]; simp [gre]
                      · have := gre_lt l h0; omega
                    rw [hg]
                    obtain ⟨y, hy⟩ : ∃ y, l.getD g 0 = y := ⟨_, rfl⟩
                    have hyb : 0 ≤ y ∧ y ≤ 4096 := by rw [← hy]; exact HX2.out _ (getD_mem (by rw [HX1.out]; exact hgl))
                    have hg0 : (0 : Int) ≤ (g : Int) := by omega
                    have hg1 : (g : Int) < 256 := by omega
                    by_cases hd2 : d < 256
                    · obtain ⟨x, hx⟩ : ∃ x, l.getD d 0 = x := ⟨_, rfl⟩
                      have HN2 : Hid (gre l (d + 1) = if y < x then d else g) := by show gre l (d + 1) = _; rw [gre, hg, hx, hy]
                      have hc0 : wr.cell? ⟨T, d, none⟩ = some (.int .i64 x) := by rw [HB.out.1.cell, vs_get (by rw [HX1.out]; exact hd2), hx]
                      have hc1 : wr.cell? ⟨T, g, none⟩ = some (.int .i64 y) := by rw [HB.out.1.cell, vs_get (by rw [HX1.out]; exact hgl), hy]
                      have hd0 : (0 : Int) ≤ (d : Int) := by omega
                      have hd1 : (d : Int) < 256 := by omega
                      clear hg hx hy
                      by_cases hyx : y < x
                      · have HN3 : Hid (gre l (d + 1) = d) := by show gre l (d + 1) = _; rw [HN2.out, if_pos hyx]
                        clear HN2
                        go_wp2_with fail
                        go_region
                        go_wp2_with fail
                        exact ⟨⟨d + 1, by omega, by rw [HN3.out], by go_num, Lib.hid ⟨HB.out.1.drewN 1, HB.out.2.1.drewN 1, HB.out.2.2.drewN 1⟩⟩, by simp [intOf]; omega⟩
                      · have HN3 : Hid (gre l (d + 1) = g) := by show gre l (d + 1) = _; rw [HN2.out, if_neg hyx]
                        clear HN2
                        go_wp2_with fail
                        go_region
                        go_wp2_with fail
                        exact ⟨⟨d + 1, by omega, by rw [HN3.out], by go_num, Lib.hid ⟨HB.out.1.drewN 1, HB.out.2.1.drewN 1, HB.out.2.2.drewN 1⟩⟩, by simp [intOf]; omega⟩
                    · obtain rfl : d = 256 := by omega
                      have HRes : Hid (dec1 l = l.set g (y - 1)) := by show _ = _; rw [dec1, hg, hy]
                      have hc1 : wr.cell? ⟨T, g, none⟩ = some (.int .i64 y) := by rw [HB.out.1.cell, vs_get (by rw [HX1.out]; exact hgl), hy]
                      have hf1 : wr.frozen? ⟨T, g, none⟩ = false := HB.out.1.frozen g
                      have hw1 : IntKind.i64.wrap (y - 1) = y - 1 := IntWalk.i64_in _ (by omega)
                      have hw2 : IntKind.i64.wrap (q - (j : Int) - 1) = q - (j : Int) - 1 := IntWalk.i64_in _ (by omega)
                      have HN : Hid (Blk (wr.setCell ⟨T, g, none⟩ (.int .i64 (y - 1))) T 24 (vs (lose p (j + 1))) ∧ Blk (wr.setCell ⟨T, g, none⟩ (.int .i64 (y - 1))) R 24 Z ∧ Keeps (fun _ => False) w (wr.setCell ⟨T, g, none⟩ (.int .i64 (y - 1)))) := by
                        refine Lib.hid ⟨?_, HB.out.2.1.setFar (p := ⟨T, g, none⟩) (Ne.symm HTA.out.2.1) _, HB.out.2.2.setCell (p := ⟨T, g, none⟩) (.inr HTA.out.2.2) _⟩
                        rw [HNext.out, HRes.out, ← vs_set]
                        exact HB.out.1.setCell g _
                      clear hg hy HB hd2
                      go_wp2_with fail
                      exact ⟨⟨j + 1, by omega, by congr 1; omega, HN⟩, by simp [intOf]; omega⟩
                · have hjq : (j : Int) = q - 4096 := by omega
                  have HRes : Hid (scal c = l) := by show _ = _; rw [scal, HP.out, HQ.out, if_neg (by omega), ← HLE.out, show (q - 4096).toNat = j by omega]
                  have hl1 : ¬ 4096 < q - (j : Int) := by omega
                  clear hjq
                  go_wp2_with (first
                    | ((with_reducible refine ld_row HBT.out Try.underlying24 (arr_size HX1.out) ?_ ?_); rfl)
                    | ((with_reducible refine st_row HBR.out (arr_size HX1.out) (by rw [← HZS.out, vs_size, vs_size, zs_len, HX1.out]) (vs_one _) ?_ ?_ ?_); rfl; rfl))
                  refine bodyPost_ret (v := .tuple #[.agg (vs l), .bool true]) ?_ rfl ⟨by rw [if_pos HE.out, decide_eq_true HE.out, HRes.out], Keeps.setRow HK.out (.inr HRl.out) _⟩
                  exact ret_arr rfl _ _ R l true HX1.out rfl rfl (Blk.setRow HBR.out _)
end Go.Proofs.Ytjidgiobnlolpaa.Fq
