/- Counts as parts of 4096: what freq.Scaled answers, whatever the counts. -/
import Derived.Test.YtnanmenoemajfaaFrqPl
import Derived.Laws.ResultCell
namespace Go.Proofs.Ytnanmenoemajfaa.Fq
open Go.RowKit Go.Proofs.Ytnanmenoemajfaa.Gen
set_option maxRecDepth 100000

section
variable {S : Nat → Prop} {w w1 : World} {g k : Nat} {t : TypeId} {cs : Array Value}
theorem Blk.setRow (h : Blk w g t cs) (cs' : Array Value) : Blk (w.setRow g cs') g t cs' := setRow_heap w g cs cs' t (0, 0) h
theorem Blk.setRowFar (h : Blk w g t cs) (hne : g ≠ k) (cs' : Array Value) : Blk (w.setRow k cs') g t cs := (setRow_other w k g cs' hne).trans h
theorem Keeps.setRow (h : Keeps S w w1) (hp : S g ∨ w.heap.size ≤ g) (cs : Array Value) : Keeps S w (w1.setRow g cs) :=
  ⟨h.os, h.tape, h.output, by simpa using h.size, fun k hk hn => (setRow_other w1 g k cs (fun e => by subst e; rcases hp with hp | hp; exact hn hp; omega)).trans (h.block k hk hn)⟩
end
def zs : List Int := List.replicate 256 0
theorem zs_len : zs.length = 256 := List.length_replicate
theorem built_tab : (Try.prog.built 65 []) = some (Array.replicate 256 (.int .i64 0)) := by kernel_rfl
theorem run_tab (w : World) : (Instr.build 65 #[]).run Try.prog w = .ok (.agg (vs zs)) w := by
  rw [zs, ← vs_rep]
  exact run_build w 65 #[] _ built_tab

theorem ret_tab {fn : Func} (h : fn.results = #[.cell 2 65, .tmp 3]) (tmps : Array Value) (w : World) (g : Nat) (l : List Int) (b : Bool) (hl : l.length = 256)
    (hp : tmps.getD 2 undef = .pointer (some ⟨g, 0, none⟩)) (hq : tmps.getD 3 undef = .bool b) (hb : Blk w g 65 (vs l)) :
    (results fn tmps).run Try.prog w = .ok (.tuple #[.agg (vs l), .bool b]) w := by
  rw [results_cell_tmp h, hp, hq]
  simp only [asAddr, Result.andThen, Sem.run_pure]
  rw [run_loadVar_row w g 65 65 (vs l) (0, 0) _ hb Try.underlying65 rfl (tab_size hl)]

theorem run_maxi {P : Program} (ts : Array TypeId) (t : TypeId) (a b m : Int) (h : max a b = m) (w : World) : (Builtin.max_ ts t #[.int .i64 a, .int .i64 b]).run P w = .ok (.int .i64 m) w := by
  rw [run_max_int2, ← h]
  congr 2
  split <;> omega
theorem greatest_c (l : List Int) (cs : Array Value) (g : Nat) (w : World) (hl : l.length = 256) (hc : vs l = cs) (hg : gre l 256 = g) : Calls Try.prog 53 #[.agg cs] w fun r w' => r = .returned (.int .i64 (g : Int)) ∧ w' = w.alloc (.cells cs 64) := by
  subst hc
  subst hg
  exact greatest l w hl
/-- Counts' table, or none. -/
def ScalAns (c : List Int) (w : World) (r : Ending) (w' : World) : Prop :=
  r = .returned (.tuple #[.agg (vs (if InR c ∧ c.sum ≠ 0 then scal c else zs)), .bool (decide (InR c ∧ c.sum ≠ 0))]) ∧ Keeps (fun _ => False) w w'

theorem scaled (c : List Int) (w : World) (hl : c.length = 256) : Calls Try.prog 30 #[.agg (vs c)] w (ScalAns c w) := by
  have HL := Lib.hid hl
  have HZ := Lib.hid (arr_size hl)
  have HG := Lib.hid (fun j (hj : j < 256) => vs_get (l := c) (j := j) (by omega))
  have hz : ∀ w, (zeroValue 65).run Try.prog w = .ok (.agg (vs zs)) w := tab_zero
  have hbu := run_tab
  have HV : Hid (vs c = vs c) := rfl
  generalize hcs : vs c = cs at HZ HG ⊢
  generalize hZ : vs zs = Z at hz hbu
  have HCS := Lib.hid hcs
  have HZS := Lib.hid hZ
  clear hl hcs hZ HV
  go_enter Try.func30, Try.ntmps30
  go_upto_region 2 with fail
  obtain ⟨A, hA⟩ : ∃ A, w.heap.size = A := ⟨_, rfl⟩
  obtain ⟨R, hR⟩ : ∃ R, w.heap.size + 1 = R := ⟨_, rfl⟩
  generalize hW : (w.alloc (.cells cs 64)).alloc (.cells Z 65) = W
  have hbA : Blk W A 64 cs := by rw [← hW, ← hA]; exact (Blk.new w 64 cs).alloc _
  have hbR : Blk W R 65 Z := by rw [← hW, ← hR, show w.heap.size + 1 = (w.alloc (.cells cs 64)).heap.size by simp]; exact Blk.new _ _ _
  have hk : Keeps (fun _ => False) w W := by rw [← hW]; exact ((Keeps.refl _ _).alloc _).alloc _
  have HA := Lib.hid hA
  have HR := Lib.hid hR
  have HBA := Lib.hid hbA
  have HBR := Lib.hid hbR
  have HK := Lib.hid hk
  have HZI : Hid ((Try.prog.info? 65).map (·.size) = some Z.size) := by show _ = _; rw [← HZS.out]; exact tab_size zs_len
  have HZ1 : Hid (Z.all (·.oneCell') = true) := by show _ = _; rw [← HZS.out]; exact vs_one _
  rw [hR, hA]
  clear hA hR hbA hbR hk hW
  go_wp2_with ((with_reducible refine ld_row HBA.out Try.underlying64 HZ.out ?_ ?_); rfl)
  go_loopw [4, 12] (fun s i wr => ∃ d : Nat, d ≤ 256 ∧ s = .int .i64 ((c.take d).sum) ∧ i = .int .i64 (d : Int) ∧ wr = W ∧ Hid (InR (c.take d))) (fun _ i _ => 256 - (intOf i).toNat)
  case atStart => exact ⟨0, by omega, rfl, rfl, rfl, Lib.hid (by simp [InR])⟩
  case round =>
    obtain ⟨d, hd, rfl, rfl, rfl, HF⟩ := hrel
    obtain ⟨s, hs⟩ : ∃ s, (c.take d).sum = s := ⟨_, rfl⟩
    have hsb : 0 ≤ s ∧ s ≤ 2147483647 * 256 := by
      have h := HF.out.sum
      have h2 : (c.take d).length ≤ 256 := by simp [HL.out]; omega
      omega
    rw [hs]
    by_cases hlt : d < 256
    · obtain ⟨x, hx⟩ : ∃ x, c.getD d 0 = x := ⟨_, rfl⟩
      have hgd : ∀ w, (Instr.index 64 (.agg cs) (.int .i64 (d : Int))).run Try.prog w = .ok (.int .i64 x) w := run_idx 64 256 Try.underlying64 cs .i64 d _ hlt (by rw [HG.out d hlt, hx])
      have HS : Hid ((c.take (d + 1)).sum = s + x) := by show (c.take (d + 1)).sum = s + x; rw [sum_next (by rw [HL.out]; exact hlt), hs, hx]
      have HX := Lib.hid hx
      clear hx hs
      have hd1 : (d : Int) < 256 := by omega
      by_cases hbad : x < 0 ∨ 2147483647 < x
      · have HN : Hid (¬ InR c) := not_inR (d := d) (by rw [HL.out]; exact hlt) (by rw [HX.out]; omega)
        have HEnd : ∀ W2 : World, Blk W2 R 65 Z → Keeps (fun _ => False) w W2 → ∀ r, r = .returned (.tuple #[.agg Z, .bool false]) → ScalAns c w r W2 := by
          intro W2 _ h2 r hr
          refine ⟨?_, h2⟩
          rw [hr, if_neg (fun h => HN.out h.1), decide_eq_false (fun h => HN.out h.1), HZS.out]
        have HE := Lib.hid HEnd
        clear HEnd
        rcases hbad with h0 | h0
        · go_wp2_with ((with_reducible refine st_row HBR.out HZI.out rfl HZ1.out ?_ ?_ ?_); rfl; rfl)
          refine bodyPost_ret (v := .tuple #[.agg Z, .bool false]) ?_ rfl (HE.out _ (Blk.setRow HBR.out Z) (Keeps.setRow HK.out (.inr (by have := HR.out; omega)) Z) _ rfl)
          rw [← HZS.out]
          exact ret_tab rfl _ _ R zs false zs_len rfl rfl (by rw [HZS.out]; exact Blk.setRow HBR.out Z)
        · have h00 : ¬ x < 0 := by omega
          go_wp2_with ((with_reducible refine st_row HBR.out HZI.out rfl HZ1.out ?_ ?_ ?_); rfl; rfl)
          refine bodyPost_ret (v := .tuple #[.agg Z, .bool false]) ?_ rfl (HE.out _ (Blk.setRow HBR.out Z) (Keeps.setRow HK.out (.inr (by have := HR.out; omega)) Z) _ rfl)
          rw [← HZS.out]
          exact ret_tab rfl _ _ R zs false zs_len rfl rfl (by rw [HZS.out]; exact Blk.setRow HBR.out Z)
      · have HF1 : Hid (InR (c.take (d + 1))) := HF.out.next (by rw [HL.out]; exact hlt) (by rw [HX.out]; omega)
        have h0 : ¬ x < 0 := by omega
        have h1 : ¬ 2147483647 < x := by omega
        have hw : IntKind.i64.wrap (s + x) = s + x := IntWalk.i64_in _ (by omega)
        clear hbad
        go_wp2
        exact ⟨⟨d + 1, by omega, by rw [HS.out], by go_num, trivial, HF1⟩, by simp [intOf]; omega⟩
    · obtain rfl : d = 256 := by omega
      have HT : Hid (c.take 256 = c) := List.take_of_length_le (by rw [HL.out]; omega)
      have HF1 : Hid (InR c) := by have := HF.out; rwa [HT.out] at this
      have HS : Hid (c.sum = s) := by have := hs; rwa [HT.out] at this
      clear hs HF HT
      by_cases he : s = 0
      · have HE : Hid (¬ (InR c ∧ c.sum ≠ 0)) := fun h => h.2 (by rw [HS.out]; exact he)
        go_wp2_with ((with_reducible refine st_row HBR.out HZI.out rfl HZ1.out ?_ ?_ ?_); rfl; rfl)
        refine bodyPost_ret (v := .tuple #[.agg Z, .bool false]) ?_ rfl ⟨by rw [if_neg HE.out, decide_eq_false HE.out, HZS.out], Keeps.setRow HK.out (.inr (by have := HR.out; omega)) Z⟩
        rw [← HZS.out]
        exact ret_tab rfl _ _ R zs false zs_len rfl rfl (by rw [HZS.out]; exact Blk.setRow HBR.out Z)
      · go_upto_region 13 with ((with_reducible refine st_row (Blk.new _ 65 Z) HZI.out rfl HZ1.out ?_ ?_ ?_); rfl; rfl)
        obtain ⟨T, hT⟩ : ∃ T, wr.heap.size = T := ⟨_, rfl⟩
        generalize hW : (wr.alloc (.cells Z 65)).setRow wr.heap.size Z = W
        have hlA := HBA.out.lt
        have hlR := HBR.out.lt
        have hbA : Blk W A 64 cs := by rw [← hW]; exact Blk.setRowFar (HBA.out.alloc _) (by omega) Z
        have hbR : Blk W R 65 Z := by rw [← hW]; exact Blk.setRowFar (HBR.out.alloc _) (by omega) Z
        have hbT : Blk W T 65 Z := by rw [← hW, ← hT]; exact Blk.setRow (Blk.new _ _ _) Z
        have hk : Keeps (fun _ => False) w W := by rw [← hW]; exact Keeps.setRow (HK.out.alloc _) (.inr HK.out.size) Z
        have HTA : Hid (T ≠ A ∧ T ≠ R ∧ w.heap.size ≤ T) := by show _ ∧ _; have := HK.out.size; omega
        obtain ⟨p, hp⟩ : ∃ p, pts c = p := ⟨_, rfl⟩
        have HPL : Hid (p.length = 256) := by show _ = _; rw [← hp, pts_len, HL.out]
        have HPF : Hid (Fine p) := by show Fine p; rw [← hp]; exact pts_fine HF1.out
        have HPG : Hid (∀ d, d < 256 → p.getD d 0 = part1 s (c.getD d 0)) := fun d hd => by rw [← hp, pts_get c (by rw [HL.out]; exact hd), HS.out]
        have HCI : Hid (∀ d, d < 256 → 0 ≤ c.getD d 0 ∧ c.getD d 0 ≤ 2147483647 ∧ c.getD d 0 ≤ s) := fun d hd => by
          have hm := getD_mem (l := c) (d := d) (by rw [HL.out]; exact hd)
          have h1 := HF1.out _ hm
          have h2 := HF1.out.mem_le _ hm
          rw [HS.out] at h2
          exact ⟨h1.1, h1.2, h2⟩
        have HP := Lib.hid hp
        have HBA1 := Lib.hid hbA
        have HBR1 := Lib.hid hbR
        have HBT1 := Lib.hid hbT
        have HK1 := Lib.hid hk
        rw [hT]
        clear hp hT hlA hlR hbA hbR hbT hk hW HBA HBR HK hz hbu hlt
        go_wp2_with ((with_reducible refine ld_row HBA1.out Try.underlying64 HZ.out ?_ ?_); rfl)
        go_loopw [8, 31] (fun l i wr => ∃ d : Nat, d ≤ 256 ∧ l = .int .i64 (4096 - (p.take d).sum) ∧ i = .int .i64 (d : Int) ∧ Hid (Blk wr T 65 (vs (laid p d)) ∧ Blk wr A 64 cs ∧ Blk wr R 65 Z ∧ Keeps (fun _ => False) w wr)) (fun _ i _ => 256 - (intOf i).toNat)
        case atStart => exact ⟨0, by omega, by simp, rfl, Lib.hid ⟨by rw [laid_zero, show List.replicate 256 (0 : Int) = zs from rfl, HZS.out]; exact HBT1.out, HBA1.out, HBR1.out, HK1.out⟩⟩
        case round =>
          obtain ⟨d, hd, rfl, rfl, HH⟩ := hrel
          clear HBA1 HBR1 HBT1 HK1
          obtain ⟨q, hq⟩ : ∃ q, (p.take d).sum = q := ⟨_, rfl⟩
          have hqb : 0 ≤ q ∧ q ≤ 1048576 := by
            have h := Fine.sum (l := p.take d) fun x hx => HPF.out x (List.mem_of_mem_take hx)
            have h2 : (p.take d).length ≤ 256 := by simp [HPL.out]; omega
            omega
          rw [hq]
          by_cases hlt : d < 256
          · obtain ⟨x, hx⟩ : ∃ x, c.getD d 0 = x := ⟨_, rfl⟩
            have hgd : ∀ w, (Instr.index 64 (.agg cs) (.int .i64 (d : Int))).run Try.prog w = .ok (.int .i64 x) w := run_idx 64 256 Try.underlying64 cs .i64 d _ hlt (by rw [HG.out d hlt, hx])
            have hxb := HCI.out d hlt
            have hpd := HPG.out d hlt
            rw [hx] at hxb hpd
            have HQ : Hid ((p.take (d + 1)).sum = q + part1 s x) := by show _ = _; rw [sum_next (by rw [HPL.out]; exact hlt), hq, hpd]
            have HPD := Lib.hid hpd
            clear hx hq hpd
            have hd1 : (d : Int) < 256 := by omega
            have hd0 : (0 : Int) ≤ (d : Int) := by omega
            by_cases hx0 : 0 < x
            · obtain ⟨k, hk⟩ : ∃ k, x * 4096 / s = k := ⟨_, rfl⟩
              have hk2 : (x * 4096).tdiv s = k := by rw [Int.tdiv_eq_ediv_of_nonneg (by omega), hk]
              have hw : IntKind.i64.wrap (x * 4096) = x * 4096 := IntWalk.i64_in _ (by omega)
              have hkb : 0 ≤ k ∧ k ≤ 4096 := by
                rw [← hk]
                exact ⟨Int.ediv_nonneg (by omega) (by omega), Int.ediv_le_of_le_mul (by omega) (by omega)⟩
              have HKK := Lib.hid hk
              clear hk
              obtain ⟨m, hm⟩ : ∃ m, max k 1 = m := ⟨_, rfl⟩
              have hmax := fun (ts : Array TypeId) (t : TypeId) (w : World) => run_maxi (P := Try.prog) ts t k 1 m hm w
              have HM : Hid (part1 s x = m) := by show _ = _; rw [part1, if_pos hx0, HKK.out, hm]
              have hmb : 1 ≤ m ∧ m ≤ 4096 := by omega
              have hcT : wr.cell? ⟨T, d, none⟩ = some (.int .i64 0) := by rw [HH.out.1.cell, vs_get (by rw [laid_len HPL.out hd]; exact hlt), laid_at HPL.out hlt]
              have hfT : wr.frozen? ⟨T, d, none⟩ = false := HH.out.1.frozen d
              have hcT2 : (wr.setCell ⟨T, d, none⟩ (.int .i64 m)).cell? ⟨T, d, none⟩ = some (.int .i64 m) := by rw [(HH.out.1.setCell d (.int .i64 m)).cell, vs_set, vs_get (by rw [List.length_set, laid_len HPL.out hd]; exact hlt), List.getD, List.getElem?_set_self (by rw [laid_len HPL.out hd]; exact hlt)]; rfl
              have hw2 : IntKind.i64.wrap (4096 - q - m) = 4096 - q - m := IntWalk.i64_in _ (by omega)
              have HB2 : Hid (Blk (wr.setCell ⟨T, d, none⟩ (.int .i64 m)) T 65 (vs (laid p (d + 1))) ∧ Blk (wr.setCell ⟨T, d, none⟩ (.int .i64 m)) A 64 cs ∧ Blk (wr.setCell ⟨T, d, none⟩ (.int .i64 m)) R 65 Z ∧ Keeps (fun _ => False) w (wr.setCell ⟨T, d, none⟩ (.int .i64 m))) := by
                refine Lib.hid ⟨?_, HH.out.2.1.setFar (p := ⟨T, d, none⟩) (Ne.symm HTA.out.1) _, HH.out.2.2.1.setFar (p := ⟨T, d, none⟩) (Ne.symm HTA.out.2.1) _, HH.out.2.2.2.setCell (p := ⟨T, d, none⟩) (.inr HTA.out.2.2) _⟩
                have := HH.out.1.setCell d (.int .i64 m)
                rw [vs_set] at this
                have e : (laid p d).set d m = laid p (d + 1) := by rw [← laid_set HPL.out hlt, HPD.out, HM.out]
                rwa [e] at this
              clear hm HH
              go_wp2_with fail
              exact ⟨⟨d + 1, by omega, by rw [HQ.out, HM.out]; congr 1; omega, by go_num, HB2⟩, by simp [intOf]; omega⟩
            · have HM : Hid (part1 s x = 0) := by show _ = _; rw [part1, if_neg hx0]
              have HSm : Hid (laid p d = laid p (d + 1)) := laid_same HPL.out hlt (by rw [HPD.out, HM.out])
              go_wp2_with fail
              exact ⟨⟨d + 1, by omega, by rw [HQ.out, HM.out]; congr 1; omega, by go_num, by rw [← HSm.out]; exact HH⟩, by simp [intOf]; omega⟩
          · obtain rfl : d = 256 := by omega
            have HQ : Hid (p.sum = q) := by have := hq; rwa [List.take_of_length_le (by rw [HPL.out]; omega)] at this
            have hH := HH.out
            rw [laid_all HPL.out] at hH
            obtain ⟨hbT, hbA, hbR, hk⟩ := hH
            have HBT := Lib.hid hbT
            have HBA := Lib.hid hbA
            have HBR := Lib.hid hbR
            have HK := Lib.hid hk
            clear hq hbT hbA hbR hk HH
            by_cases hpos : q < 4096
            · obtain ⟨g, hg⟩ : ∃ g, gre c 256 = g := ⟨_, rfl⟩
              have hgl : g < 256 := by rw [← hg]; exact gre_lt c (by omega)
              have HGE := Lib.hid hg
              obtain ⟨y, hy⟩ : ∃ y, p.getD g 0 = y := ⟨_, rfl⟩
              have hyb : 0 ≤ y ∧ y ≤ 4096 := by rw [← hy]; exact HPF.out _ (getD_mem (by rw [HPL.out]; exact hgl))
              have HRes : Hid (scal c = p.set g (y + (4096 - q))) := by show _ = _; rw [scal, HP.out, HQ.out, if_pos (by omega), hg, hy]
              have HY := Lib.hid hy
              clear hg hy
              have hg0 : (0 : Int) ≤ (g : Int) := by omega
              have hg1 : (g : Int) < 256 := by omega
              obtain ⟨W2, hW2⟩ : ∃ W2, wr.alloc (.cells cs 64) = W2 := ⟨_, rfl⟩
              have hbT2 : Blk W2 T 65 (vs p) := by rw [← hW2]; exact HBT.out.alloc _
              have hbR2 : Blk W2 R 65 Z := by rw [← hW2]; exact HBR.out.alloc _
              have hk2 : Keeps (fun _ => False) w W2 := by rw [← hW2]; exact HK.out.alloc _
              have hcT : W2.cell? ⟨T, g, none⟩ = some (.int .i64 y) := by rw [hbT2.cell, vs_get (by rw [HPL.out]; exact hgl), HY.out]
              have hfT : W2.frozen? ⟨T, g, none⟩ = false := hbT2.frozen g
              obtain ⟨z, hz⟩ : ∃ z, y + (4096 - q) = z := ⟨_, rfl⟩
              have hw2 : IntKind.i64.wrap (y + (4096 - q)) = z := by rw [← hz]; exact IntWalk.i64_in _ (by omega)
              obtain ⟨W3, hW3⟩ : ∃ W3, W2.setCell ⟨T, g, none⟩ (.int .i64 z) = W3 := ⟨_, rfl⟩
              have HB3 : Hid (Blk W3 T 65 (vs (scal c)) ∧ Blk W3 R 65 Z ∧ Keeps (fun _ => False) w W3) := by
                refine Lib.hid ⟨?_, ?_, ?_⟩
                · rw [← hW3, HRes.out, hz, ← vs_set]; exact hbT2.setCell g _
                · rw [← hW3]; exact hbR2.setFar (p := ⟨T, g, none⟩) (Ne.symm HTA.out.2.1) _
                · rw [← hW3]; exact hk2.setCell (p := ⟨T, g, none⟩) (.inr HTA.out.2.2) _
              have HW2 := Lib.hid hW2
              have HW3 := Lib.hid hW3
              clear hW2 hW3 hz hbT2 hbR2 hk2
              have hl0 : 0 < 4096 - q := by omega
              go_upto_region 22 with (first
                | (go_at_call 53; refine (greatest_c c cs g _ HL.out HCS.out HGE.out).mono ?_; rintro e w2 ⟨rfl, rfl⟩; rw [HW2.out])
                | ((with_reducible refine ld_row HBA.out Try.underlying64 HZ.out ?_ ?_); rfl))
              rw [HW3.out]
              go_wp2_with fail
              clear hcT hfT
              go_loopw [8] (fun l wr => l = .int .i64 (4096 - q) ∧ wr = W3) (fun _ _ => 0)
              case atStart => exact ⟨rfl, rfl⟩
              case round =>
                obtain ⟨rfl, rfl⟩ := hrel
                obtain ⟨hx1, hx2, hx3⟩ := scal_ok HL.out HF1.out
                have HX1 := Lib.hid hx1
                clear hx1 hx2 hx3
                have hl1 : ¬ 4096 - q < 0 := by omega
                go_wp2_with (first
                  | ((with_reducible refine ld_row HB3.out.1 Try.underlying65 (tab_size HX1.out) ?_ ?_); rfl)
                  | ((with_reducible refine st_row HB3.out.2.1 (tab_size HX1.out) (by rw [← HZS.out, vs_size, vs_size, zs_len, HX1.out]) (vs_one _) ?_ ?_ ?_); rfl; rfl))
                have HE : Hid (InR c ∧ c.sum ≠ 0) := Lib.hid ⟨HF1.out, by rw [HS.out]; exact he⟩
                refine bodyPost_ret (v := .tuple #[.agg (vs (scal c)), .bool true]) ?_ rfl ⟨by rw [if_pos HE.out, decide_eq_true HE.out], Keeps.setRow HB3.out.2.2 (.inr (by have := HR.out; omega)) _⟩
                exact ret_tab rfl _ _ R (scal c) true HX1.out rfl rfl (Blk.setRow HB3.out.2.1 _)
            · have hl0 : ¬ 0 < 4096 - q := by omega
              go_wp2_with fail
              go_loopw [8] (fun l wr => ∃ j : Nat, (j : Int) ≤ q - 4096 ∧ l = .int .i64 (4096 - q + j) ∧ Hid (Blk wr T 65 (vs (lose p j)) ∧ Blk wr R 65 Z ∧ Keeps (fun _ => False) w wr)) (fun l _ => (- intOf l).toNat)
              case atStart => exact ⟨0, by omega, by simp, Lib.hid ⟨HBT.out, HBR.out, HK.out⟩⟩
              case round =>
                obtain ⟨j, hj, rfl, HB⟩ := hrel
                clear HBT HBR HK HBA
                obtain ⟨hx1, hx2, hx3⟩ := lose_ok HPL.out HPF.out (j := j) (by rw [HQ.out]; omega)
                rw [HQ.out] at hx3
                obtain ⟨l, hle⟩ : ∃ l, lose p j = l := ⟨_, rfl⟩
                have HNext : Hid (lose p (j + 1) = dec1 l) := by show _ = _; rw [lose, hle]
                have hB := HB.out
                rw [hle] at hB hx1 hx2 hx3
                have HLE := Lib.hid hle
                have HX1 := Lib.hid hx1
                have HX2 := Lib.hid hx2
                have HX3 := Lib.hid hx3
                obtain ⟨hbT, hbR, hk⟩ := hB
                have HBT := Lib.hid hbT
                have HBR := Lib.hid hbR
                have HK := Lib.hid hk
                have HLS : Hid ((Try.prog.info? 65).map (·.size) = some (vs l).size) := tab_size hx1
                clear hle hx1 hx2 hx3 hbT hbR hk HB
                by_cases hlt : (j : Int) < q - 4096
                · obtain ⟨g, hg⟩ : ∃ g, gre l 256 = g := ⟨_, rfl⟩
                  have hgl : g < 256 := by rw [← hg]; exact gre_lt l (by omega)
                  have HGE := Lib.hid hg
                  obtain ⟨y, hy⟩ : ∃ y, l.getD g 0 = y := ⟨_, rfl⟩
                  have hyb : 0 ≤ y ∧ y ≤ 4096 := by rw [← hy]; exact HX2.out _ (getD_mem (by rw [HX1.out]; exact hgl))
                  have HRes : Hid (dec1 l = l.set g (y - 1)) := by show _ = _; rw [dec1, hg, hy]
                  have HY := Lib.hid hy
                  clear hg hy
                  have hg0 : (0 : Int) ≤ (g : Int) := by omega
                  have hg1 : (g : Int) < 256 := by omega
                  obtain ⟨W2, hW2⟩ : ∃ W2, wr.alloc (.cells (vs l) 64) = W2 := ⟨_, rfl⟩
                  have hbT2 : Blk W2 T 65 (vs l) := by rw [← hW2]; exact HBT.out.alloc _
                  have hbR2 : Blk W2 R 65 Z := by rw [← hW2]; exact HBR.out.alloc _
                  have hk2 : Keeps (fun _ => False) w W2 := by rw [← hW2]; exact HK.out.alloc _
                  have hcT : W2.cell? ⟨T, g, none⟩ = some (.int .i64 y) := by rw [hbT2.cell, vs_get (by rw [HX1.out]; exact hgl), HY.out]
                  have hfT : W2.frozen? ⟨T, g, none⟩ = false := hbT2.frozen g
                  obtain ⟨z, hz⟩ : ∃ z, y - 1 = z := ⟨_, rfl⟩
                  have hw2 : IntKind.i64.wrap (y - 1) = z := by rw [← hz]; exact IntWalk.i64_in _ (by omega)
                  obtain ⟨W3, hW3⟩ : ∃ W3, W2.setCell ⟨T, g, none⟩ (.int .i64 z) = W3 := ⟨_, rfl⟩
                  have HB3 : Hid (Blk W3 T 65 (vs (lose p (j + 1))) ∧ Blk W3 R 65 Z ∧ Keeps (fun _ => False) w W3) := by
                    refine Lib.hid ⟨?_, ?_, ?_⟩
                    · rw [← hW3, HNext.out, HRes.out, hz, ← vs_set]; exact hbT2.setCell g _
                    · rw [← hW3]; exact hbR2.setFar (p := ⟨T, g, none⟩) (Ne.symm HTA.out.2.1) _
                    · rw [← hW3]; exact hk2.setCell (p := ⟨T, g, none⟩) (.inr HTA.out.2.2) _
                  have HW2 := Lib.hid hW2
                  have HW3 := Lib.hid hW3
                  clear hW2 hW3 hz hbT2 hbR2 hk2
                  have hl1 : 4096 - q + (j : Int) < 0 := by omega
                  obtain ⟨v, hv⟩ : ∃ v, vs l = v := ⟨_, rfl⟩
                  have HV := Lib.hid hv
                  rw [hv] at HLS HBT HW2
                  clear hv
                  go_wp2_with (first
                    | (go_at_call 53; refine (greatest_c l v g _ HX1.out HV.out HGE.out).mono ?_; rintro e w2 ⟨rfl, rfl⟩; rw [HW2.out])
                    | ((with_reducible refine ld_row HBT.out Try.underlying65 HLS.out ?_ ?_); rfl))
                  exact ⟨⟨j + 1, by omega, by go_num; try omega, by rw [HW3.out]; exact HB3⟩, by simp [intOf]; omega⟩
                · have hjq : (j : Int) = q - 4096 := by omega
                  have HRes : Hid (scal c = l) := by show _ = _; rw [scal, HP.out, HQ.out, if_neg (by omega), ← HLE.out, show (q - 4096).toNat = j by omega]
                  have hl1 : ¬ 4096 - q + (j : Int) < 0 := by omega
                  clear hjq
                  go_wp2_with (first
                    | ((with_reducible refine ld_row HBT.out Try.underlying65 HLS.out ?_ ?_); rfl)
                    | ((with_reducible refine st_row HBR.out HLS.out (by rw [← HZS.out, vs_size, vs_size, zs_len, HX1.out]) (vs_one _) ?_ ?_ ?_); rfl; rfl))
                  have HE : Hid (InR c ∧ c.sum ≠ 0) := Lib.hid ⟨HF1.out, by rw [HS.out]; exact he⟩
                  refine bodyPost_ret (v := .tuple #[.agg (vs l), .bool true]) ?_ rfl ⟨by rw [if_pos HE.out, decide_eq_true HE.out, HRes.out], Keeps.setRow HK.out (.inr (by have := HR.out; omega)) _⟩
                  exact ret_tab rfl _ _ R l true HX1.out rfl rfl (Blk.setRow HBR.out _)
end Go.Proofs.Ytnanmenoemajfaa.Fq
