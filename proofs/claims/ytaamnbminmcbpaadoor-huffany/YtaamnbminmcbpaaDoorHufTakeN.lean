/- A nil code's Take: nothing is found; the Reader has ended. -/
import Derived.Test.YtaamnbminmcbpaaDoorHufTake
namespace Go.Proofs.YtaamnbminmcbpaaDoor.Hu
open Go.RowKit Go.Shelf Go.Sort Go.Proofs.YtaamnbminmcbpaaDoor.Gen Go.Proofs.YtaamnbminmcbpaaDoor.Mp Go.Proofs.YtaamnbminmcbpaaDoor.Hr Go.Proofs.YtaamnbminmcbpaaDoor.Hs Go.Proofs.YtaamnbminmcbpaaDoor.Hf Go.Proofs.YtaamnbminmcbpaaDoor.Hz Go.Proofs.YtaamnbminmcbpaaDoor.Ln Go.Proofs.YtaamnbminmcbpaaDoor.Hk Go.Proofs.YtaamnbminmcbpaaDoor.Bp Go.Proofs.YtaamnbminmcbpaaDoor.Br Go.Proofs.YtaamnbminmcbpaaDoor.Bf
theorem numOf_nil (b z : Nat) (w : World) : Calls Tryd.prog 21 #[.pointer none, .agg #[.int .u32 (b : Int), .int .i64 (z : Int)]] w fun r w' => r = .returned (.tuple #[.int .i64 0, .bool false]) ∧ Keeps (fun _ => False) w w' := by
  go_enter Tryd.func21, Tryd.ntmps21
  go_wp2
  go_ret2
  exact ⟨rfl, (Keeps.refl _ _).alloc _⟩
set_option maxHeartbeats 4000000 in
set_option maxRecDepth 100000 in
theorem take_nil (br rg : Nat) (s : BS) (w : World) (hr : IsBr br rg s w) :
    Calls Tryd.prog 10 #[.pointer none, .pointer (some ⟨rg, 0, none⟩)] w fun r w' => ∃ x s', r = .returned (.int .i64 x) ∧ TakeAns [] s x s' ∧ IsBr br rg s' w' ∧ Keeps (· = rg) w w' := by
  obtain ⟨W, hWn⟩ : ∃ W : Ws, W = [] := ⟨_, rfl⟩
  rw [← hWn]
  have HWN := Lib.hid hWn
  have HW : Hid (Fine W) := by rw [hWn]; exact fun t ht => absurd ht (by simp)
  have HR := Lib.hid hr
  have hrg := hr.lt
  clear hr hWn
  go_enter Tryd.func10, Tryd.ntmps10
  go_wp2
  have HB0 := Lib.hid (Blk.new w 57 #[.int .u32 0, .int .i64 0])
  have HK0 := Lib.hid ((Keeps.refl (fun _ => False) w).alloc (.cells #[.int .u32 0, .int .i64 0] 57))
  obtain ⟨pw, hpw⟩ : ∃ pw, pw = w.heap.size := ⟨_, rfl⟩
  obtain ⟨wa, hwa⟩ : ∃ wa, wa = w.alloc (.cells #[.int .u32 0, .int .i64 0] 57) := ⟨_, rfl⟩
  rw [← hwa, ← hpw] at HB0
  rw [← hwa] at HK0
  rw [← hwa, ← hpw]
  have hpr : pw ≠ rg := by omega
  have HPW : Hid (w.heap.size ≤ pw) := by show _ ≤ _; omega
  clear hwa hpw
  go_loopw [] (fun wr => ∃ (t b : Nat) (s1 : BS), Blk wr pw 57 #[.int .u32 (b : Int), .int .i64 (t : Int)] ∧ (Tst W s t b s1 ∨ Tend W s s1) ∧ t ≤ 21 ∧ IsBr br rg s1 wr ∧ Keeps (· = rg) w wr) (fun wr => 22 - (intOf ((wr.cell? ⟨pw, 1, none⟩).getD undef)).toNat)
  case atStart =>
    refine ⟨0, 0, s, HB0.out, ?_, by omega, HR.out.keeps HK0.out (fun _ _ => id), HK0.out.none_⟩
    cases he : s.ended with
    | false => exact .inl ⟨he, by simp, by omega, by have := HR.out.2.1.1; omega, by simp [piece, num], by omega⟩
    | true => exact .inr ⟨.inl he, s.k, by rw [← he]⟩
  case round =>
    clear HB0 HK0 HR
    obtain ⟨t, b, s1, hb, hst, ht, hr, hk⟩ := hrel
    have HBL := Lib.hid hb
    have HR := Lib.hid hr
    have HK := Lib.hid hk
    have hc0 : wr.cell? ⟨pw, 0, none⟩ = some (.int .u32 (b : Int)) := hb.cell 0
    have hc1 : wr.cell? ⟨pw, 1, none⟩ = some (.int .i64 (t : Int)) := hb.cell 1
    have hm0 : wr.cell? ⟨pw, 1, none⟩ = some (.int .i64 (t : Int)) := hc1
    clear hb hr hk
    rcases hst with hst | hst
    · have HT := Lib.hid hst
      clear hst
      by_cases ht2 : t ≤ 20
      · have hd : decide ((t : Int) ≤ 20) = true := by simp; omega
        have HEN := Lib.hid (ended_q rg s1 false br wr HR.out (by rw [HT.out.at_]; exact HT.out.ok))
        have hb2 := num_small HT.out.fits (by omega)
        rw [HT.out.val] at hb2
        have HNO := Lib.hid (numOf_nil b t wr)
        have hwh : whose W b t = none := by rw [HWN.out]; rfl
        have HWH := Lib.hid hwh
        clear hwh
        go_upto_region 6 with (first
          | (go_at_call 11
             refine HEN.out.mono ?_
             rintro e w' ⟨rfl, hw⟩
             rw [hw]
             clear hw)
          | (go_at_call 21
             refine HNO.out.mono ?_
             rintro e w2 ⟨rfl, hk2⟩
             have HK2 := Lib.hid hk2
             clear hk2))
        have HR2 := Lib.hid (HR.out.keeps HK2.out (fun _ _ => id))
        have HB2 := Lib.hid (HBL.out.keeps HK2.out id)
        have HKK := Lib.hid (HK.out.trans HK2.out.none_)
        clear HEN HNO HR HBL HK HK2 hc0 hc1
        obtain ⟨nv, hnv⟩ : ∃ nv, nv = (s1.take 1).1 := ⟨_, rfl⟩
        obtain ⟨s2, hs2⟩ : ∃ s2, s2 = (s1.take 1).2 := ⟨_, rfl⟩
        have HNX : Hid (nv < 2 ∧ (Tst W s (t + 1) (b * 2 + nv) s2 ∨ Tend W s s2)) := by
          by_cases hf : s.k + (t + 1) ≤ 8 * s.xs.length
          · obtain ⟨g1, g2, g3⟩ := HT.out.more HWH.out ht2 hf
            rw [← hnv] at g2 g3
            rw [← hs2] at g1
            rw [← g1] at g2
            exact ⟨g3, .inl g2⟩
          · obtain ⟨g1, g2⟩ := HT.out.over HWH.out hf
            rw [← hnv] at g1
            rw [← hs2] at g2
            exact ⟨by omega, .inr g2⟩
        have hnv2 := HNX.out.1
        have HTA := Lib.hid (fun w' (hr : IsBr br rg s1 w') => take_q rg s1 s2 br 1 (nv : Int) 1 w' hr (by decide) (by rw [hnv]) hs2.symm)
        have HVA : Hid (bits .or .u32 (IntKind.u32.wrap ((b : Int) * 2)) (nv : Int) = ((b * 2 + nv : Nat) : Int)) := by
          show bits _ _ _ _ = _
          rw [show IntKind.u32.wrap ((b : Int) * 2) = (b : Int) * 2 by simp [IntKind.wrap, IntKind.bits, IntKind.signed]; omega]
          exact or_bit (by omega) hnv2
        have hc0 : w2.cell? ⟨pw, 0, none⟩ = some (.int .u32 (b : Int)) := HB2.out.cell 0
        clear hnv hs2
        go_cut [] from 25 to 31 (fun wx => Blk wx pw 57 #[.int .u32 ((b * 2 + nv : Nat) : Int), .int .i64 (t : Int)] ∧ IsBr br rg s2 wx ∧ Keeps (· = rg) w wx)
        case first =>
          go_region_with (
            go_at_call 22
            refine (HTA.out _ (HR2.out.drewN 1)).mono ?_
            rintro e w3 ⟨rfl, hr3, hk3⟩
            have hk3' := hk3.of_drew
            have hb3 := HB2.out.keeps hk3' hpr
            have hc3 : w3.cell? ⟨pw, 0, none⟩ = some (.int .u32 (b : Int)) := hb3.cell 0
            have hf3 := hb3.frozen 0
            have HB3 := Lib.hid hb3
            have HR3 := Lib.hid hr3
            have HK3 := Lib.hid (HKK.out.trans hk3')
            clear hr3 hk3 hk3' hb3)
          all_goals go_wp2_with fail
          all_goals go_meet
          all_goals
            rw [HVA.out]
            have hkp : Keeps (· = pw) w3 (w3.setCell ⟨pw, 0, none⟩ (.int .u32 ((b * 2 + nv : Nat) : Int))) := (Keeps.refl _ _).setOwn 0 _
            exact ⟨HB3.out.setCell 0 _, HR3.out.low hkp (fun b _ hb e => by have := HPW.out; omega), HK3.out.setCell (p := ⟨pw, 0, none⟩) (.inr HPW.out) _⟩
        case rest =>
          obtain ⟨hb4, hr4, hk4⟩ := hcut
          have HB4 := Lib.hid hb4
          have HR4 := Lib.hid hr4
          have HK4 := Lib.hid hk4
          have hc1 : wc.cell? ⟨pw, 1, none⟩ = some (.int .i64 (t : Int)) := hb4.cell 1
          have hf1 := hb4.frozen 1
          clear hb4 hr4 hk4 HR2 HB2 HKK hc0 HTA
          have HKP : Hid (Keeps (· = pw) wc (wc.setCell ⟨pw, 1, none⟩ (.int .i64 ((t : Int) + 1)))) := (Keeps.refl _ _).setOwn 1 _
          have HB5 : Hid (Blk (wc.setCell ⟨pw, 1, none⟩ (.int .i64 ((t : Int) + 1))) pw 57 #[.int .u32 ((b * 2 + nv : Nat) : Int), .int .i64 ((t + 1 : Nat) : Int)]) := by
            have h1 := HB4.out.setCell 1 (.int .i64 ((t : Int) + 1))
            show Blk _ _ _ _
            simpa using h1
          go_wp2
          refine ⟨⟨t + 1, b * 2 + nv, s2, HB5.out, HNX.out.2, by omega, HR4.out.low HKP.out (fun b _ hb e => by have := HPW.out; omega), HK4.out.setCell (p := ⟨pw, 1, none⟩) (.inr HPW.out) _⟩, ?_⟩
          have h5 : (wc.setCell ⟨pw, 1, none⟩ (.int .i64 ((t : Int) + 1))).cell? ⟨pw, 1, none⟩ = some (.int .i64 ((t + 1 : Nat) : Int)) := HB5.out.cell 1
          rw [h5, hm0]
          simp [intOf]
          omega
      · have hd : decide ((t : Int) ≤ 20) = false := by simp; omega
        have HFA := Lib.hid (fail rg s1 br wr HR.out)
        have HEN : Hid (Tend W s { s1 with ended := true }) := by
          obtain rfl : t = 21 := by omega
          exact HT.out.full HW.out
        go_wp2_with (
          refine HFA.out.mono ?_
          rintro e w2 ⟨rfl, hr2, hk2⟩
          have HR2 := Lib.hid hr2
          have HK2 := Lib.hid hk2
          clear hr2 hk2)
        go_ret
        refine ⟨0, _, rfl, .inr ⟨HEN.out.none_, rfl, HEN.out.at_⟩, HR2.out, HK.out.trans HK2.out⟩
    · have HT := Lib.hid hst
      clear hst
      have HFA := Lib.hid (fail rg s1 br wr HR.out)
      have he1 : s1.ended = true := by obtain ⟨k', e⟩ := HT.out.at_; rw [e]
      have HEN : Hid (Tend W s { s1 with ended := true }) := by
        refine ⟨HT.out.none_, ?_⟩
        obtain ⟨k', e⟩ := HT.out.at_
        exact ⟨k', by rw [e]⟩
      have HEQ := Lib.hid (ended_q rg s1 true br wr HR.out he1)
      clear he1
      have HEND : Hid (∀ w2, IsBr br rg { s1 with ended := true } w2 → Keeps (· = rg) wr w2 → ∃ x s', Ending.returned (.int .i64 0) = Ending.returned (.int .i64 x) ∧ TakeAns W s x s' ∧ IsBr br rg s' w2 ∧ Keeps (· = rg) w w2) := by
        intro w2 g1 g2
        refine ⟨0, _, rfl, .inr ⟨HEN.out.none_, rfl, HEN.out.at_⟩, g1, HK.out.trans g2⟩
      by_cases ht2 : t ≤ 20
      · have hd : decide ((t : Int) ≤ 20) = true := by simp; omega
        go_wp2_with (first
          | (go_at_call 11
             refine HEQ.out.mono ?_
             rintro e w' ⟨rfl, hw⟩
             rw [hw]
             clear hw)
          | (go_at_call 23
             refine HFA.out.mono ?_
             rintro e w2 ⟨rfl, hr2, hk2⟩
             have HR2 := Lib.hid hr2
             have HK2 := Lib.hid hk2
             clear hr2 hk2))
        go_ret
        exact HEND.out _ HR2.out HK2.out
      · have hd : decide ((t : Int) ≤ 20) = false := by simp; omega
        go_wp2_with (
          refine HFA.out.mono ?_
          rintro e w2 ⟨rfl, hr2, hk2⟩
          have HR2 := Lib.hid hr2
          have HK2 := Lib.hid hk2
          clear hr2 hk2)
        go_ret
        exact HEND.out _ HR2.out HK2.out
end Go.Proofs.YtaamnbminmcbpaaDoor.Hu
