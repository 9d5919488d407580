/- Awake, the fixed fact of layer 6's statements, answers true; nothing that was there turns. No conditions. -/
import Derived.Test.YtjidgiobnlolpaaFrqCnt
namespace Go.Proofs.Ytjidgiobnlolpaa.Aw
open Go.RowKit Go.Proofs.Ytjidgiobnlolpaa.Gen Go.Proofs.Ytjidgiobnlolpaa.Fq

theorem seven_sum : (cnt [7, 7] (fun _ => 1) 2).sum = 2 := by decide +kernel
theorem seven_pts : (pts (cnt [7, 7] (fun _ => 1) 2)).sum = 4096 := by decide +kernel
theorem seven_at : (pts (cnt [7, 7] (fun _ => 1) 2)).getD 7 0 = 4096 := by decide +kernel
theorem seven_in : InR (cnt [7, 7] (fun _ => 1) 2) := cnt_inR _ _ (fun _ => by omega) 2 (by omega)
theorem seven_ok : InR (cnt [7, 7] (fun _ => 1) 2) ∧ (cnt [7, 7] (fun _ => 1) 2).sum ≠ 0 := ⟨seven_in, by rw [seven_sum]; decide⟩
theorem seven_scal : (scal (cnt [7, 7] (fun _ => 1) 2)).getD 7 0 = 4096 := by
  rw [scal, seven_pts, if_neg (by omega)]
  exact seven_at
theorem chk_scal {c : List Int} (hc : c.length = 256) (hr : InR c) : chk (scal c) = 0 := by
  obtain ⟨_, h2, h3⟩ := scal_ok hc hr
  rw [chk, if_pos h2, if_pos h3]

theorem awake (w : World) : Calls Try.prog 8 #[] w fun r w' => r = .returned (.bool true) ∧ Below w.heap.size w w' := by
  have hcl := cnt_len [7, 7] (fun _ => 1) 2
  obtain ⟨t, ht⟩ : ∃ t, scal (cnt [7, 7] (fun _ => 1) 2) = t := ⟨_, rfl⟩
  have HT7 : Hid (t.getD 7 0 = 4096) := by show _ = _; rw [← ht]; exact seven_scal
  have HTL : Hid (t.length = 256) := by show _ = _; rw [← ht]; exact (scal_ok hcl seven_in).1
  have HTC : Hid (chk t = 0) := by show _ = _; rw [← ht]; exact chk_scal hcl seven_in
  obtain ⟨v, hv⟩ : ∃ v, vs t = v := ⟨_, rfl⟩
  have HV := Lib.hid hv
  have HVI : Hid ((Try.prog.info? 27).map (·.size) = some v.size) := by show _ = _; rw [← hv]; exact tab_size HTL.out
  have HV1 : Hid (v.all (·.oneCell') = true) := by show _ = _; rw [← hv]; exact vs_one _
  have HZV : Hid ((vs zs).size = v.size) := by show _ = _; rw [← hv, vs_size, vs_size, zs_len, HTL.out]
  have hof : ∀ w1 A, Lies w1 A [7, 7] → Calls Try.prog 13 #[.slice A 2 2] w1 fun r w' => r = .returned (.tuple #[.agg v, .bool true]) ∧ Keeps (fun _ => False) w1 w' := by
    intro w1 A hl
    refine (of_ A 2 2 [7, 7] w1 rfl hl (by omega) (by decide)).mono fun r w' ⟨h1, h2⟩ => ⟨?_, h2⟩
    rw [h1, if_pos seven_ok, decide_eq_true seven_ok, ht, hv]
  have hchk : ∀ w1, Calls Try.prog 12 #[.agg v] w1 fun r w' => r = .returned (.int .i64 0) ∧ w' = w1.alloc (.cells v 27) := by
    intro w1
    have := check t w1 HTL.out
    rw [hv, HTC.out] at this
    exact this
  have HOf := Lib.hid hof
  have HChk := Lib.hid hchk
  have hz : ∀ w, (zeroValue 27).run Try.prog w = .ok (.agg (vs zs)) w := tab_zero
  generalize hZ : vs zs = Z at hz HZV
  have HV7 : Hid (v[7]? = some (.int .i64 4096)) := by show _ = _; rw [← hv, vs_get (by rw [HTL.out]; omega), HT7.out]
  clear hcl ht hv hof hchk hZ HT7
  go_enter Try.func8, Try.ntmps8
  go_wp2_with fail
  have hl : Lies (w.alloc (.cells #[.int .u8 7, .int .u8 7] 5)) (some ⟨w.heap.size, 0, none⟩) [7, 7] := by
    refine .inr ⟨_, _, rfl, by simp, ?_⟩
    intro i hi
    rw [(Blk.new w 5 #[.int .u8 7, .int .u8 7]).cell]
    have : i = 0 ∨ i = 1 := by simp at hi; omega
    rcases this with rfl | rfl <;> rfl
  refine (HOf.out _ _ hl).mono ?_
  rintro e w1 ⟨rfl, hk⟩
  have HK : Hid (Keeps (fun _ => False) w w1) := ((Keeps.refl _ _).alloc _).trans hk
  clear hk hl
  go_upto_region 2 with ((with_reducible refine st_row (Blk.new w1 27 Z) HVI.out HZV.out HV1.out ?_ ?_ ?_); rfl; rfl)
  generalize hW : (w1.alloc (.cells Z 27)).setRow w1.heap.size v = W
  obtain ⟨T, hT⟩ : ∃ T, w1.heap.size = T := ⟨_, rfl⟩
  have hb : Blk W T 27 v := by rw [← hW, ← hT]; exact Blk.setRow (Blk.new _ _ _) _
  have HKW : Hid (Keeps (fun _ => False) w W) := by show Keeps _ _ _; rw [← hW]; exact Keeps.setRow (HK.out.alloc _) (.inr HK.out.size) _
  have hc : W.cell? ⟨T, 7, none⟩ = some (.int .i64 4096) := by rw [hb.cell, HV7.out]
  have HB := Lib.hid hb
  rw [hT]
  clear hb hW hT hz
  go_wp2_with (first
    | (go_at_call 12; refine (HChk.out _).mono ?_; rintro e w2 ⟨rfl, rfl⟩)
    | ((with_reducible refine ld_row_g HB.out Try.underlying27 HVI.out ?_ ?_ ?_); rfl; rfl))
  go_ret
  exact ⟨rfl, (HKW.out.alloc _).below (Nat.le_refl _) (fun _ h => h.elim)⟩
end Go.Proofs.Ytjidgiobnlolpaa.Aw
