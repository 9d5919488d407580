/- Bytes, packed (rans.Put). -/
import Derived.Test.YtmeeagjnlmfgeaaRnPk
import Derived.Test.YtmeeagjnlmfgeaaRnHav
import Derived.Test.YtmeeagjnlmfgeaaFrqCnt
import Derived.Test.YtmeeagjnlmfgeaaItfWr
namespace Go.Proofs.Ytmeeagjnlmfgeaa.Rs
open Go.RowKit Go.Proofs.Ytmeeagjnlmfgeaa.Gen Go.Proofs.Ytmeeagjnlmfgeaa.Wr Go.Proofs.Ytmeeagjnlmfgeaa.It Go.Proofs.Ytmeeagjnlmfgeaa.Ir Go.Proofs.Ytmeeagjnlmfgeaa.Ib Go.Proofs.Ytmeeagjnlmfgeaa.Fq Go.Proofs.Ytmeeagjnlmfgeaa.Fb Go.Proofs.Ytmeeagjnlmfgeaa.Rp

theorem its_not {w : World} {base g b : Nat} {v : Value} {ys : List Int} {t : TypeId} {cs : Array Value} (h : Ww.IsWr base g v ys w) (hb : Blk w b t cs) (ht : t ≠ 5) (hne : g ≠ b) : ¬ Ww.Its g v b := by
  rintro (rfl | hi)
  · exact hne rfl
  · exact own_ne h.2.2.2.2.2 hb (Ne.symm ht) hi
theorem its_new {w w1 : World} {base g b : Nat} {v : Value} {ys : List Int} (h : Ww.IsWr base g v ys w) (hs : w.heap.size ≤ w1.heap.size) (hb : w1.heap.size ≤ b) : ¬ Ww.Its g v b := by
  rintro (rfl | hi)
  · have := h.lt; omega
  · have := (h.2.2.2.2.2.lt b hi).2; omega

set_option maxHeartbeats 8000000 in
set_option maxRecDepth 100000 in
theorem put_ (B : Option Addr) (n cb m : Nat) (b : List Int) (w : World) (hb : Lies w B b) (hn : b.length = n) (hnb : n ≤ 400000) (hby : ∀ x ∈ b, 0 ≤ x ∧ x < 256) (hm : (pk b).length = m) :
    Calls Try.prog 8 #[.slice B n cb] w (Own w.heap.size m (pk b) w) := by
  have HB := Lib.hid hb
  have HN := Lib.hid hn
  have HNB := Lib.hid hnb
  have HBY := Lib.hid hby
  have HM := Lib.hid hm
  have HPL : Hid ((pk b).length ≤ 1000000) := by show _ ≤ _; have := pk_len hby (by omega); omega
  have hz : ∀ w, (zeroValue 62).run Try.prog w = .ok (.agg (vs zs)) w := tab_zero
  have hz4 : ∀ w, (zeroValue 48).run Try.prog w = .ok (.agg (us no4)) w := four_zero
  generalize hZ : vs zs = Z at hz
  generalize hZ4 : us no4 = Z4 at hz4
  have HZ := Lib.hid hZ
  have HZ4 := Lib.hid hZ4
  have hwn : IntKind.u32.wrap (n : Int) = (n : Int) := IntWalk.u32_in _ (by omega)
  clear hb hn hnb hby hm hZ hZ4
  go_enter Try.func8, Try.ntmps8
  go_upto_region 2 with fail
  obtain ⟨G, hG⟩ : ∃ G, w.heap.size = G := ⟨_, rfl⟩
  have HW1 := Lib.hid (Ww.new_of 54 (by decide) w)
  have HK1 : Hid (Keeps (fun _ => False) w (w.alloc (.cells #[.slice none 0 0] 54))) := (Keeps.refl _ _).alloc _
  generalize w.alloc (.cells #[.slice none 0 0] 54) = W1 at HW1 HK1 ⊢
  have HGe := Lib.hid hG
  obtain ⟨bs0, hbs0⟩ : ∃ bs0, bs0 = w.heap.size := ⟨_, rfl⟩
  have HW1b : Hid (Ww.IsWr bs0 G (.slice none 0 0) [] W1) := by show Ww.IsWr _ _ _ _ _; rw [hbs0, ← hG]; exact HW1.out
  have HBS := Lib.hid hbs0
  rw [hG]
  clear hG hbs0 HW1
  go_upto_region 3 with (
    go_at_call 22
    refine (Iw.int G bs0 (.slice none 0 0) [] (n : Int) _ HW1b.out (by simp) (by omega) (by have := HNB.out; omega)).mono ?_
    rintro e w2 hp
    obtain rfl := hp.1
    have HP := Lib.hid hp
    clear hp)
  obtain ⟨_, v1, hw2, hk2, ha2⟩ := HP.out
  rw [List.nil_append] at hw2
  have HW2 := Lib.hid hw2
  have HK2 : Hid (Keeps (fun _ => False) w w2) := Rt.keeps_low HK1.out hk2 (fun y hy => by
    rcases hy with rfl | hy
    · have := HGe.out; omega
    · simp [Value.ownBlock] at hy)
  clear hw2 hk2 ha2 HP HW1b HK1
  have HOFC := Lib.hid (of_ B n cb b w2 HN.out (HB.out.keeps HK2.out (fun _ _ _ => id)) (by have := HNB.out; omega) HBY.out)
  unfold ScalAns at HOFC
  by_cases hb0 : b = []
  · subst hb0
    obtain rfl : n = 0 := by have := HN.out; simp at this; omega
    have hno : ¬ (InR (cnt [] (fun _ => 1) 0) ∧ (cnt [] (fun _ => 1) 0).sum ≠ 0) := by
      rintro ⟨_, h⟩
      apply h
      show zs.sum = 0
      rw [zs]
      simp
    rw [if_neg hno, decide_eq_false hno, HZ.out] at HOFC
    have HZI : Hid ((Try.prog.info? 62).map (·.size) = some Z.size) := by show _ = _; rw [← HZ.out]; exact tab_size zs_len
    have HZ1 : Hid (Z.all (·.oneCell') = true) := by show _ = _; rw [← HZ.out]; exact vs_one _
    have HPK : Hid (pk [] = encInt ((0 : Nat) : Int)) := by show pk [] = _; rw [pk, if_pos rfl, List.append_nil]; rfl
    clear hno
    go_upto_region 9 with (first
      | (go_at_call 23; refine HOFC.out.mono ?_; rintro e w3 ⟨rfl, hk3⟩; have HK3 := Lib.hid hk3; clear hk3)
      | ((with_reducible refine st_row (Blk.new _ 62 Z) HZI.out rfl HZ1.out ?_ ?_ ?_); rfl; rfl))
    have HKb : Hid (Keeps (fun _ => False) w2 ((w3.alloc (.cells Z 62)).setRow w3.heap.size Z)) := Keeps.put_new HK3.out
    generalize (w3.alloc (.cells Z 62)).setRow w3.heap.size Z = W4 at HKb ⊢
    have HW4 := Lib.hid (HW2.out.keeps HKb.out (fun _ _ => id))
    have HBT := Lib.hid (Ww.bytes_n G bs0 v1 (encInt ((0 : Nat) : Int)) m W4 (by rw [← HPK.out]; exact HM.out) HW4.out)
    go_wp2_with (
      go_at_call 18
      refine HBT.out.mono ?_
      rintro e w5 ⟨A5, c5, rfl, ho5, hk5⟩
      have HO5 := Lib.hid ho5
      have HK5 := Lib.hid ((HK2.out.trans HKb.out).trans hk5)
      have HS5 := Lib.hid (HK2.out.trans HKb.out).size
      clear ho5 hk5)
    go_ret
    rw [HPK.out]
    exact ⟨A5, c5, rfl, own_base HO5.out HS5.out, HK5.out⟩
  have hcc : InR (cnt b (fun _ => 1) n) ∧ (cnt b (fun _ => 1) n).sum ≠ 0 := by
    have h1 := HN.out
    have h3 := HNB.out
    rw [← h1]
    exact ⟨cnt1_inR b (by omega), cnt1_sum hb0 HBY.out (by omega)⟩
  have htab : scal (cnt b (fun _ => 1) n) = tabOf b := by rw [← HN.out]; rfl
  rw [if_pos hcc, decide_eq_true hcc, htab] at HOFC
  have HTb := Lib.hid (tabOf_tb (b := b) (by have := HN.out; have := HNB.out; omega))
  have HHs := Lib.hid (tabOf_has (b := b) (by have := HN.out; have := HNB.out; omega) HBY.out)
  obtain ⟨t, ht⟩ : ∃ t, tabOf b = t := ⟨_, rfl⟩
  obtain ⟨E, hE⟩ : ∃ E, Rp.enc t low4 0 b = E := ⟨_, rfl⟩
  have HPK : Hid (pk b = encInt (n : Int) ++ (tabB t ++ (wb E.1 ++ E.2))) := by show pk b = _; rw [pk, if_neg hb0, ht, hE, HN.out]
  rw [ht] at HOFC HTb HHs
  have hEi := enc_in HTb.out low4_st b 0 HHs.out
  rw [hE] at hEi
  obtain ⟨hE1, hE2, hE3⟩ := hEi
  obtain ⟨V, hV⟩ : ∃ V, vs t = V := ⟨_, rfl⟩
  rw [hV] at HOFC
  have HVI : Hid ((Try.prog.info? 62).map (·.size) = some V.size) := by show _ = _; rw [← hV]; exact tab_size HTb.out.len
  have HV1 : Hid (V.all (·.oneCell') = true) := by show _ = _; rw [← hV]; exact vs_one _
  have HVZ : Hid (Z.size = V.size) := by show _ = _; rw [← hV, ← HZ.out, vs_size, vs_size, HTb.out.len, zs_len]
  obtain ⟨U, hU⟩ : ∃ U, us E.1 = U := ⟨_, rfl⟩
  have HUI : Hid ((Try.prog.info? 48).map (·.size) = some U.size) := by show _ = _; rw [← hU]; exact four_size hE1.1
  have HU1 : Hid (U.all (·.oneCell') = true) := by show _ = _; rw [← hU]; exact us_one _
  have HUZ : Hid (Z4.size = U.size) := by show _ = _; rw [← hU, ← HZ4.out, us_size, us_size, hE1.1]; rfl
  have HPKC := Lib.hid (fun W (h : Lies W B b) => packed B n cb b t V W h HN.out HNB.out hV HTb.out HHs.out)
  rw [hE] at HPKC
  unfold PkAns at HPKC
  rw [hU] at HPKC
  have HV := Lib.hid hV
  have HU := Lib.hid hU
  have HE1 := Lib.hid hE1
  have HE2 : Hid (E.2.length ≤ 2 * n) := by show _ ≤ _; rw [← HN.out]; exact hE2
  have HEB : Hid (∀ x ∈ E.1, x < 4294967296) := fun x hx => by have := (hE1.2 x hx).2; omega
  clear hcc htab ht hE hE1 hE2 hE3 hV hU hb0
  go_upto_region 5 with (first
    | (go_at_call 23; refine HOFC.out.mono ?_; rintro e w3 ⟨rfl, hk3⟩; have HK3 := Lib.hid hk3; clear hk3)
    | ((with_reducible refine st_row (Blk.new _ 62 Z) HVI.out HVZ.out HV1.out ?_ ?_ ?_); rfl; rfl))
  obtain ⟨T4, hT4⟩ : ∃ T4, w3.heap.size = T4 := ⟨_, rfl⟩
  have HT4 : Hid (Blk ((w3.alloc (.cells Z 62)).setRow w3.heap.size V) w3.heap.size 62 V) := new_put
  have HKb : Hid (Keeps (fun _ => False) w2 ((w3.alloc (.cells Z 62)).setRow w3.heap.size V)) := Keeps.put_new HK3.out
  generalize (w3.alloc (.cells Z 62)).setRow w3.heap.size V = W4 at HT4 HKb ⊢
  have HG4 : Hid (G ≠ T4) := by show G ≠ T4; rw [← hT4]; have := HW2.out.lt; have := HK3.out.size; omega
  rw [hT4] at HT4 ⊢
  have HW4 := Lib.hid (HW2.out.keeps HKb.out (fun _ _ => id))
  have HK4 := Lib.hid (HK2.out.trans HKb.out)
  clear hT4 HKb HK3 HW2 HK2 HOFC
  go_upto_region 6 with (first
    | (go_at_call 24; refine (HPKC.out _ (HB.out.keeps HK4.out (fun _ _ _ => id))).mono ?_; rintro e w5 ⟨A5, c5, m5, rfl, hl5, hac5, hfr5, hli5, hk5⟩; have HL5 := Lib.hid hl5; have HAC := Lib.hid hac5; have HFR := Lib.hid hfr5; have HLI := Lib.hid hli5; have HK5 := Lib.hid hk5; clear hl5 hac5 hfr5 hli5 hk5)
    | ((with_reducible refine ld_row HT4.out Try.underlying62 HVI.out ?_ ?_); rfl)
    | ((with_reducible refine st_row (Blk.new _ 48 Z4) HUI.out HUZ.out HU1.out ?_ ?_ ?_); rfl; rfl))
  obtain ⟨R6, hR6⟩ : ∃ R6, w5.heap.size = R6 := ⟨_, rfl⟩
  have HR6 : Hid (Blk ((w5.alloc (.cells Z4 48)).setRow w5.heap.size U) w5.heap.size 48 U) := new_put
  have HKc : Hid (Keeps (fun _ => False) w5 ((w5.alloc (.cells Z4 48)).setRow w5.heap.size U)) := Keeps.put_new (Keeps.refl _ _)
  generalize (w5.alloc (.cells Z4 48)).setRow w5.heap.size U = W6 at HR6 HKc ⊢
  have HG6 : Hid (G ≠ R6) := by show G ≠ R6; rw [← hR6]; have := HW4.out.lt; have := HK5.out.size; omega
  rw [hR6] at HR6 ⊢
  have HKd := Lib.hid (HK5.out.trans HKc.out)
  have HW6 := Lib.hid (HW4.out.keeps HKd.out (fun _ _ => id))
  have HT6 := Lib.hid (HT4.out.keeps HKd.out id)
  have HL6 := Lib.hid (HLI.out.keeps HKc.out (fun _ _ _ => id))
  have HK6 := Lib.hid (HK4.out.trans HKd.out)
  have HNI : Hid (∀ bq o, A5 = some ⟨bq, o, none⟩ → ¬ Ww.Its G v1 bq) := fun bq o hA => its_new HW4.out (Nat.le_refl _) (HFR.out bq o hA)
  have HS6 : Hid (W4.heap.size ≤ W6.heap.size) := HKd.out.size
  clear hR6 HKc HKd HK5 HLI HT4 HFR HPKC
  go_upto_region 7 with (first
    | (go_at_call 25; refine (hput_ok G bs0 v1 (encInt (n : Int)) t V W6 HW6.out (by have := (encInt_len (n : Int)).2; omega) HTb.out.len HV.out HTb.out.fine HTb.out.sum).mono ?_; rintro e w7 ⟨rfl, hh7⟩; have HH7 := Lib.hid hh7; clear hh7)
    | ((with_reducible refine ld_row HT6.out Try.underlying62 HVI.out ?_ ?_); rfl))
  have HR7 : Hid (Blk w7 R6 48 U) := by obtain ⟨_, _, hk, _⟩ := HH7.out; exact HR6.out.keeps hk (its_not HW6.out HR6.out (by decide) HG6.out)
  have HFP := Lib.hid (hfput G bs0 v1 (encInt (n : Int) ++ tabB t) E.1 W6 w7 HH7.out (by have := (encInt_len (n : Int)).2; have := tabB_len t; rw [List.length_append]; omega) HE1.out.1 HEB.out)
  rw [HU.out] at HFP
  go_upto_region 8 with (first
    | (go_at_call 17; refine HFP.out.mono ?_; rintro e w8 ⟨rfl, hh8⟩; have HH8 := Lib.hid hh8; clear hh8)
    | ((with_reducible refine ld_row HR7.out Try.underlying48 HUI.out ?_ ?_); rfl))
  obtain ⟨v8, hw8, hk8, ha8⟩ := HH8.out
  have HW8 := Lib.hid hw8
  have HK8 := Lib.hid (Rt.keeps_low HK6.out hk8 (fun y hy => by have := HW6.out.its y hy; have := HBS.out; omega))
  have HL8 := Lib.hid (HL6.out.keeps hk8 (fun bq o hA => HNI.out bq o hA))
  have HTU := Lib.hid (fun W (h : Lies W A5 E.2.reverse) => Rt.turned A5 m5 c5 E.2.reverse W (by rw [List.length_reverse]; exact HL5.out) h (by have := HL5.out; have := HE2.out; have := HNB.out; omega))
  rw [List.reverse_reverse] at HTU
  clear hw8 hk8 ha8 HH7 HR7 HFP HH8 HR6 HT6 HL6 HW6 HK6 HNI HW4 HK4
  go_region_with (first
    | (have H1 := HL8
       go_at_call 13
       refine (HTU.out _ (H1.out.keeps ((Keeps.refl (fun _ => False) _).drewN 1) (fun _ _ _ => id))).mono ?_
       rintro e w9 ⟨A9, c9, rfl, ho9, hk9⟩
       have HKn : Hid (Keeps (fun _ => False) w8 w9) := hk9.of_drew
       have HO9 := Lib.hid (Lies.of_own ho9)
       have HA9 : Hid (A9 = none → c9 = 0) := by
         rcases ho9.2 with ⟨h, _⟩ | ⟨g, cap, cur, hv, _⟩
         · injection h with h1 h2 h3
           exact fun _ => h3
         · injection hv with hv
           intro h0
           rw [h0] at hv
           cases hv
       have HW9 := Lib.hid (HW8.out.keeps HKn.out (fun _ _ => id))
       clear ho9 hk9 HL8 H1)
    | (have H1 := HW9
       go_at_call 26
       refine (Ww.put G bs0 v8 (encInt (n : Int) ++ tabB t ++ wb E.1) E.2 A9 m5 c9 w9 HL5.out HA9.out H1.out HO9.out (by have h1 := (encInt_len (n : Int)).2; have h2 := tabB_len t; have h3 := wb_len E.1; have h4 := HE1.out.1; have h5 := HL5.out; have h6 := HE2.out; have h7 := HNB.out; simp only [List.length_append]; omega)).mono ?_
       rintro e w10 hp
       obtain rfl := hp.1
       have HP10 := Lib.hid hp
       clear hp HW9 H1))
  all_goals
    obtain ⟨_, v10, hw10, hk10, _⟩ := HP10.out
    have HW10 : Hid (Ww.IsWr bs0 G v10 (pk b) w10) := by show Ww.IsWr _ _ _ _ _; rw [HPK.out]; simp only [List.append_assoc] at hw10 ⊢; exact hw10
    have HK10 := Lib.hid (Rt.keeps_low (HK8.out.trans HKn.out) hk10 (fun y hy => by have := HW8.out.its y hy; have := HBS.out; omega))
    have HBT := Lib.hid (Ww.bytes_n G bs0 v10 (pk b) m w10 HM.out HW10.out)
    clear hw10 hk10
    go_wp2_with (
      go_at_call 18
      refine HBT.out.mono ?_
      rintro e w11 ⟨A11, c11, rfl, ho11, hk11⟩
      have HO11 := Lib.hid ho11
      have HK11 := Lib.hid (HK10.out.trans hk11)
      clear ho11 hk11)
    go_ret
    exact ⟨A11, c11, rfl, own_base HO11.out HK10.out.size, HK11.out⟩
end Go.Proofs.Ytmeeagjnlmfgeaa.Rs
