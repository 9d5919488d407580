/- Bytes, packed by the one ahead (chain.Put). -/
import Derived.Test.YtnanmenoemajfaaChPk
import Derived.Test.YtnanmenoemajfaaChTP
import Derived.Test.YtnanmenoemajfaaChTO
import Derived.Test.YtnanmenoemajfaaChSp
import Derived.Test.YtnanmenoemajfaaRnTurn
import Derived.Test.YtnanmenoemajfaaItfWr
namespace Go.Proofs.Ytnanmenoemajfaa.Cp
open Go.RowKit Go.Proofs.Ytnanmenoemajfaa.Gen Go.Proofs.Ytnanmenoemajfaa.Wr Go.Proofs.Ytnanmenoemajfaa.It Go.Proofs.Ytnanmenoemajfaa.Ir Go.Proofs.Ytnanmenoemajfaa.Ib Go.Proofs.Ytnanmenoemajfaa.Fq Go.Proofs.Ytnanmenoemajfaa.Fb Go.Proofs.Ytnanmenoemajfaa.Rp Go.Proofs.Ytnanmenoemajfaa.Rs Go.Proofs.Ytnanmenoemajfaa.Cm Go.Proofs.Ytnanmenoemajfaa.Ck Go.Proofs.Ytnanmenoemajfaa.Cq

theorem its_not {w : World} {base g b : Nat} {v : Value} {ys : List Int} {t : TypeId} {cs : Array Value} (h : Ww.IsWr base g v ys w) (hb : Blk w b t cs) (ht : t ≠ 5) (hne : g ≠ b) : ¬ Ww.Its g v b := by
  rintro (rfl | hi)
  · exact hne rfl
  · exact own_ne h.2.2.2.2.2 hb (Ne.symm ht) hi
theorem its_new {w w1 : World} {base g b : Nat} {v : Value} {ys : List Int} (h : Ww.IsWr base g v ys w) (hs : w.heap.size ≤ w1.heap.size) (hb : w1.heap.size ≤ b) : ¬ Ww.Its g v b := by
  rintro (rfl | hi)
  · have := h.lt; omega
  · have := (h.2.2.2.2.2.lt b hi).2; omega

set_option maxHeartbeats 8000000 in
set_option maxRecDepth 100000 in
theorem put_ (B : Option Addr) (n cb m : Nat) (b : List Int) (w : World) (hb : Lies w B b) (hn : b.length = n) (hc : n ≤ cb) (hnb : n ≤ 100000) (hby : ∀ x ∈ b, 0 ≤ x ∧ x < 256) (hm : (Ch.pk b).length = m) :
    Calls Try.prog 7 #[.slice B n cb] w (Own w.heap.size m (Ch.pk b) w) := by
  have HB := Lib.hid hb
  have HN := Lib.hid hn
  have HNB := Lib.hid hnb
  have HBY := Lib.hid hby
  have HM := Lib.hid hm
  have HC := Lib.hid hc
  have HPL : Hid ((Ch.pk b).length ≤ 1000000) := by show _ ≤ _; have := Ch.pk_len hby (by omega); omega
  have hz4 : ∀ w, (zeroValue 44).run Try.prog w = .ok (.agg (us no4)) w := four_zero
  generalize hZ4 : us no4 = Z4 at hz4
  have HZ4 := Lib.hid hZ4
  have hwn : IntKind.u32.wrap (n : Int) = (n : Int) := IntWalk.u32_in _ (by omega)
  clear hb hn hnb hby hm hZ4 hc
  go_enter Try.func7, Try.ntmps7
  go_upto_region 2 with fail
  obtain ⟨G, hG⟩ : ∃ G, w.heap.size = G := ⟨_, rfl⟩
  have HW1 := Lib.hid (Ww.new_of 36 (by decide) w)
  have HK1 : Hid (Keeps (fun _ => False) w (w.alloc (.cells #[.slice none 0 0] 36))) := (Keeps.refl _ _).alloc _
  generalize w.alloc (.cells #[.slice none 0 0] 36) = W1 at HW1 HK1 ⊢
  have HGe := Lib.hid hG
  obtain ⟨bs0, hbs0⟩ : ∃ bs0, bs0 = w.heap.size := ⟨_, rfl⟩
  have HW1b : Hid (Ww.IsWr bs0 G (.slice none 0 0) [] W1) := by show Ww.IsWr _ _ _ _ _; rw [hbs0, ← hG]; exact HW1.out
  have HBS := Lib.hid hbs0
  rw [hG]
  clear hG hbs0 HW1
  go_upto_region 3 with (
    go_at_call 9
    refine (Iw.int G bs0 (.slice none 0 0) [] (n : Int) _ HW1b.out (by simp) (by omega) (by have := HNB.out; omega)).mono ?_
    rintro e w2 hp
    obtain rfl := hp.1
    have HP := Lib.hid hp
    clear hp)
  obtain ⟨_, v1, hw2, hk2, ha2⟩ := HP.out
  rw [List.nil_append] at hw2
  have HW2 := Lib.hid hw2
  have HK2 : Hid (Keeps (fun _ => False) w w2) := Rt.keeps_low HK1.out hk2 (fun y hy => by
    rcases hy with rfl | hy
    · have := HGe.out; omega
    · simp [Value.ownBlock] at hy)
  clear hw2 hk2 ha2 HP HW1b HK1
  by_cases hb0 : b = []
  · subst hb0
    obtain rfl : n = 0 := by have := HN.out; simp at this; omega
    have HPK : Hid (Ch.pk [] = encInt ((0 : Nat) : Int)) := by show Ch.pk [] = _; rw [Ch.pk, if_pos rfl, List.append_nil]; rfl
    have HBT := Lib.hid (Ww.bytes_n G bs0 v1 (encInt ((0 : Nat) : Int)) m w2 (by rw [← HPK.out]; exact HM.out) HW2.out)
    go_wp2_with (
      go_at_call 17
      refine HBT.out.mono ?_
      rintro e w5 ⟨A5, c5, rfl, ho5, hk5⟩
      have HO5 := Lib.hid ho5
      have HK5 := Lib.hid (HK2.out.trans hk5)
      have HS5 := Lib.hid HK2.out.size
      clear ho5 hk5)
    go_ret
    rw [HPK.out]
    exact ⟨A5, c5, rfl, own_base HO5.out HS5.out, HK5.out⟩
  have hn0 : 0 < n := by
    have h1 := HN.out
    have : b.length ≠ 0 := fun h => hb0 (List.eq_nil_of_length_eq_zero h)
    omega
  have hd0 : decide (0 < n) = true := by simpa using hn0
  obtain ⟨E, hE⟩ : ∃ E, Ch.encA b = E := ⟨_, rfl⟩
  have HPK : Hid (Ch.pk b = encInt (n : Int) ++ (Ch.tbA (Ch.tabs b) ++ (wb E.1 ++ E.2))) := by show Ch.pk b = _; rw [Ch.pk, if_neg hb0, hE, HN.out]
  have hlb : b.length ≤ 1000000 := by have := HN.out; have := HNB.out; omega
  have htk := Ch.tabs_ok hlb
  have hgf := Ch.tabs_good HN.out (by have := HNB.out; omega) HBY.out
  have hEi := Ch.encA_in HBY.out hlb
  have hst : stA (Ch.tabs b) n b 0 = Ch.encA b := by rw [stA, Ch.encA, HN.out, Nat.sub_zero]
  rw [hE] at hEi hst
  obtain ⟨hE1, hE2, hE3⟩ := hEi
  have hen := Ch.nst_le b.length
  have HTOF := Lib.hid (fun W (h : Lies W B b) => tablesOf_ B n cb b W HN.out h HC.out (by have := HNB.out; omega) HBY.out)
  obtain ⟨tb, htb⟩ : ∃ tb, Ch.tabs b = tb := ⟨_, rfl⟩
  rw [htb] at HTOF HPK htk hgf hst
  have HTK := Lib.hid htk
  obtain ⟨U, hU⟩ : ∃ U, us E.1 = U := ⟨_, rfl⟩
  have HUI : Hid ((Try.prog.info? 44).map (·.size) = some U.size) := by show _ = _; rw [← hU]; exact four_size hE1.1
  have HU1 : Hid (U.all (·.oneCell') = true) := by show _ = _; rw [← hU]; exact us_one _
  have HUZ : Hid (Z4.size = U.size) := by show _ = _; rw [← hU, ← HZ4.out, us_size, us_size, hE1.1]; rfl
  have HPKC := Lib.hid (fun W sp (h : Lies W B b) (hs : IsF Try.prog 75 65536 pkl W sp (spV tb)) => packed_ B n cb sp b tb W HN.out h HC.out (by have := HNB.out; omega) HBY.out hs hgf.1 hgf.2)
  rw [hst] at HPKC
  unfold PkAns at HPKC
  rw [hU] at HPKC
  have HSPC := Lib.hid (fun W bT (h : IsF Try.prog 5 256 bkl W bT (tabV tb)) => spans_ bT tb W h HTK.out.1)
  have HU := Lib.hid hU
  have HE1 := Lib.hid hE1
  have HE2 : Hid (E.2.length ≤ 2 * n + 16) := by show _ ≤ _; have := HN.out; omega
  have HEB : Hid (∀ x ∈ E.1, x < 4294967296) := fun x hx => by have := (hE1.2 x hx).2; omega
  clear hb0 hE hlb htk hgf hE1 hE2 hE3 hst hen htb hU
  go_upto_region 5 with (
    go_at_call 10
    refine (HTOF.out _ (HB.out.keeps HK2.out (fun _ _ _ => id))).mono ?_
    rintro e w3 ⟨bT, rfl, hf3, hs3, hk3⟩
    have HF3 := Lib.hid hf3
    have HK3 := Lib.hid (HK2.out.trans hk3)
    have HW3 := Lib.hid (HW2.out.keeps hk3 (fun _ _ => id))
    have HBT3 : Hid (w2.heap.size ≤ bT) := hs3
    clear hf3 hs3 hk3 HK2)
  go_upto_region 6 with (first
    | (go_at_call 12
       refine (HSPC.out _ bT HF3.out).mono ?_
       rintro e w4 ⟨sp, rfl, hf4, hs4, hk4⟩
       have HS4 := Lib.hid hf4
       have HF4 := Lib.hid (HF3.out.keeps hk4 id)
       have HK4 := Lib.hid (HK3.out.trans hk4)
       have HW4 := Lib.hid (HW3.out.keeps hk4 (fun _ _ => id))
       clear hf4 hs4 hk4 HK3)
    | (go_at_call 11
       refine (HPKC.out _ sp (HB.out.keeps HK4.out (fun _ _ _ => id)) HS4.out).mono ?_
       rintro e w5 ⟨A5, c5, m5, rfl, hl5, hac5, hfr5, hli5, hk5⟩
       have HL5 := Lib.hid hl5
       have HAC := Lib.hid hac5
       have HFR := Lib.hid hfr5
       have HLI := Lib.hid hli5
       have HK5 := Lib.hid hk5
       clear hl5 hac5 hfr5 hli5 hk5)
    | ((with_reducible refine st_row (Blk.new _ 44 Z4) HUI.out HUZ.out HU1.out ?_ ?_ ?_); rfl; rfl))
  obtain ⟨R6, hR6⟩ : ∃ R6, w5.heap.size = R6 := ⟨_, rfl⟩
  have HR6 : Hid (Blk ((w5.alloc (.cells Z4 44)).setRow w5.heap.size U) w5.heap.size 44 U) := new_put
  have HKc : Hid (Keeps (fun _ => False) w5 ((w5.alloc (.cells Z4 44)).setRow w5.heap.size U)) := Keeps.put_new (Keeps.refl _ _)
  generalize (w5.alloc (.cells Z4 44)).setRow w5.heap.size U = W6 at HR6 HKc ⊢
  have HG6 : Hid (G ≠ R6) := by show G ≠ R6; rw [← hR6]; have := HW4.out.lt; have := HK5.out.size; omega
  rw [hR6] at HR6 ⊢
  have HKd := Lib.hid (HK5.out.trans HKc.out)
  have HW6 := Lib.hid (HW4.out.keeps HKd.out (fun _ _ => id))
  have HF6 := Lib.hid (HF4.out.keeps HKd.out id)
  have HL6 := Lib.hid (HLI.out.keeps HKc.out (fun _ _ _ => id))
  have HK6 := Lib.hid (HK4.out.trans HKd.out)
  have HNI : Hid (∀ bq o, A5 = some ⟨bq, o, none⟩ → ¬ Ww.Its G v1 bq) := fun bq o hA => its_new HW4.out (Nat.le_refl _) (HFR.out bq o hA)
  clear hR6 HKc HKd HK5 HLI HFR HPKC HSPC HTOF HF3 HF4 HS4
  have HTPC := Lib.hid (tput_ bT G bs0 v1 (encInt (n : Int)) tb W6 HF6.out HW6.out (by have := (encInt_len (n : Int)).2; omega) HTK.out.1)
  go_upto_region 7 with (
    go_at_call 13
    refine HTPC.out.mono ?_
    rintro e w7 ⟨rfl, hh7⟩
    have HH7 := Lib.hid hh7
    clear hh7)
  have HR7 : Hid (Blk w7 R6 44 U) := by obtain ⟨_, _, hk, _⟩ := HH7.out; exact HR6.out.keeps hk (its_not HW6.out HR6.out (by decide) HG6.out)
  have HTL : Hid ((encInt (n : Int) ++ Ch.tbA tb).length ≤ 660000) := by
    have h1 := (encInt_len (n : Int)).2
    have h2 := Ch.tbB_len tb 256
    have h3 := (encInt_len (Ch.tbN tb 256 : Int)).2
    show _ ≤ _
    rw [Ch.tbA]
    simp only [List.length_append]
    omega
  have HFP := Lib.hid (hfput G bs0 v1 (encInt (n : Int) ++ Ch.tbA tb) E.1 W6 w7 HH7.out (by have := HTL.out; omega) HE1.out.1 HEB.out)
  rw [HU.out] at HFP
  go_upto_region 8 with (first
    | (go_at_call 14; refine HFP.out.mono ?_; rintro e w8 ⟨rfl, hh8⟩; have HH8 := Lib.hid hh8; clear hh8)
    | ((with_reducible refine ld_row HR7.out Try.underlying44 HUI.out ?_ ?_); rfl))
  obtain ⟨v8, hw8, hk8, ha8⟩ := HH8.out
  have HW8 := Lib.hid hw8
  have HK8 := Lib.hid (Rt.keeps_low HK6.out hk8 (fun y hy => by have := HW6.out.its y hy; have := HBS.out; omega))
  have HL8 := Lib.hid (HL6.out.keeps hk8 (fun bq o hA => HNI.out bq o hA))
  have HTU := Lib.hid (fun W (h : Lies W A5 E.2.reverse) => Rt.turned A5 m5 c5 E.2.reverse W (by rw [List.length_reverse]; exact HL5.out) h (by have := HL5.out; have := HE2.out; have := HNB.out; omega))
  rw [List.reverse_reverse] at HTU
  clear hw8 hk8 ha8 HH7 HR7 HFP HH8 HR6 HF6 HL6 HW6 HK6 HNI HW4 HK4 HTPC
  go_region_with (first
    | (have H1 := HL8
       go_at_call 16
       refine (HTU.out _ (H1.out.keeps ((Keeps.refl (fun _ => False) _).drewN 1) (fun _ _ _ => id))).mono ?_
       rintro e w9 ⟨A9, c9, rfl, ho9, hk9⟩
       have HKn : Hid (Keeps (fun _ => False) w8 w9) := hk9.of_drew
       have HO9 := Lib.hid (Lies.of_own ho9)
       have HA9 : Hid (A9 = none → c9 = 0) := by
         rcases ho9.2 with ⟨h, _⟩ | ⟨g, cap, cur, hv, _⟩
         · injection h with h1 h2 h3
           exact fun _ => h3
         · injection hv with hv
           intro h0
           rw [h0] at hv
           cases hv
       have HW9 := Lib.hid (HW8.out.keeps HKn.out (fun _ _ => id))
       clear ho9 hk9 HL8 H1)
    | (have H1 := HW9
       go_at_call 15
       refine (Ww.put G bs0 v8 (encInt (n : Int) ++ Ch.tbA tb ++ wb E.1) E.2 A9 m5 c9 w9 HL5.out HA9.out H1.out HO9.out (by have h1 := HTL.out; have h3 := wb_len E.1; have h4 := HE1.out.1; have h5 := HL5.out; have h6 := HE2.out; have h7 := HNB.out; simp only [List.length_append] at h1 ⊢; omega)).mono ?_
       rintro e w10 hp
       obtain rfl := hp.1
       have HP10 := Lib.hid hp
       clear hp HW9 H1))
  all_goals
    obtain ⟨_, v10, hw10, hk10, _⟩ := HP10.out
    have HW10 : Hid (Ww.IsWr bs0 G v10 (Ch.pk b) w10) := by show Ww.IsWr _ _ _ _ _; rw [HPK.out]; simp only [List.append_assoc] at hw10 ⊢; exact hw10
    have HK10 := Lib.hid (Rt.keeps_low (HK8.out.trans HKn.out) hk10 (fun y hy => by have := HW8.out.its y hy; have := HBS.out; omega))
    have HBT := Lib.hid (Ww.bytes_n G bs0 v10 (Ch.pk b) m w10 HM.out HW10.out)
    clear hw10 hk10
    go_wp2_with (
      go_at_call 17
      refine HBT.out.mono ?_
      rintro e w11 ⟨A11, c11, rfl, ho11, hk11⟩
      have HO11 := Lib.hid ho11
      have HK11 := Lib.hid (HK10.out.trans hk11)
      clear ho11 hk11)
    go_ret
    exact ⟨A11, c11, rfl, own_base HO11.out HK10.out.size, HK11.out⟩
end Go.Proofs.Ytnanmenoemajfaa.Cp
