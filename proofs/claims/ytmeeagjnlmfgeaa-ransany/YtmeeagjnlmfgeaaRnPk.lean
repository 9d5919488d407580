/- Bytes put by their table (rans.packed). -/
import Derived.Test.YtmeeagjnlmfgeaaRnUn
import Derived.Test.YtmeeagjnlmfgeaaRnTurn
namespace Go.Proofs.Ytmeeagjnlmfgeaa.Rs
open Go.RowKit Go.Proofs.Ytmeeagjnlmfgeaa.Gen Go.Proofs.Ytmeeagjnlmfgeaa.Wr Go.Proofs.Ytmeeagjnlmfgeaa.It Go.Proofs.Ytmeeagjnlmfgeaa.Ir Go.Proofs.Ytmeeagjnlmfgeaa.Ib Go.Proofs.Ytmeeagjnlmfgeaa.Fq Go.Proofs.Ytmeeagjnlmfgeaa.Fb Go.Proofs.Ytmeeagjnlmfgeaa.Rp

/-- What lies where, while bytes are put: OO is the variable of what goes out. -/
structure Pks (TT FF R4 SS OO : Nat) (V ST Z : Array Value) (f : List Nat) (vo : Value) (ys : List Int) (w wr : World) : Prop where
  tab : Blk wr TT 62 V
  fou : Blk wr FF 48 (us f)
  res : Blk wr R4 48 Z
  sta : Blk wr SS 86 ST
  out : Ww.IsWr w.heap.size OO vo ys wr
  keeps : Keeps (fun _ => False) w wr
structure PkAt (w : World) (TT FF R4 SS OO : Nat) : Prop where
  t : w.heap.size ≤ TT
  f : w.heap.size ≤ FF
  r : w.heap.size ≤ R4
  s : w.heap.size ≤ SS
  fr : FF ≠ R4
  ot : OO ≠ TT
  of : OO ≠ FF
  or : OO ≠ R4
  os : OO ≠ SS
section
variable {TT FF R4 SS OO : Nat} {V ST Z : Array Value} {f : List Nat} {vo vo' : Value} {ys ys' : List Int} {w wr w1 : World}
theorem Pks.put (a : PkAt w TT FF R4 SS OO) (h : Pks TT FF R4 SS OO V ST Z f vo ys w wr) (hw : Ww.IsWr w.heap.size OO vo' ys' w1) (k : Keeps (Ww.Its OO vo) wr w1) : Pks TT FF R4 SS OO V ST Z f vo' ys' w w1 := by
  have ho := h.out.2.2.2.2.2
  have hn : ∀ {b t cs}, Blk wr b t cs → t ≠ 5 → OO ≠ b → ¬ Ww.Its OO vo b := by
    intro b t cs hb ht hne hi
    rcases hi with rfl | hi
    · exact hne rfl
    · exact own_ne ho hb (Ne.symm ht) hi
  exact ⟨h.tab.keeps k (hn h.tab (by decide) a.ot), h.fou.keeps k (hn h.fou (by decide) a.of), h.res.keeps k (hn h.res (by decide) a.or), h.sta.keeps k (hn h.sta (by decide) a.os), hw, Rt.keeps_low h.keeps k (fun b hb => h.out.its b hb)⟩
theorem Pks.set {i x : Nat} (a : PkAt w TT FF R4 SS OO) (h : Pks TT FF R4 SS OO V ST Z f vo ys w wr) : Pks TT FF R4 SS OO V ST Z (f.set i x) vo ys w (wr.setCell ⟨FF, i, none⟩ (.int .u32 (x : Int))) := by
  have k : Keeps (· = FF) wr (wr.setCell ⟨FF, i, none⟩ (.int .u32 (x : Int))) := (Keeps.refl _ _).setOwn i _
  have ho := h.out.2.2.2.2.2
  refine ⟨h.tab.keeps k (Blk.ne h.tab h.fou (by decide)), ?_, h.res.keeps k a.fr.symm, h.sta.keeps k (Blk.ne h.sta h.fou (by decide)), h.out.keeps k ?_, h.keeps.setCell (p := ⟨FF, i, none⟩) (.inr a.f) _⟩
  · have := h.fou.setCell i (.int .u32 (x : Int))
    rw [us_set] at this
    exact this
  · rintro b (rfl | hb) e
    · exact a.of e
    · exact own_ne ho h.fou (by decide) (by rw [hb, e])
end
theorem ret_pk {fn : Func} (h : fn.results = #[.cell 4 48, .tmp 5]) (tmps : Array Value) (w : World) (g : Nat) (v : Array Value) (x : Value) (hi : (Try.prog.info? 48).map (·.size) = some v.size)
    (hp : tmps.getD 4 undef = .pointer (some ⟨g, 0, none⟩)) (hq : tmps.getD 5 undef = x) (hb : Blk w g 48 v) :
    (results fn tmps).run Try.prog w = .ok (.tuple #[.agg v, x]) w := by
  rw [results_cell_tmp h, hp, hq]
  simp only [asAddr, Result.andThen, Sem.run_pure]
  rw [run_loadVar_row w g 48 48 v (0, 0) _ hb Try.underlying48 rfl hi]
/-- What packed answers: the states, and what went out, the first first. -/
def PkAns (E : List Nat × List Int) (w : World) (r : Ending) (w' : World) : Prop :=
  ∃ A c n, r = .returned (.tuple #[.agg (us E.1), .slice A n c]) ∧ E.2.length = n ∧ (A = none → c = 0) ∧ (∀ b o, A = some ⟨b, o, none⟩ → w.heap.size ≤ b) ∧ Lies w' A E.2.reverse ∧ Keeps (fun _ => False) w w'
theorem getD_int {l : List Int} {d : Nat} (h : d < l.length) : l.drop d = l.getD d 0 :: l.drop (d + 1) := by
  rw [List.drop_eq_getElem_cons h, List.getD, List.getElem?_eq_getElem h]
  rfl

set_option maxHeartbeats 8000000 in
set_option maxRecDepth 100000 in
theorem packed (B : Option Addr) (n cb : Nat) (b : List Int) (t : List Int) (v : Array Value) (w : World) (hb : Lies w B b) (hn : b.length = n) (hnb : n ≤ 400000) (hv : vs t = v) (ht : Tb t) (hh : ∀ c ∈ b, Has t c) :
    Calls Try.prog 24 #[.slice B n cb, .agg v] w (PkAns (enc t low4 0 b) w) := by
  have HB := Lib.hid hb
  have HN := Lib.hid hn
  have HNB := Lib.hid hnb
  have HTB := Lib.hid ht
  have HHS := Lib.hid hh
  have HV : Hid ((Try.prog.info? 62).map (·.size) = some v.size) := by show _ = _; rw [← hv]; exact tab_size ht.len
  have HVG : Hid (∀ j, j < 256 → v[j]? = some (.int .i64 (t.getD j 0))) := fun j hj => by rw [← hv]; exact vs_get (by rw [ht.len]; exact hj)
  obtain ⟨ST, hST⟩ : ∃ ST, vs (sta t 256) = ST := ⟨_, rfl⟩
  have HSTC := Lib.hid (fun w => starts t v ST w hv hST ht.len ht.fine)
  have HSTG : Hid (∀ j, j < 256 → ST[j]? = some (.int .i64 (t.take j).sum)) := fun j hj => by
    rw [← hST, vs_get (by rw [sta_len]; omega), sta_get _ _ (by omega), if_pos (by omega)]
  have HSTI : Hid ((Try.prog.info? 86).map (·.size) = some ST.size) := by show _ = _; rw [← hST]; exact long_size (sta_len _ _)
  have HST1 : Hid (ST.all (·.oneCell') = true) := by show _ = _; rw [← hST]; exact vs_one _
  have hz : ∀ w, (zeroValue 48).run Try.prog w = .ok (.agg (us no4)) w := four_zero
  have hz2 : ∀ w, (zeroValue 86).run Try.prog w = .ok (.agg (vs (List.replicate 257 0))) w := long_zero
  have HZI := Lib.hid (four_size (l := low4) rfl)
  have HZ1 := Lib.hid (us_one low4)
  generalize hZ : us no4 = Z at hz
  generalize hZ2 : vs (List.replicate 257 0) = Z2 at hz2
  generalize hL4 : us low4 = L4 at HZI HZ1
  have HZS := Lib.hid hZ
  have HL4 := Lib.hid hL4
  have HZL : Hid (Z.size = L4.size) := by show _ = _; rw [← hZ, ← hL4, us_size, us_size]; rfl
  have HZ2 : Hid (Z2.size = ST.size) := by show _ = _; rw [← hZ2, ← hST, vs_size, vs_size, sta_len, List.length_replicate]
  have HNEW := Lib.hid new4
  rw [hL4] at HNEW
  clear hb hn hnb hv ht hh hST hZ hZ2 hL4
  go_enter Try.func24, Try.ntmps24
  go_upto_region 1 with fail
  obtain ⟨TT, hTT⟩ : ∃ TT, w.heap.size = TT := ⟨_, rfl⟩
  obtain ⟨R4, hR4⟩ : ∃ R4, w.heap.size + 1 = R4 := ⟨_, rfl⟩
  generalize hW : (w.alloc (.cells v 62)).alloc (.cells Z 48) = W
  have e1 : (w.alloc (.cells v 62)).heap.size = R4 := by rw [← hR4]; simp
  have HT1 : Hid (Blk W TT 62 v) := by show Blk _ _ _ _; rw [← hW, ← hTT]; exact (Blk.new _ _ _).alloc _
  have HR1 : Hid (Blk W R4 48 Z) := by show Blk _ _ _ _; rw [← hW, ← e1]; exact Blk.new _ _ _
  have HK1 : Hid (Keeps (fun _ => False) w W) := by show Keeps _ _ _; rw [← hW]; exact ((Keeps.refl _ _).alloc _).alloc _
  have HAT := Lib.hid (⟨by omega, by omega⟩ : w.heap.size ≤ TT ∧ w.heap.size ≤ R4)
  rw [hR4, hTT]
  clear hTT hR4 hW e1
  go_upto_region 2 with (first
    | (go_at_call 21; refine (HNEW.out _).mono ?_; rintro e w3 ⟨rfl, hk3⟩; have HK3 := Lib.hid hk3; clear hk3)
    | ((with_reducible refine st_row (Blk.new _ 48 Z) HZI.out HZL.out HZ1.out ?_ ?_ ?_); rfl; rfl))
  go_upto_region 3 with fail
  obtain ⟨FF, hFF⟩ : ∃ FF, w3.heap.size = FF := ⟨_, rfl⟩
  obtain ⟨AB, hAB⟩ : ∃ AB, w3.heap.size + 1 = AB := ⟨_, rfl⟩
  obtain ⟨OO, hOO⟩ : ∃ OO, w3.heap.size + 1 + 1 = OO := ⟨_, rfl⟩
  have HF4 : Hid (Blk ((w3.alloc (.cells Z 48)).setRow w3.heap.size L4) w3.heap.size 48 L4) := new_put
  have HKb : Hid (Keeps (fun _ => False) W ((w3.alloc (.cells Z 48)).setRow w3.heap.size L4)) := Keeps.put_new HK3.out
  have hsz : ((w3.alloc (.cells Z 48)).setRow w3.heap.size L4).heap.size = AB := by rw [← hAB]; simp
  generalize (w3.alloc (.cells Z 48)).setRow w3.heap.size L4 = W4 at HF4 HKb hsz ⊢
  rw [hFF] at HF4
  have HOW := Lib.hid (own_none W4)
  have hsz2 : (W4.alloc (.cells #[] 5)).heap.size = OO := by rw [← hOO]; simp; omega
  have HOB : Hid (Blk ((W4.alloc (.cells #[] 5)).alloc (.cells #[.slice (some ⟨AB, 0, none⟩) 0 0] 22)) OO 22 #[.slice (some ⟨AB, 0, none⟩) 0 0]) := by show Blk _ _ _ _; rw [← hsz2]; exact Blk.new _ _ _
  rw [hsz] at HOW
  rw [hOO, hAB, hFF]
  have HKc : Hid (Keeps (fun _ => False) W4 ((W4.alloc (.cells #[] 5)).alloc (.cells #[.slice (some ⟨AB, 0, none⟩) 0 0] 22))) := ((Keeps.refl _ _).alloc _).alloc _
  have HOW2 := Lib.hid (own_keeps HOW.out ((Keeps.refl (fun _ => False) _).alloc (.cells #[.slice (some ⟨AB, 0, none⟩) 0 0] 22)) (fun _ _ => id))
  generalize (W4.alloc (.cells #[] 5)).alloc (.cells #[.slice (some ⟨AB, 0, none⟩) 0 0] 22) = W5 at HOB HKc HOW2 ⊢
  have HK5 := Lib.hid ((HK1.out.trans HKb.out).trans HKc.out)
  have HT5 := Lib.hid ((HT1.out.keeps HKb.out id).keeps HKc.out id)
  have HR5 := Lib.hid ((HR1.out.keeps HKb.out id).keeps HKc.out id)
  have HF5 := Lib.hid (HF4.out.keeps HKc.out id)
  have HNS : Hid (w.heap.size ≤ FF ∧ w.heap.size ≤ AB ∧ w.heap.size ≤ OO ∧ R4 < FF ∧ TT < FF ∧ FF < OO) := by
    have h1 := HT1.out.lt; have h2 := HR1.out.lt; have h3 := HK3.out.size; have h4 := HK1.out.size
    show _ ∧ _
    omega
  have HIW : Hid (Ww.IsWr w.heap.size OO (.slice (some ⟨AB, 0, none⟩) 0 0) [] W5) :=
    ⟨HNS.out.2.2.1, HK5.out.size, by simp, ⟨_, _, rfl⟩, ⟨22, by decide, HOB.out⟩, own_base HOW2.out HNS.out.2.1⟩
  clear hFF hAB hOO hsz hsz2 HF4 HOW HOB HOW2 HKb HKc HT1 HR1 HK1 HK3
  go_upto_region 4 with (first
    | (go_at_call 43; refine (HSTC.out _).mono ?_; rintro e w6 ⟨rfl, hk6⟩; have HK6 := Lib.hid hk6; clear hk6)
    | ((with_reducible refine ld_row HT5.out Try.underlying62 HV.out ?_ ?_); rfl)
    | ((with_reducible refine st_row (Blk.new _ 86 Z2) HSTI.out HZ2.out HST1.out ?_ ?_ ?_); rfl; rfl))
  obtain ⟨SS, hSS⟩ : ∃ SS, w6.heap.size = SS := ⟨_, rfl⟩
  have HS7 : Hid (Blk ((w6.alloc (.cells Z2 86)).setRow w6.heap.size ST) w6.heap.size 86 ST) := new_put
  have HKd : Hid (Keeps (fun _ => False) W5 ((w6.alloc (.cells Z2 86)).setRow w6.heap.size ST)) := Keeps.put_new HK6.out
  generalize (w6.alloc (.cells Z2 86)).setRow w6.heap.size ST = W7 at HS7 HKd ⊢
  rw [hSS] at HS7 ⊢
  have HAt : Hid (PkAt w TT FF R4 SS OO) := by
    have h1 := HNS.out; have h2 := HAT.out; have h3 := HIW.out.lt; have h4 := HK6.out.size; have h5 := HK5.out.size
    exact ⟨h2.1, h1.1, h2.2, by omega, by omega, by omega, by omega, by omega, by omega⟩
  have HPK : Hid (Pks TT FF R4 SS OO v ST Z low4 (.slice (some ⟨AB, 0, none⟩) 0 0) [] w W7) :=
    ⟨HT5.out.keeps HKd.out id, by rw [HL4.out]; exact HF5.out.keeps HKd.out id, HR5.out.keeps HKd.out id, HS7.out, HIW.out.keeps HKd.out (fun _ _ => id), HK5.out.trans HKd.out⟩
  have hw0 : IntKind.i64.wrap ((n : Int) - 1) = (n : Int) - 1 := IntWalk.i64_in _ (by have := HNB.out; omega)
  clear hSS HT5 HR5 HF5 HS7 HIW HKd HK6 HK5 HNS HAT HSTC HNEW hz hz2
  go_wp2_with fail
  clear hw0
  go_loopw [9, 10, 11] (fun iv' _ _ wr => ∃ (d : Nat) (vo : Value), iv' = .int .i64 ((d : Int) - 1) ∧ d ≤ n ∧ Hid (Pks TT FF R4 SS OO v ST Z (enc t low4 d (b.drop d)).1 vo (enc t low4 d (b.drop d)).2.reverse w wr)) (fun iv' _ _ _ => (intOf iv' + 1).toNat)
  case atStart => exact ⟨n, _, rfl, Nat.le_refl _, by rw [List.drop_of_length_le (by rw [HN.out]; exact Nat.le_refl _)]; exact HPK⟩
  case round =>
    clear HPK
    obtain ⟨d, vo, rfl, hd, HH⟩ := hrel
    by_cases hlt : 0 < d
    · obtain ⟨e, rfl⟩ : ∃ e, d = e + 1 := ⟨d - 1, by omega⟩
      have hei : ((e + 1 : Nat) : Int) - 1 = (e : Int) := by omega
      have hdb : e < b.length := by rw [HN.out]; omega
      obtain ⟨c, hc⟩ : ∃ c, b.getD e 0 = c := ⟨_, rfl⟩
      have hcm : c ∈ b := by rw [← hc]; exact getD_mem hdb
      have hHc := HHS.out c hcm
      obtain ⟨k, hk⟩ : ∃ k : Nat, c = (k : Int) := ⟨c.toNat, by have := hHc.1; omega⟩
      subst hk
      have hk1 : k < 256 := by have := hHc.2.1; omega
      obtain ⟨hp1, hp2, _⟩ := has_part HTB.out hHc
      obtain ⟨F, S, hFS⟩ : ∃ F S, enc t low4 (e + 1) (b.drop (e + 1)) = (F, S) := ⟨_, _, rfl⟩
      have hen := enc_in HTB.out low4_st (b.drop (e + 1)) (e + 1) (fun x hx => HHS.out x (List.mem_of_mem_drop hx))
      have hHH := HH.out
      rw [hFS] at hen hHH
      simp only at hen hHH
      obtain ⟨hSt, hSl, _⟩ := hen
      obtain ⟨i4, hi4⟩ : ∃ i4, e % 4 = i4 := ⟨_, rfl⟩
      have hi4b : i4 < 4 := by omega
      obtain ⟨x, hx⟩ : ∃ x, F.getD (e % 4) 0 = x := ⟨_, rfl⟩
      have hI := hSt.at_ e
      rw [hx] at hI
      obtain ⟨st, hst1⟩ : ∃ st, stt t (k : Int) = st := ⟨_, rfl⟩
      obtain ⟨p, hpe⟩ : ∃ p, prt t (k : Int) = p := ⟨_, rfl⟩
      rw [hst1, hpe] at hp2
      rw [hpe] at hp1
      have hsum : (t.take k).sum = (st : Int) := by rw [← hst1, stt, Int.toNat_natCast]; have := (sum_bound HTB.out.fine HTB.out.len k).1; omega
      have hprt : t.getD k 0 = (p : Int) := by rw [← hpe, prt, Int.toNat_natCast]; have := HTB.out.fine _ (getD_mem (l := t) (d := k) (by rw [HTB.out.len]; exact hk1)); omega
      obtain ⟨z, hz⟩ : ∃ z, push st p x = z := ⟨_, rfl⟩
      obtain ⟨G, hG⟩ : ∃ G, gone p x = G := ⟨_, rfl⟩
      have HNX : Hid (enc t low4 e (b.drop e) = (F.set i4 z, G.reverse ++ S)) := by
        show _ = _
        rw [getD_int hdb, hc, Rp.enc, hFS]
        simp only
        rw [hst1, hpe, hx, hz, hG, hi4]
      obtain ⟨bo, oo, rfl, hcb, hbl⟩ : ∃ bo oo, B = some ⟨bo, oo, none⟩ ∧ w.cell? ⟨bo, oo + e, none⟩ = some (.int .u8 (k : Int)) ∧ bo < w.heap.size := by
        rcases HB.out with h | ⟨bo, oo, hA, hbl, hcl⟩
        · rw [h] at hdb; simp at hdb
        · exact ⟨bo, oo, hA, by rw [hcl e hdb, hc], hbl⟩
      have hcw : wr.cell? ⟨bo, oo + e, none⟩ = some (.int .u8 (k : Int)) := (hHH.keeps.cell (p := ⟨bo, oo + e, none⟩) hbl id).trans hcb
      have hq1 : wr.cell? ⟨FF, i4, none⟩ = some (.int .u32 (x : Int)) := by rw [hHH.fou.cell, us_get (by rw [hSt.1]; exact hi4b), ← hi4, hx]
      have hq2 : wr.cell? ⟨SS, k, none⟩ = some (.int .i64 (st : Int)) := by rw [hHH.sta.cell, HSTG.out k hk1, hsum]
      have hq3 : wr.cell? ⟨TT, k, none⟩ = some (.int .i64 (p : Int)) := by rw [hHH.tab.cell, HVG.out k hk1, hprt]
      have HSP := Lib.hid (fun W (h : Ww.IsWr w.heap.size OO vo S.reverse W) => sput OO w.heap.size vo S.reverse st p x z G W h (by have h1 := HNB.out; have h2 := HN.out; rw [List.length_reverse]; rw [List.length_drop] at hSl; omega) hI hp1 hp2 hz hG)
      have HPW := Lib.hid hHH
      have HSF : Hid (F.length = 4) := hSt.1
      have hm1 : Int.tmod (e : Int) 4 = (i4 : Int) := by rw [Int.tmod_eq_emod_of_nonneg (by omega)]; omega
      have hi40 : (0 : Int) ≤ (i4 : Int) := by omega
      have hi41 : (i4 : Int) < 4 := by omega
      have hk0 : (0 : Int) ≤ (k : Int) := by omega
      have hk61 : (k : Int) < 256 := by omega
      have hk62 : (k : Int) < 257 := by omega
      have he0 : (0 : Int) ≤ (e : Int) := by omega
      have he1 : (e : Int) < (n : Int) := by omega
      have hw1 : IntKind.i64.wrap (i4 : Int) = (i4 : Int) := IntWalk.i64_in _ (by omega)
      have hw3 : IntKind.i64.wrap ((e : Int) - 1) = (e : Int) - 1 := IntWalk.i64_in _ (by have := HNB.out; omega)
      have HED : Hid (e ≤ n) := by show e ≤ n; omega
      rw [hei]
      clear hei hdb hc hcm hHc hk1 hp1 hp2 hFS hHH hSt hSl hi4 hi4b hx hI hst1 hpe hsum hprt hz hG hcb hbl HH
      go_upto_region 8 with fail
      go_region_with (
        go_at_call 10
        refine (HSP.out _ (HPW.out.out.keeps ((Keeps.refl (fun _ => False) _).drewN 1) (fun _ _ => id))).mono ?_
        rintro r1 w3 ⟨rfl, v3, hw3', hk3, hat3⟩
        have hk3' := hk3.of_drew
        have HP3 := Lib.hid (HPW.out.put HAt.out hw3' hk3')
        have hc3 : w3.cell? ⟨FF, i4, none⟩ = some ((us F)[i4]?.getD undef) := by
          rw [HP3.out.fou.cell, us_get (by rw [HSF.out]; omega)]
          rfl
        have hf3 := HP3.out.fou.frozen i4
        clear hw3' hk3 hk3' hat3)
      all_goals go_wp2_with fail
      all_goals
        refine ⟨⟨e, v3, by simp, HED.out, ?_⟩, by simp [intOf]⟩
        rw [HNX.out]
        have h5 := HP3.out.set (i := i4) (x := z) HAt.out
        show Pks _ _ _ _ _ _ _ _ _ _ _ _ _
        simp only [List.reverse_append, List.reverse_reverse]
        exact h5
    · obtain rfl : d = 0 := by omega
      have hge : ¬ ((0 : Int) ≤ ((0 : Nat) : Int) - 1) := by omega
      obtain ⟨F, S, hFS⟩ : ∃ F S, enc t low4 0 b = (F, S) := ⟨_, _, rfl⟩
      have hen := enc_in HTB.out low4_st b 0 HHS.out
      have hHH := HH.out
      rw [List.drop_zero, hFS] at hHH
      rw [hFS] at hen
      simp only at hen hHH
      obtain ⟨fa, fb, fc, fd, rfl⟩ := four hen.1.1
      have HRS : Hid (Blk wr R4 48 (us no4)) := by show Blk _ _ _ _; rw [HZS.out]; exact hHH.res
      obtain ⟨g1, g2, g3, ⟨A, c, hvo⟩, g5, g6⟩ := hHH.out
      obtain ⟨m, hm⟩ : ∃ m, S.reverse.length = m := ⟨_, rfl⟩
      rw [hm] at hvo g6
      subst hvo
      have hco : wr.cell? ⟨OO, 0, none⟩ = some (.slice A m c) := g5.cell
      have HAC : Hid (A = none → c = 0) := by
        rcases g6.2 with ⟨h, _⟩ | ⟨g, cap, cur, hv, _⟩
        · injection h with h1 h2 h3
          exact fun _ => h3
        · injection hv with hv
          intro h0
          rw [h0] at hv
          cases hv
      have HLI := Lib.hid (Lies.of_own g6)
      have HKK := Lib.hid hHH.keeps
      have HML : Hid (S.length = m) := by show S.length = m; rw [← hm]; simp
      have HOWN := Lib.hid g6
      have hc0 : wr.cell? ⟨FF, 0, none⟩ = some (.int .u32 (fa : Int)) := hHH.fou.cell 0
      have hc1 : wr.cell? ⟨FF, 1, none⟩ = some (.int .u32 (fb : Int)) := hHH.fou.cell 1
      have hc2 : wr.cell? ⟨FF, 2, none⟩ = some (.int .u32 (fc : Int)) := hHH.fou.cell 2
      have hc3 : wr.cell? ⟨FF, 3, none⟩ = some (.int .u32 (fd : Int)) := hHH.fou.cell 3
      have hr0 : wr.cell? ⟨R4, 0, none⟩ = some (.int .u32 0) := HRS.out.cell 0
      have hr1 : wr.cell? ⟨R4, 1, none⟩ = some (.int .u32 0) := HRS.out.cell 1
      have hr2 : wr.cell? ⟨R4, 2, none⟩ = some (.int .u32 0) := HRS.out.cell 2
      have hr3 : wr.cell? ⟨R4, 3, none⟩ = some (.int .u32 0) := HRS.out.cell 3
      have hz0 := HRS.out.frozen 0
      have hz1 := HRS.out.frozen 1
      have hz2 := HRS.out.frozen 2
      have hz3 := HRS.out.frozen 3
      have hne : FF ≠ R4 := HAt.out.fr
      have hne2 : R4 ≠ FF := HAt.out.fr.symm
      have hne3 : OO ≠ R4 := HAt.out.or
      have hne4 : R4 ≠ OO := HAt.out.or.symm
      have HFS := Lib.hid hFS
      clear hen hHH g1 g2 g3 g5 g6 hm hFS HH hlt hd
      go_upto_region 9 with fail
      go_region
      all_goals
        go_wp2_with fail
        refine bodyPost_ret (v := .tuple #[.agg (us [fa, fb, fc, fd]), .slice A m c]) (ret_pk rfl _ _ R4 _ _ (four_size rfl) rfl rfl (put4 HRS.out fa fb fc fd)) rfl ?_
        rw [HFS.out]
        have k5 := (keeps4 wr R4 (.int .u32 (fa : Int)) (.int .u32 (fb : Int)) (.int .u32 (fc : Int)) (.int .u32 (fd : Int))).drewN 1
        exact ⟨A, c, m, rfl, HML.out, HAC.out, fun b0 o0 hA => (HOWN.out.lt b0 (by rw [hA]; rfl)).1, HLI.out.keeps k5 (fun b0 o0 hA e => own_ne HOWN.out HRS.out (by decide) (by rw [hA, e]; rfl)), Rt.keeps_low HKK.out k5 (fun y hy => by rw [hy]; exact HAt.out.r)⟩
end Go.Proofs.Ytmeeagjnlmfgeaa.Rs
