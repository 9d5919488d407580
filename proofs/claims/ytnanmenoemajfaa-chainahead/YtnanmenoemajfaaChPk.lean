/- Bytes put by their pairs' parts (chain.packed). -/
import Derived.Test.YtnanmenoemajfaaChTT
import Derived.Test.YtnanmenoemajfaaChFr
import Derived.Deep.RegionHeld3
namespace Go.Proofs.Ytnanmenoemajfaa.Cq
open Go.RowKit Go.Proofs.Ytnanmenoemajfaa.Gen Go.Proofs.Ytnanmenoemajfaa.Wr Go.Proofs.Ytnanmenoemajfaa.It Go.Proofs.Ytnanmenoemajfaa.Ir Go.Proofs.Ytnanmenoemajfaa.Ib Go.Proofs.Ytnanmenoemajfaa.Fq Go.Proofs.Ytnanmenoemajfaa.Fb Go.Proofs.Ytnanmenoemajfaa.Rp Go.Proofs.Ytnanmenoemajfaa.Rs Go.Proofs.Ytnanmenoemajfaa.Ch Go.Proofs.Ytnanmenoemajfaa.Cm Go.Proofs.Ytnanmenoemajfaa.Ck

/-- What lies where, while bytes are put: OO is the variable of what goes out. -/
structure Cks (QQ FF R4 OO sp : Nat) (QS Z : Array Value) (val : Nat → Option Value) (f : List Nat) (vo : Value) (ys : List Int) (w wr : World) : Prop where
  qua : Blk wr QQ 79 QS
  fou : Blk wr FF 44 (us f)
  res : Blk wr R4 44 Z
  map : IsF Try.prog 75 65536 pkl wr sp val
  out : Ww.IsWr w.heap.size OO vo ys wr
  keeps : Keeps (fun _ => False) w wr
structure CkAt (w : World) (QQ FF R4 OO sp : Nat) : Prop where
  s : sp < w.heap.size
  q : w.heap.size ≤ QQ
  f : w.heap.size ≤ FF
  r : w.heap.size ≤ R4
  fr : FF ≠ R4
  oq : OO ≠ QQ
  of : OO ≠ FF
  or : OO ≠ R4
section
variable {QQ FF R4 OO sp : Nat} {QS Z : Array Value} {val : Nat → Option Value} {f : List Nat} {vo vo' : Value} {ys ys' : List Int} {w wr w1 : World}
theorem Cks.still (h : Cks QQ FF R4 OO sp QS Z val f vo ys w wr) (k : Keeps (fun _ => False) wr w1) : Cks QQ FF R4 OO sp QS Z val f vo ys w w1 :=
  ⟨h.qua.keeps k id, h.fou.keeps k id, h.res.keeps k id, h.map.keeps k id, h.out.keeps k (fun _ _ => id), h.keeps.trans k⟩
theorem Cks.put (a : CkAt w QQ FF R4 OO sp) (h : Cks QQ FF R4 OO sp QS Z val f vo ys w wr) (hw : Ww.IsWr w.heap.size OO vo' ys' w1) (k : Keeps (Ww.Its OO vo) wr w1) : Cks QQ FF R4 OO sp QS Z val f vo' ys' w w1 := by
  have ho := h.out.2.2.2.2.2
  have hn : ∀ {b t cs}, Blk wr b t cs → t ≠ 5 → OO ≠ b → ¬ Ww.Its OO vo b := by
    intro b t cs hb ht hne hi
    rcases hi with rfl | hi
    · exact hne rfl
    · exact own_ne ho hb (Ne.symm ht) hi
  exact ⟨h.qua.keeps k (hn h.qua (by decide) a.oq), h.fou.keeps k (hn h.fou (by decide) a.of), h.res.keeps k (hn h.res (by decide) a.or), h.map.keeps k (its_map h.out h.map), hw, keeps_low h.keeps k (fun b hb => h.out.its b hb)⟩
theorem Cks.set {i x : Nat} (a : CkAt w QQ FF R4 OO sp) (h : Cks QQ FF R4 OO sp QS Z val f vo ys w wr) : Cks QQ FF R4 OO sp QS Z val (f.set i x) vo ys w (wr.setCell ⟨FF, i, none⟩ (.int .u32 (x : Int))) := by
  have k : Keeps (· = FF) wr (wr.setCell ⟨FF, i, none⟩ (.int .u32 (x : Int))) := (Keeps.refl _ _).setOwn i _
  have ho := h.out.2.2.2.2.2
  refine ⟨h.qua.keeps k (Blk.ne h.qua h.fou (by decide)), ?_, h.res.keeps k a.fr.symm, h.map.keeps k (fun e => h.map.ne_blk h.fou e.symm), h.out.keeps k ?_, h.keeps.setCell (p := ⟨FF, i, none⟩) (.inr a.f) _⟩
  · have := h.fou.setCell i (.int .u32 (x : Int))
    rw [us_set] at this
    exact this
  · rintro b (rfl | hb) e
    · exact a.of e
    · exact own_ne ho h.fou (by decide) (by rw [hb, e])
end
/-- The states and what went out, of the steps from t on. -/
def stA (tb : Nat → Option (List Int)) (n : Nat) (xs : List Int) (t : Nat) : List Nat × List Int := encC (tt tb) n xs low4 (nst n - t) t
theorem stA_skip {tb : Nat → Option (List Int)} {n t : Nat} {xs : List Int} (ht : t < nst n) (h : ¬ Val n t) : stA tb n xs t = stA tb n xs (t + 1) := by
  unfold stA
  rw [show nst n - t = (nst n - (t + 1)) + 1 by omega, encC_skip h]
theorem stA_end (tb : Nat → Option (List Int)) (n : Nat) (xs : List Int) : stA tb n xs (nst n) = (low4, []) := by
  unfold stA
  rw [Nat.sub_self, encC]
theorem zero_q (w : World) : ∃ Z : Array Value, Z.size = 4 ∧ ∀ w, (zeroValue 79).run Try.prog w = .ok (.agg Z) w := by
  have h : (Try.prog.info? 79).map (fun i => (i.zero, i.size)) = some (some (.agg #[.slice none 0 0, .slice none 0 0, .slice none 0 0, .slice none 0 0]), 4) := by kernel_rfl
  exact ⟨_, rfl, fun w => (zero_of_info h).1 w⟩
theorem zero_span (w : World) : (zeroValue 82).run Try.prog w = .ok (.agg #[.int .i64 0, .int .i64 0]) w := by kernel_rfl

set_option maxHeartbeats 8000000 in
set_option maxRecDepth 100000 in
theorem packed_ (A : Option Addr) (n c sp : Nat) (xs : List Int) (tb : Nat → Option (List Int)) (w : World) (hx : xs.length = n) (hl : Lies w A xs) (hc : n ≤ c) (hn : n ≤ 400000) (hb : ∀ x ∈ xs, 0 ≤ x ∧ x < 256) (hs : IsF Try.prog 75 65536 pkl w sp (spV tb)) (hg : Ch.Good (tt tb) n xs) (hf : Ch.Full tb n xs) :
    Calls Try.prog 11 #[.slice A n c, .map (some sp)] w (PkAns (stA tb n xs 0) w) := by
  have HX := Lib.hid hx
  have HL := Lib.hid hl
  have HC := Lib.hid hc
  have HN := Lib.hid hn
  have HB := Lib.hid hb
  have HSP := Lib.hid hs
  have HGD := Lib.hid hg
  have HFU := Lib.hid hf
  have hz : ∀ w, (zeroValue 44).run Try.prog w = .ok (.agg (us no4)) w := four_zero
  obtain ⟨Z5, hZ5, hz5⟩ := zero_q w
  have hzs : ∀ w, (zeroValue 82).run Try.prog w = .ok (.agg #[.int .i64 0, .int .i64 0]) w := zero_span
  have HZI := Lib.hid (four_size (l := low4) rfl)
  have HZ1 := Lib.hid (us_one low4)
  generalize hZ : us no4 = Z at hz
  generalize hL4 : us low4 = L4 at HZI HZ1
  have HZS := Lib.hid hZ
  have HL4 := Lib.hid hL4
  have HZL : Hid (Z.size = L4.size) := by show _ = _; rw [← hZ, ← hL4, us_size, us_size]; rfl
  have HNEW := Lib.hid new4
  rw [hL4] at HNEW
  obtain ⟨QS, hQS⟩ : ∃ QS, qs A n c = QS := ⟨_, rfl⟩
  have HQC := Lib.hid (fun W => quarters_ A n c W hc (by omega))
  rw [hQS] at HQC
  have HQG : Hid (∀ i, i < 4 → QS[i]? = some (qsl A n c i)) := by
    refine Lib.hid fun i hi => ?_
    rw [← hQS]
    exact qs_get hi
  have HQI : Hid ((Try.prog.info? 79).map (·.size) = some QS.size) := by show _ = _; rw [← hQS]; exact qs_info A n c
  have HQ1 : Hid (QS.all (·.oneCell') = true) := by show _ = _; rw [← hQS]; exact qs_one A n c
  have HQZ : Hid (Z5.size = QS.size) := by show _ = _; rw [hZ5, ← hQS]; rfl
  clear hx hl hc hn hb hs hg hf hZ5 hZ hL4 hQS
  go_enter Try.func11, Try.ntmps11
  go_upto_region 1 with fail
  obtain ⟨R4, hR4⟩ : ∃ R4, w.heap.size = R4 := ⟨_, rfl⟩
  have HR1 : Hid (Blk (w.alloc (.cells Z 44)) w.heap.size 44 Z) := Blk.new _ _ _
  have HK1 : Hid (Keeps (fun _ => False) w (w.alloc (.cells Z 44))) := (Keeps.refl _ _).alloc _
  generalize w.alloc (.cells Z 44) = W at HR1 HK1 ⊢
  rw [hR4] at HR1 ⊢
  have HRE := Lib.hid hR4
  clear hR4
  go_upto_region 2 with (first
    | (go_at_call 24; refine (HNEW.out _).mono ?_; rintro e w3 ⟨rfl, hk3⟩; have HK3 := Lib.hid hk3; clear hk3)
    | ((with_reducible refine st_row (Blk.new _ 44 Z) HZI.out HZL.out HZ1.out ?_ ?_ ?_); rfl; rfl))
  go_upto_region 3 with fail
  obtain ⟨FF, hFF⟩ : ∃ FF, w3.heap.size = FF := ⟨_, rfl⟩
  obtain ⟨AB, hAB⟩ : ∃ AB, w3.heap.size + 1 = AB := ⟨_, rfl⟩
  obtain ⟨OO, hOO⟩ : ∃ OO, w3.heap.size + 1 + 1 = OO := ⟨_, rfl⟩
  have HF4 : Hid (Blk ((w3.alloc (.cells Z 44)).setRow w3.heap.size L4) w3.heap.size 44 L4) := new_put
  have HKb : Hid (Keeps (fun _ => False) W ((w3.alloc (.cells Z 44)).setRow w3.heap.size L4)) := Keeps.put_new HK3.out
  have hsz : ((w3.alloc (.cells Z 44)).setRow w3.heap.size L4).heap.size = AB := by rw [← hAB]; simp
  generalize (w3.alloc (.cells Z 44)).setRow w3.heap.size L4 = W4 at HF4 HKb hsz ⊢
  rw [hFF] at HF4
  have HOW := Lib.hid (own_none W4)
  have hsz2 : (W4.alloc (.cells #[] 5)).heap.size = OO := by rw [← hOO]; simp; omega
  have HOB : Hid (Blk ((W4.alloc (.cells #[] 5)).alloc (.cells #[.slice (some ⟨AB, 0, none⟩) 0 0] 22)) OO 22 #[.slice (some ⟨AB, 0, none⟩) 0 0]) := by show Blk _ _ _ _; rw [← hsz2]; exact Blk.new _ _ _
  rw [hsz] at HOW
  rw [hOO, hAB, hFF]
  have HKc : Hid (Keeps (fun _ => False) W4 ((W4.alloc (.cells #[] 5)).alloc (.cells #[.slice (some ⟨AB, 0, none⟩) 0 0] 22))) := ((Keeps.refl _ _).alloc _).alloc _
  have HOW2 := Lib.hid (own_keeps HOW.out ((Keeps.refl (fun _ => False) _).alloc (.cells #[.slice (some ⟨AB, 0, none⟩) 0 0] 22)) (fun _ _ => id))
  generalize (W4.alloc (.cells #[] 5)).alloc (.cells #[.slice (some ⟨AB, 0, none⟩) 0 0] 22) = W5 at HOB HKc HOW2 ⊢
  have HK5 := Lib.hid ((HK1.out.trans HKb.out).trans HKc.out)
  have HR5 := Lib.hid ((HR1.out.keeps HKb.out id).keeps HKc.out id)
  have HF5 := Lib.hid (HF4.out.keeps HKc.out id)
  have HNS : Hid (w.heap.size ≤ FF ∧ w.heap.size ≤ AB ∧ w.heap.size ≤ OO ∧ R4 < FF ∧ FF < OO) := by
    have h2 := HR1.out.lt; have h3 := HK3.out.size; have h4 := HK1.out.size
    show _ ∧ _
    omega
  have HIW : Hid (Ww.IsWr w.heap.size OO (.slice (some ⟨AB, 0, none⟩) 0 0) [] W5) :=
    ⟨HNS.out.2.2.1, HK5.out.size, by simp, ⟨_, _, rfl⟩, ⟨22, by decide, HOB.out⟩, own_base HOW2.out HNS.out.2.1⟩
  clear hFF hAB hOO hsz hsz2 HF4 HOW HOB HOW2 HKb HKc HR1 HK1 HK3
  go_upto_region 4 with (first
    | (go_at_call 31; refine (HQC.out _).mono ?_; rintro e w6 ⟨rfl, hk6⟩; have HK6 := Lib.hid hk6; clear hk6)
    | ((with_reducible refine st_row (Blk.new _ 79 Z5) HQI.out HQZ.out HQ1.out ?_ ?_ ?_); rfl; rfl))
  obtain ⟨QQ, hQQ⟩ : ∃ QQ, w6.heap.size = QQ := ⟨_, rfl⟩
  have HS7 : Hid (Blk ((w6.alloc (.cells Z5 79)).setRow w6.heap.size QS) w6.heap.size 79 QS) := new_put
  have HKd : Hid (Keeps (fun _ => False) W5 ((w6.alloc (.cells Z5 79)).setRow w6.heap.size QS)) := Keeps.put_new HK6.out
  generalize (w6.alloc (.cells Z5 79)).setRow w6.heap.size QS = W7 at HS7 HKd ⊢
  rw [hQQ] at HS7 ⊢
  have HAt : Hid (CkAt w QQ FF R4 OO sp) := by
    have h1 := HNS.out; have h3 := HIW.out.lt; have h4 := HK6.out.size; have h5 := HK5.out.size; have h6 := HRE.out
    exact ⟨HSP.out.lt, by omega, h1.1, by omega, by omega, by omega, by omega, by omega⟩
  have HPK : Hid (Cks QQ FF R4 OO sp QS Z (spV tb) low4 (.slice (some ⟨AB, 0, none⟩) 0 0) [] w W7) :=
    ⟨HS7.out, by rw [HL4.out]; exact HF5.out.keeps HKd.out id, HR5.out.keeps HKd.out id, HSP.out.keeps (HK5.out.trans HKd.out) id, HIW.out.keeps HKd.out (fun _ _ => id), HK5.out.trans HKd.out⟩
  clear hQQ HR5 HF5 HS7 HIW HKd HK6 HK5 HNS HNEW HQC hz hz5
  obtain ⟨A3, hA3⟩ : ∃ A3, qad A n c 3 = A3 := ⟨_, rfl⟩
  obtain ⟨l3, hl3⟩ : ∃ l3, ql n 3 = l3 := ⟨_, rfl⟩
  obtain ⟨c3, hc3⟩ : ∃ c3, c - qo n 3 = c3 := ⟨_, rfl⟩
  have hq3 : W7.cell? ⟨QQ, 3, none⟩ = some (.slice A3 l3 c3) := by rw [HPK.out.qua.cell, HQG.out 3 (by omega), qsl, hA3, hl3, hc3]
  have HL3 := Lib.hid hl3
  have HLN : Hid (l3 ≤ 400000) := by show _ ≤ _; have := ql_end n (i := 3) (by omega); have := HN.out; omega
  have HNST : Hid (nst n = 4 * l3) := by show _ = _; rw [nst, hl3]
  have hw0 : IntKind.i64.wrap ((l3 : Int) - 1) = (l3 : Int) - 1 := IntWalk.i64_in _ (by have := HLN.out; omega)
  clear hA3 hl3 hc3
  go_upto_region 5 with fail
  clear hw0 hq3
  go_loopw [9, 10, 11] (fun pv _ _ wr => ∃ (P : Nat) (vo : Value), pv = .int .i64 ((P : Int) - 1) ∧ P ≤ l3 ∧ Hid (Cks QQ FF R4 OO sp QS Z (spV tb) (stA tb n xs (4 * P)).1 vo (stA tb n xs (4 * P)).2.reverse w wr)) (fun pv _ _ _ => (intOf pv + 1).toNat)
  case atStart =>
    refine ⟨l3, .slice (some ⟨AB, 0, none⟩) 0 0, rfl, Nat.le_refl _, ?_⟩
    rw [← HNST.out, stA_end]
    exact HPK
  case round =>
    clear HPK
    obtain ⟨P, vo, rfl, hP, HH⟩ := hrel
    by_cases hlt : 0 < P
    · obtain ⟨p, rfl⟩ : ∃ p, P = p + 1 := ⟨P - 1, by omega⟩
      have hpi : ((p + 1 : Nat) : Int) - 1 = (p : Int) := by omega
      rw [hpi]
      have hp0 : (0 : Int) ≤ (p : Int) := by omega
      have HPL : Hid (p < l3) := by show p < l3; omega
      have HH2 : Hid (Cks QQ FF R4 OO sp QS Z (spV tb) (stA tb n xs (4 * p + 4)).1 vo (stA tb n xs (4 * p + 4)).2.reverse w wr) := by
        have := HH.out
        rw [show 4 * (p + 1) = 4 * p + 4 by omega] at this
        exact this
      clear hpi hlt hP HH
      go_upto_region 8 with fail
      go_loopw [10, 11] (fun iv _ wr => ∃ (I : Nat) (vo : Value), iv = .int .i64 ((I : Int) - 1) ∧ I ≤ 4 ∧ Hid (Cks QQ FF R4 OO sp QS Z (spV tb) (stA tb n xs (4 * p + I)).1 vo (stA tb n xs (4 * p + I)).2.reverse w wr)) (fun iv _ _ => (intOf iv + 1).toNat)
      case atStart => exact ⟨4, vo, rfl, by omega, HH2⟩
      case round =>
        clear HH2
        obtain ⟨I, vo, rfl, hI, HH⟩ := hrel
        by_cases hlt : 0 < I
        · obtain ⟨i, rfl⟩ : ∃ i, I = i + 1 := ⟨I - 1, by omega⟩
          have hii : ((i + 1 : Nat) : Int) - 1 = (i : Int) := by omega
          rw [hii]
          have hi4 : i < 4 := by omega
          have hi0 : (0 : Int) ≤ (i : Int) := by omega
          have hi1 : (i : Int) < 4 := by omega
          obtain ⟨t, ht⟩ : ∃ t, 4 * p + i = t := ⟨_, rfl⟩
          have htm : t % 4 = i := by omega
          have HHt : Hid (Cks QQ FF R4 OO sp QS Z (spV tb) (stA tb n xs (t + 1)).1 vo (stA tb n xs (t + 1)).2.reverse w wr) := by
            have := HH.out
            rw [show 4 * p + (i + 1) = t + 1 by omega] at this
            exact this
          have htn : t < nst n := by rw [HNST.out]; have := HPL.out; omega
          obtain ⟨Aq, hAq⟩ : ∃ Aq, qad A n c i = Aq := ⟨_, rfl⟩
          obtain ⟨lq, hlq⟩ : ∃ lq, ql n i = lq := ⟨_, rfl⟩
          obtain ⟨cq, hcq⟩ : ∃ cq, c - qo n i = cq := ⟨_, rfl⟩
          have hqi : wr.cell? ⟨QQ, i, none⟩ = some (.slice Aq lq cq) := by rw [HHt.out.qua.cell, HQG.out i hi4, qsl, hAq, hlq, hcq]
          have hwi : IntKind.i64.wrap ((i : Int) - 1) = (i : Int) - 1 := IntWalk.i64_in _ (by omega)
          have HI := Lib.hid hi4
          clear hii hlt hI HH
          by_cases hv : p < lq
          · have hpv : (p : Int) < (lq : Int) := by omega
            have hval : Val n t := by rw [← ht]; exact (val_at hi4).2 (by rw [hlq]; exact hv)
            have hpos : pos n t = qo n i + p := by rw [← ht]; exact pos_at hi4
            obtain ⟨l, hl⟩ := HFU.out t hval
            obtain ⟨hT, hHas⟩ := HGD.out t hval
            have htl : tt tb (cx n xs t).toNat = l := by rw [tt, hl]; rfl
            rw [htl] at hT hHas
            obtain ⟨y, hy⟩ : ∃ y : Nat, xs.getD (pos n t) 0 = (y : Int) := ⟨_, (Int.toNat_of_nonneg (byte_at_ HB.out _).1).symm⟩
            have hyb : y < 256 := by have := (byte_at_ HB.out (pos n t)).2; omega
            obtain ⟨x, hxv⟩ : ∃ x : Nat, cx n xs t = (x : Int) := ⟨_, (Int.toNat_of_nonneg (cx_byte (n := n) (t := t) HB.out).1).symm⟩
            have hxb : x < 256 := by have := (cx_byte (n := n) (t := t) HB.out).2; omega
            rw [hy] at hHas
            rw [hxv, Int.toNat_natCast] at hl
            obtain ⟨hp1, hp2, _⟩ := has_part hT hHas
            obtain ⟨st, hst⟩ : ∃ st, stt l (y : Int) = st := ⟨_, rfl⟩
            obtain ⟨pp, hpp⟩ : ∃ pp, prt l (y : Int) = pp := ⟨_, rfl⟩
            have hsv : spV tb (256 * x + y) = some (.agg #[.int .i64 (st : Int), .int .i64 (pp : Int)]) := by
              rw [spV, show (256 * x + y) / 256 = x by omega, show (256 * x + y) % 256 = y by omega, hl]
              simp only [Option.bind_some]
              have h3 := hHas.2.2
              rw [Int.toNat_natCast] at h3
              rw [if_pos h3, spv, hst, hpp]
            rw [hpp] at hp1
            rw [hst, hpp] at hp2
            have HLK : Hid (∀ W, Keeps (fun _ => False) wr W → (Instr.lookup 47 (.map (some sp)) (.agg #[.int .u8 (x : Int), .int .u8 (y : Int)]) false).run Try.prog W = .ok (.agg #[.int .i64 (st : Int), .int .i64 (pp : Int)]) W) := by
              refine Lib.hid fun W k => ?_
              rw [← pkv_at hyb]
              exact (((HHt.out.map.keeps k id).look pair_ks Try.underlying47 (hzs W) (i := 256 * x + y) (by omega)).1 _ hsv).1
            have hqn : (qb xs i).length = lq := by rw [qb_len xs hi4, HX.out, hlq]
            have hdq : p < ql xs.length i := by rw [HX.out, hlq]; exact hv
            have hlqn : lq ≤ 1000000 := by rw [← hlq]; have := ql_end n hi4; have := HN.out; omega
            have HA := Lib.hid (fun W (h : Lies W Aq (qb xs i)) => ahead_ Aq lq cq p (qb xs i) (x : Int) W hqn h hv hlqn (by rw [ahead_cx hi4 hdq, HX.out, ht, hxv]))
            have HQL : Hid (∀ W, Keeps (fun _ => False) w W → Lies W Aq (qb xs i)) := by
              refine Lib.hid fun W k => ?_
              have := qb_lies (c := c) (i := i) (HL.out.keeps k (fun _ _ _ => id)) (by rw [HX.out]; exact HC.out) hi4
              rw [HX.out, hAq] at this
              exact this
            have hql := HQL.out wr HHt.out.keeps
            rcases hql with h0 | ⟨b1, o1, rfl, hbl, hc1⟩
            · rw [h0] at hqn; simp at hqn; omega
            have hcell := hc1 p (by omega)
            rw [qb_get hdq, HX.out, ← hpos, hy] at hcell
            have hlk1 := HLK.out wr.drew ((Keeps.refl _ _).drewN 1)
            have hlk2 := HLK.out (wr.drew.alloc (.cells #[.int .i64 0, .int .i64 0] 82)) (((Keeps.refl _ _).drewN 1).alloc _)
            have hlk3 := HLK.out (wr.alloc (.cells #[.int .i64 0, .int .i64 0] 82)).drew (((Keeps.refl _ _).alloc _).drewN 1)
            have hqi2 : (wr.drew.alloc (.cells #[.int .i64 0, .int .i64 0] 82)).cell? ⟨QQ, i, none⟩ = some (.slice (some ⟨b1, o1, none⟩) lq cq) := (((Keeps.refl (fun _ => False) wr).drewN 1).alloc _).cell (p := ⟨QQ, i, none⟩) HHt.out.qua.lt id |>.trans hqi
            have hcell2 : (wr.drew.alloc (.cells #[.int .i64 0, .int .i64 0] 82)).cell? ⟨b1, o1 + p, none⟩ = some (.int .u8 (y : Int)) := (((Keeps.refl (fun _ => False) wr).drewN 1).alloc _).cell (p := ⟨b1, o1 + p, none⟩) hbl id |>.trans hcell
            have hqi3 : (wr.alloc (.cells #[.int .i64 (st : Int), .int .i64 (pp : Int)] 82)).drew.cell? ⟨QQ, i, none⟩ = some (.slice (some ⟨b1, o1, none⟩) lq cq) := (((Keeps.refl (fun _ => False) wr).alloc _).drewN 1).cell (p := ⟨QQ, i, none⟩) HHt.out.qua.lt id |>.trans hqi
            have hcell3 : (wr.alloc (.cells #[.int .i64 (st : Int), .int .i64 (pp : Int)] 82)).drew.cell? ⟨b1, o1 + p, none⟩ = some (.int .u8 (y : Int)) := (((Keeps.refl (fun _ => False) wr).alloc _).drewN 1).cell (p := ⟨b1, o1 + p, none⟩) hbl id |>.trans hcell
            go_upto_region 11 with fail
            go_cut [11] from 34 to 48 (fun v wx => v = .pointer (some ⟨wr.heap.size, 0, none⟩) ∧ wx = (wr.alloc (.cells #[.int .i64 (st : Int), .int .i64 (pp : Int)] 82)).drew)
            case first =>
              go_region_held3 (fun w' => w'.cell? ⟨QQ, i, none⟩ = some (.slice (some ⟨b1, o1, none⟩) lq cq) ∧ w'.cell? ⟨b1, o1 + p, none⟩ = some (.int .u8 (y : Int))) (first | exact ⟨hqi, hcell⟩ | exact ⟨hqi2, hcell2⟩ | exact ⟨hqi3, hcell3⟩ | go_keep)
                ((go_at_call 32
                  refine (HA.out _ (HQL.out _ (by first | exact HHt.out.keeps.drewN 1 | exact (HHt.out.keeps.drewN 1).alloc _))).mono ?_
                  rintro e w2 ⟨rfl, rfl⟩))
              all_goals go_wp2_with fail
              all_goals go_meet
              all_goals exact ⟨rfl, rfl⟩
            case rest =>
              obtain ⟨rfl, rfl⟩ := hcut
              have HX12 : Hid (Blk (wr.alloc (.cells #[.int .i64 (st : Int), .int .i64 (pp : Int)] 82)).drew wr.heap.size 82 #[.int .i64 (st : Int), .int .i64 (pp : Int)]) := Lib.hid ((Blk.new wr 82 _).drewN 1)
              have HKc : Hid (Keeps (fun _ => False) wr (wr.alloc (.cells #[.int .i64 (st : Int), .int .i64 (pp : Int)] 82)).drew) := Lib.hid (((Keeps.refl _ _).alloc _).drewN 1)
              clear hlk1 hlk2 hlk3 hqi2 hqi3 hcell2 hcell3 hcell hqi hc1 HA HLK HQL
              generalize (wr.alloc (.cells #[.int .i64 (st : Int), .int .i64 (pp : Int)] 82)).drew = W at HX12 HKc ⊢
              obtain ⟨xx, hxx⟩ : ∃ xx, wr.heap.size = xx := ⟨_, rfl⟩
              rw [hxx] at HX12 ⊢
              clear hxx
              have HPW := Lib.hid (HHt.out.still HKc.out)
              have hx0 : W.cell? ⟨xx, 0, none⟩ = some (.int .i64 (st : Int)) := HX12.out.cell 0
              have hx1 : W.cell? ⟨xx, 1, none⟩ = some (.int .i64 (pp : Int)) := HX12.out.cell 1
              obtain ⟨F, S, hFS⟩ : ∃ F S, stA tb n xs (t + 1) = (F, S) := ⟨_, _, rfl⟩
              have hen := encC_in HGD.out low4_st (nst n - (t + 1)) (t + 1)
              have hFS2 := hFS
              unfold stA at hFS2
              rw [hFS2] at hen
              obtain ⟨hSt, hSl, _⟩ := hen
              obtain ⟨v, hvv⟩ : ∃ v, F.getD (t % 4) 0 = v := ⟨_, rfl⟩
              have hIn := hSt.at_ t
              rw [hvv] at hIn
              obtain ⟨z, hz2⟩ : ∃ z, push st pp v = z := ⟨_, rfl⟩
              obtain ⟨G, hG⟩ : ∃ G, gone pp v = G := ⟨_, rfl⟩
              have HNX : Hid (stA tb n xs t = (F.set i z, G.reverse ++ S)) := by
                show _ = _
                unfold stA
                rw [show nst n - t = (nst n - (t + 1)) + 1 by omega, encC_next (s := v) hval htl hy (by rw [hFS2]; exact hvv), hFS2, htm, hst, hpp, hz2, hG]
              rw [hFS] at HPW
              simp only at HPW
              have HSF : Hid (F.length = 4) := hSt.1
              have hq1 : W.cell? ⟨FF, i, none⟩ = some (.int .u32 (v : Int)) := by rw [HPW.out.fou.cell, us_get (by rw [HSF.out]; exact hi4), ← htm, hvv]
              have HSPC := Lib.hid (fun W' (h : Ww.IsWr w.heap.size OO vo S.reverse W') => sput OO w.heap.size vo S.reverse st pp v z G W' h (by have h1 := nst_le n; have h2 := HN.out; simp only at hSl; rw [List.length_reverse]; omega) hIn hp1 hp2 hz2 hG)
              have HTI : Hid (4 * p + i = t) := ht
              clear hFS hFS2 hSt hSl hvv hIn hz2 hG hval hpos hT hHas htl hy hyb hxv hxb hst hpp hsv hl hqn hdq hlqn hAq hlq hcq hbl hp1 hp2 htn htm ht hv hpv
              go_upto_region 12 with fail
              go_region_with (
                go_at_call 33
                refine (HSPC.out _ (HPW.out.out.keeps ((Keeps.refl (fun _ => False) _).drewN 1) (fun _ _ => id))).mono ?_
                rintro r1 w3 ⟨rfl, v3, hw3', hk3, hat3⟩
                have hk3' := hk3.of_drew
                have HP3 := Lib.hid (HPW.out.put HAt.out hw3' hk3')
                have hc3 : w3.cell? ⟨FF, i, none⟩ = some ((us F)[i]?.getD undef) := by
                  rw [HP3.out.fou.cell, us_get (by rw [HSF.out]; exact HI.out)]
                  rfl
                have hf3 := HP3.out.fou.frozen i
                clear hw3' hk3 hk3' hat3)
              all_goals go_wp2_with fail
              all_goals
                refine ⟨⟨i, v3, by simp, by have := HI.out; omega, ?_⟩, by simp [intOf]⟩
                rw [HTI.out, HNX.out]
                have h5 := HP3.out.set (i := i) (x := z) HAt.out
                show Cks _ _ _ _ _ _ _ _ _ _ _ _ _
                simp only [List.reverse_append, List.reverse_reverse]
                exact h5
          · have hpv : (lq : Int) ≤ (p : Int) := by omega
            have hnv : ¬ Val n t := by rw [← ht]; exact fun h => hv (by rw [← hlq]; exact (val_at hi4).1 h)
            have HE : Hid (Cks QQ FF R4 OO sp QS Z (spV tb) (stA tb n xs (4 * p + i)).1 vo (stA tb n xs (4 * p + i)).2.reverse w wr) := by
              refine Lib.hid ?_
              rw [ht, stA_skip htn hnv]
              exact HHt.out
            clear hnv hv htn htm ht HHt
            go_wp2_with fail
            exact ⟨⟨i, vo, by simp, by omega, HE⟩, by simp [intOf]⟩
        · obtain rfl : I = 0 := by omega
          have hge : ¬ ((0 : Int) ≤ ((0 : Nat) : Int) - 1) := by omega
          have hwp : IntKind.i64.wrap ((p : Int) - 1) = (p : Int) - 1 := IntWalk.i64_in _ (by have := HLN.out; have := HPL.out; omega)
          have HE : Hid (Cks QQ FF R4 OO sp QS Z (spV tb) (stA tb n xs (4 * p)).1 vo (stA tb n xs (4 * p)).2.reverse w wr) := HH
          clear hlt hI HH
          go_wp2_with fail
          exact ⟨⟨p, vo, by simp, by have := HPL.out; omega, HE⟩, by simp [intOf]⟩
    · obtain rfl : P = 0 := by omega
      have hge : ¬ ((0 : Int) ≤ ((0 : Nat) : Int) - 1) := by omega
      obtain ⟨F, S, hFS⟩ : ∃ F S, stA tb n xs 0 = (F, S) := ⟨_, _, rfl⟩
      have hen := encC_in HGD.out low4_st (nst n - 0) 0
      have hFS2 := hFS
      unfold stA at hFS2
      rw [hFS2] at hen
      have hHH := HH.out
      rw [show 4 * 0 = 0 by rfl, hFS] at hHH
      simp only at hHH
      obtain ⟨fa, fb, fc, fd, rfl⟩ := four hen.1.1
      have HRS : Hid (Blk wr R4 44 (us no4)) := by show Blk _ _ _ _; rw [HZS.out]; exact hHH.res
      obtain ⟨g1, g2, g3, ⟨A9, c9, hvo⟩, g5, g6⟩ := hHH.out
      obtain ⟨m, hm⟩ : ∃ m, S.reverse.length = m := ⟨_, rfl⟩
      rw [hm] at hvo g6
      subst hvo
      have hco : wr.cell? ⟨OO, 0, none⟩ = some (.slice A9 m c9) := g5.cell
      have HAC : Hid (A9 = none → c9 = 0) := by
        rcases g6.2 with ⟨h, _⟩ | ⟨g, cap, cur, hv, _⟩
        · injection h with h1 h2 h3
          exact fun _ => h3
        · injection hv with hv
          intro h0
          rw [h0] at hv
          cases hv
      have HLI := Lib.hid (Lies.of_own g6)
      have HKK := Lib.hid hHH.keeps
      have HML : Hid (S.length = m) := by show S.length = m; rw [← hm]; simp
      have HOWN := Lib.hid g6
      have hc0 : wr.cell? ⟨FF, 0, none⟩ = some (.int .u32 (fa : Int)) := hHH.fou.cell 0
      have hc1 : wr.cell? ⟨FF, 1, none⟩ = some (.int .u32 (fb : Int)) := hHH.fou.cell 1
      have hc2 : wr.cell? ⟨FF, 2, none⟩ = some (.int .u32 (fc : Int)) := hHH.fou.cell 2
      have hc3 : wr.cell? ⟨FF, 3, none⟩ = some (.int .u32 (fd : Int)) := hHH.fou.cell 3
      have hr0 : wr.cell? ⟨R4, 0, none⟩ = some (.int .u32 0) := HRS.out.cell 0
      have hr1 : wr.cell? ⟨R4, 1, none⟩ = some (.int .u32 0) := HRS.out.cell 1
      have hr2 : wr.cell? ⟨R4, 2, none⟩ = some (.int .u32 0) := HRS.out.cell 2
      have hr3 : wr.cell? ⟨R4, 3, none⟩ = some (.int .u32 0) := HRS.out.cell 3
      have hz0 := HRS.out.frozen 0
      have hz1 := HRS.out.frozen 1
      have hz2 := HRS.out.frozen 2
      have hz3 := HRS.out.frozen 3
      have hne : FF ≠ R4 := HAt.out.fr
      have hne2 : R4 ≠ FF := HAt.out.fr.symm
      have hne3 : OO ≠ R4 := HAt.out.or
      have hne4 : R4 ≠ OO := HAt.out.or.symm
      have HFS := Lib.hid hFS
      clear hen hHH g1 g2 g3 g5 g6 hm hFS hFS2 HH hlt hP
      go_upto_region 13 with fail
      go_region
      all_goals
        go_wp2_with fail
        refine bodyPost_ret (v := .tuple #[.agg (us [fa, fb, fc, fd]), .slice A9 m c9]) (ret_pk rfl _ _ R4 _ _ (four_size rfl) rfl rfl (put4 HRS.out fa fb fc fd)) rfl ?_
        rw [HFS.out]
        have k5 := (keeps4 wr R4 (.int .u32 (fa : Int)) (.int .u32 (fb : Int)) (.int .u32 (fc : Int)) (.int .u32 (fd : Int))).drewN 1
        exact ⟨A9, c9, m, rfl, HML.out, HAC.out, fun b0 o0 hA => (HOWN.out.lt b0 (by rw [hA]; rfl)).1, HLI.out.keeps k5 (fun b0 o0 hA e => own_ne HOWN.out HRS.out (by decide) (by rw [hA, e]; rfl)), keeps_low HKK.out k5 (fun y hy => by rw [hy]; exact HAt.out.r)⟩
end Go.Proofs.Ytnanmenoemajfaa.Cq
