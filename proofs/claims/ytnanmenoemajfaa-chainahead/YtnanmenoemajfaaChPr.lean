/- How often each byte comes behind each (chain.pairs). -/
import Derived.Test.YtnanmenoemajfaaChKy
namespace Go.Proofs.Ytnanmenoemajfaa.Cq
open Go.RowKit Go.Proofs.Ytnanmenoemajfaa.Gen Go.Proofs.Ytnanmenoemajfaa.Wr Go.Proofs.Ytnanmenoemajfaa.It Go.Proofs.Ytnanmenoemajfaa.Ch Go.Proofs.Ytnanmenoemajfaa.Cm Go.Proofs.Ytnanmenoemajfaa.Ck

theorem keeps_low {w wr w1 : World} {S : Nat → Prop} (h : Keeps (fun _ => False) w wr) (k : Keeps S wr w1) (hw : ∀ x, S x → w.heap.size ≤ x) : Keeps (fun _ => False) w w1 :=
  ⟨k.os.trans h.os, k.tape.trans h.tape, k.output.trans h.output, Nat.le_trans h.size k.size, fun x hx hn => (k.block x (Nat.lt_of_lt_of_le hx h.size) (fun hs => by have := hw x hs; omega)).trans (h.block x hx hn)⟩
theorem meas {N d : Nat} (h : d < N) : N - (intOf (.int .i64 ((d : Int) + 1))).toNat < N - (intOf (.int .i64 (d : Int))).toNat := by
  simp [intOf]
  omega
/-- The byte ahead, of a quarter's own bytes. -/
theorem ahead_cx {xs : List Int} {i d : Nat} (hi : i < 4) (hd : d < ql xs.length i) : (if d = 0 then 0 else (qb xs i).getD (d - 1) 0) = cx xs.length xs (4 * d + i) := by
  unfold cx
  rw [show (4 * d + i) / 4 = d by omega, pos_at hi]
  by_cases h : d = 0
  · rw [if_pos h, if_pos h]
  · rw [if_neg h, if_neg h, qb_get (by omega)]
    congr 1
    omega

set_option maxHeartbeats 4000000 in
set_option maxRecDepth 100000 in
theorem pairs_ (A : Option Addr) (n c : Nat) (xs : List Int) (w : World) (hx : xs.length = n) (hl : Lies w A xs) (hc : n ≤ c) (hn : n ≤ 1000000) (hb : ∀ x ∈ xs, 0 ≤ x ∧ x < 256) :
    Calls Try.prog 29 #[.slice A n c] w fun r w' => ∃ b, r = .returned (.map (some b)) ∧ IsF Try.prog 75 65536 pkl w' b (cntV (pa n xs 4)) ∧ w.heap.size ≤ b ∧ Keeps (fun _ => False) w w' := by
  have hmm := @run_makeMap Try.prog
  have HX := Lib.hid hx
  have HL := Lib.hid hl
  have HC := Lib.hid hc
  have HN := Lib.hid hn
  have HB := Lib.hid hb
  clear hx hl hc hn hb
  go_enter Try.func29, Try.ntmps29
  go_upto_region 2 with fail
  obtain ⟨b, hbb⟩ : ∃ b, w.heap.size = b := ⟨_, rfl⟩
  have HM0 := Lib.hid (IsF.new Try.prog 75 65536 pkl w)
  have HK0 : Hid (Keeps (fun _ => False) w (w.alloc (.map #[] 0))) := (Keeps.refl _ _).alloc _
  generalize w.alloc (.map #[] 0) = W0 at HM0 HK0 ⊢
  rw [hbb] at HM0 ⊢
  have HBW := Lib.hid hbb
  clear hbb
  obtain ⟨QS, hQS⟩ : ∃ QS, qs A n c = QS := ⟨_, rfl⟩
  have HQC := Lib.hid (quarters_ A n c W0 HC.out HN.out)
  rw [hQS] at HQC
  have HQG : Hid (∀ i, i < 4 → QS[i]? = some (qsl A n c i)) := by
    refine Lib.hid fun i hi => ?_
    rw [← hQS]
    exact qs_get hi
  clear hQS
  go_upto_region 3 with (
    go_at_call 31
    refine HQC.out.mono ?_
    rintro e w1 ⟨rfl, hk1⟩
    have HM1 := Lib.hid (HM0.out.keeps hk1 id)
    have HK1 := Lib.hid (HK0.out.trans hk1)
    clear hk1 HM0 HK0 HQC)
  go_loopw [5, 6, 7, 11] (fun _ _ _ iv wr => ∃ i : Nat, iv = .int .i64 (i : Int) ∧ i ≤ 4 ∧ Hid (IsF Try.prog 75 65536 pkl wr b (cntV (pa n xs i)) ∧ Keeps (fun _ => False) w wr)) (fun _ _ _ iv _ => 4 - (intOf iv).toNat)
  case atStart => exact ⟨0, rfl, by omega, Lib.hid ⟨by rw [pa, cntV_nil]; exact HM1.out, HK1.out⟩⟩
  case round =>
    clear HM1 HK1
    obtain ⟨i, rfl, hi, HH⟩ := hrel
    by_cases hlt : i < 4
    · have hi1 : (i : Int) < 4 := by omega
      obtain ⟨Aq, hAq⟩ : ∃ Aq, qad A n c i = Aq := ⟨_, rfl⟩
      obtain ⟨lq, hlq⟩ : ∃ lq, ql n i = lq := ⟨_, rfl⟩
      obtain ⟨cq, hcq⟩ : ∃ cq, c - qo n i = cq := ⟨_, rfl⟩
      have hix := run_idxq QS .i64 i (.slice Aq lq cq) hlt (by rw [HQG.out i hlt, qsl, hAq, hlq, hcq])
      have hlqn : lq ≤ n := by rw [← hlq]; have := ql_end n hlt; omega
      have HLQ := Lib.hid hlq
      have HQL : Hid (∀ W, Keeps (fun _ => False) w W → Lies W Aq (qb xs i)) := by
        refine Lib.hid fun W k => ?_
        have := qb_lies (c := c) (i := i) (HL.out.keeps k (fun _ _ _ => id)) (by rw [HX.out]; exact HC.out) hlt
        rw [HX.out, hAq] at this
        exact this
      have HI := Lib.hid hlt
      have HLN := Lib.hid hlqn
      clear hAq hlq hcq hlt hi hlqn
      go_upto_region 6 with fail
      go_loopw [6, 7, 16] (fun _ _ kv wr => ∃ d : Nat, kv = .int .i64 (d : Int) ∧ d ≤ lq ∧ Hid (IsF Try.prog 75 65536 pkl wr b (cntV (pa n xs i ++ pq n xs i d)) ∧ Keeps (fun _ => False) w wr)) (fun _ _ kv _ => lq - (intOf kv).toNat)
      case atStart => exact ⟨0, rfl, by omega, Lib.hid ⟨by rw [pq, List.append_nil]; exact HH.out.1, HH.out.2⟩⟩
      case round =>
        clear HH
        obtain ⟨d, rfl, hd, HH⟩ := hrel
        by_cases hlt : d < lq
        · have hd0 : (0 : Int) ≤ (d : Int) := by omega
          have hd1 : (d : Int) < (lq : Int) := by omega
          have hql := HQL.out wr HH.out.2
          have hqn : (qb xs i).length = lq := by rw [qb_len xs HI.out, HX.out]; exact HLQ.out
          have hdq : d < ql xs.length i := by rw [HX.out, HLQ.out]; exact hlt
          obtain ⟨y, hy⟩ : ∃ y : Nat, xs.getD (qo n i + d) 0 = (y : Int) := ⟨_, (Int.toNat_of_nonneg (byte_at_ HB.out _).1).symm⟩
          have hyb : y < 256 := by have := (byte_at_ HB.out (qo n i + d)).2; omega
          obtain ⟨x, hxv⟩ : ∃ x : Nat, cx n xs (4 * d + i) = (x : Int) := ⟨_, (Int.toNat_of_nonneg (cx_byte (n := n) (t := 4 * d + i) HB.out).1).symm⟩
          have hxb : x < 256 := by have := (cx_byte (n := n) (t := 4 * d + i) HB.out).2; omega
          have hky : ky n xs (4 * d + i) = 256 * x + y := by unfold ky; rw [hxv, pos_at HI.out, hy]; rfl
          have HA := Lib.hid (fun W (h : Lies W Aq (qb xs i)) => ahead_ Aq lq cq d (qb xs i) (x : Int) W hqn h hlt (by have := HLN.out; have := HN.out; omega) (by rw [ahead_cx HI.out hdq, HX.out, hxv]))
          rcases hql with h0 | ⟨b1, o1, rfl, hbl, hc1⟩
          · rw [h0] at hqn; simp at hqn; omega
          have hcell := hc1 d (by omega)
          rw [qb_get hdq, HX.out, hy] at hcell
          have HLW : Hid (Lies wr.drew (some ⟨b1, o1, none⟩) (qb xs i)) := Lib.hid (HQL.out wr.drew (HH.out.2.drewN 1))
          obtain ⟨L, hL⟩ : ∃ L, pa n xs i ++ pq n xs i d = L := ⟨_, rfl⟩
          obtain ⟨q, hq⟩ : ∃ q, L.count (256 * x + y) = q := ⟨_, rfl⟩
          have hqb : q ≤ 1000000 := by
            have h1 := List.count_le_length (a := 256 * x + y) (l := L)
            rw [← hL, List.length_append, pa_len n xs (by have := HI.out; omega), pq_len] at h1
            have h2 := ql_end n HI.out
            have h3 := HLQ.out
            have h4 := HN.out
            rw [← hL] at hq
            omega
          have hF := HH.out.1
          rw [hL] at hF
          have hFd : IsF Try.prog 75 65536 pkl wr.drew b (cntV L) := hF.keeps (S := fun _ => False) ((Keeps.refl _ _).drewN 1) id
          have hlk := cnt_look hFd Try.underlying72 (i := 256 * x + y) (by omega)
          obtain ⟨v0, st, w3, hE, hk3, hlk3, hS⟩ := hFd.entry pair_ks pair_law Try.underlying72 zero_int (i := 256 * x + y) (by omega) (by omega)
          have hlk4 := hlk3 _ hlk
          obtain ⟨w4, hSt, hF4, hk4⟩ := hS w3 (.int .i64 (((L.count (256 * x + y) : Nat) : Int) + 1)) rfl
          rw [cntV_put] at hF4
          rw [pkv_at hyb, hq] at hlk hlk4
          rw [pkv_at hyb] at hE
          rw [hq] at hSt
          simp only [goInt] at hE hSt
          have HNX : Hid (IsF Try.prog 75 65536 pkl w4 b (cntV (pa n xs i ++ pq n xs i (d + 1))) ∧ Keeps (fun _ => False) w w4) := by
            refine Lib.hid ⟨?_, keeps_low HH.out.2 ((Keeps.refl _ _).drewN 1 |>.trans (hk3.trans hk4)) (fun z hz => by subst hz; have := HBW.out; omega)⟩
            rw [pq, hky, ← List.append_assoc, hL]
            exact hF4
          have hw1 : IntKind.i64.wrap ((q : Int) + 1) = (q : Int) + 1 := IntWalk.i64_in _ (by omega)
          have hw2 : IntKind.i64.wrap ((d : Int) + 1) = (d : Int) + 1 := IntWalk.i64_in _ (by have := HLN.out; have := HN.out; omega)
          have HLT := Lib.hid hlt
          clear hc1 hF hFd hlk3 hS hF4 hk3 hk4 hky hxv hy hq hL hdq hqn hqb hbl hlt hd HH
          go_upto_region 8 with fail
          go_region_with (
            go_at_call 32
            refine (HA.out _ HLW.out).mono ?_
            rintro e w2 ⟨rfl, rfl⟩)
          all_goals
            clear hlk hlk4 hE hSt
            go_wp2_with fail
            exact ⟨⟨d + 1, by go_num, HLT.out, HNX⟩, meas HLT.out⟩
        · obtain rfl : d = lq := by omega
          have hge : ¬ ((d : Int) < (d : Int)) := by omega
          have HNX : Hid (IsF Try.prog 75 65536 pkl wr b (cntV (pa n xs (i + 1))) ∧ Keeps (fun _ => False) w wr) := by
            refine Lib.hid ⟨?_, HH.out.2⟩
            rw [pa, HLQ.out]
            exact HH.out.1
          clear hlt hd
          go_wp2_with fail
          exact ⟨⟨i + 1, by go_num, by have := HI.out; omega, HNX⟩, by have := HI.out; simp [intOf]; omega⟩
    · obtain rfl : i = 4 := by omega
      have hge : ¬ ((4 : Int) < 4) := by omega
      clear hlt hi
      go_wp2_with fail
      go_ret
      exact ⟨b, rfl, HH.out.1, by rw [← HBW.out]; exact Nat.le_refl _, HH.out.2⟩
end Go.Proofs.Ytnanmenoemajfaa.Cq
