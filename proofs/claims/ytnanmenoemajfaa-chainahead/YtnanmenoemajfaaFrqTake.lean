/- What freq.Take takes out of a reader, whatever its bytes are. -/
import Derived.Test.YtnanmenoemajfaaFrqTb
namespace Go.Proofs.Ytnanmenoemajfaa.Fb
open Go.RowKit Go.Proofs.Ytnanmenoemajfaa.Gen Go.Proofs.Ytnanmenoemajfaa.Wr Go.Proofs.Ytnanmenoemajfaa.It Go.Proofs.Ytnanmenoemajfaa.Ir Go.Proofs.Ytnanmenoemajfaa.Ib Go.Proofs.Ytnanmenoemajfaa.Fq

/-- The variables of Take: the reader, the result, the table. -/
structure Tk (w wr : World) (g base B R T : Nat) (Z : Array Value) (t : List Int) (s : RS) : Prop where
  box : Blk wr B 54 #[.pointer (some ⟨g, 0, none⟩)]
  res : Blk wr R 65 Z
  tab : Blk wr T 65 (vs t)
  rdr : IsRd base g s wr
  keeps : Keeps (· = g) w wr
structure TkAt (w : World) (g B R T : Nat) : Prop where
  lg : g < w.heap.size
  lB : w.heap.size ≤ B
  lR : w.heap.size ≤ R
  lT : w.heap.size ≤ T
  BT : B ≠ T
  RT : R ≠ T
theorem Tk.next {w wr w1 : World} {g base B R T : Nat} {Z : Array Value} {t : List Int} {s s1 : RS} (a : TkAt w g B R T) (h : Tk w wr g base B R T Z t s) (hr : IsRd base g s1 w1) (k : Keeps (· = g) wr w1) : Tk w w1 g base B R T Z t s1 :=
  ⟨h.box.keeps k (fun e => by have := a.lg; have := a.lB; omega), h.res.keeps k (fun e => by have := a.lg; have := a.lR; omega), h.tab.keeps k (fun e => by have := a.lg; have := a.lT; omega), hr, h.keeps.trans k⟩
theorem Tk.more {w wr w1 : World} {g base B R T : Nat} {Z : Array Value} {t : List Int} {s : RS} (h : Tk w wr g base B R T Z t s) (k : Keeps (fun _ => False) wr w1) : Tk w w1 g base B R T Z t s :=
  ⟨h.box.keeps k id, h.res.keeps k id, h.tab.keeps k id, h.rdr.keeps k (fun _ _ h => h), h.keeps.trans k.none_⟩
theorem Tk.set {w wr : World} {g base B R T : Nat} {Z : Array Value} {t : List Int} {s : RS} (a : TkAt w g B R T) (h : Tk w wr g base B R T Z t s) (c : Nat) (y : Int) : Tk w (wr.setCell ⟨T, c, none⟩ (.int .i64 y)) g base B R T Z (t.set c y) s := by
  have k : Keeps (· = T) wr (wr.setCell ⟨T, c, none⟩ (.int .i64 y)) := (Keeps.refl (· = T) wr).setCell (p := ⟨T, c, none⟩) (.inl rfl) _
  refine ⟨h.box.keeps k a.BT, h.res.keeps k a.RT, ?_, h.rdr.low k (fun b _ hb e => by have := a.lg; have := a.lT; omega), h.keeps.setCell (p := ⟨T, c, none⟩) (.inr a.lT) _⟩
  rw [← vs_set]
  exact h.tab.setCell c _
theorem chk_ne_zs : chk zs ≠ 0 := by decide +kernel

def TakeAns (base g : Nat) (s : RS) (w : World) (r : Ending) (w' : World) : Prop :=
  r = .returned (.agg (vs (takeT s).1)) ∧ IsRd base g (takeT s).2 w' ∧ Keeps (· = g) w w'
theorem take_zero (t : List Int) (nx : Nat) (s : RS) : takeLoop 0 t nx s = (t, s, true) := rfl
theorem loop_far {n : Nat} {t : List Int} {nx : Nat} {s s1 : RS} {x : Int} (hp : RS.int s = (x, s1)) (h : 256 ≤ nx + x.toNat) : takeLoop (n + 1) t nx s = (zs, s1.fail 2, false) := by
  rw [takeLoop, hp]
  exact if_pos h
theorem loop_none {n : Nat} {t : List Int} {nx : Nat} {s s1 s2 : RS} {x : Int} (hp : RS.int s = (x, s1)) (h : ¬ 256 ≤ nx + x.toNat) (hq : RS.int s1 = (0, s2)) : takeLoop (n + 1) t nx s = (zs, s2.fail 2, false) := by
  rw [takeLoop, hp]
  simp only
  rw [if_neg h, hq]
  exact if_pos rfl
theorem loop_next {n : Nat} {t : List Int} {nx : Nat} {s s1 s2 : RS} {x y : Int} (hp : RS.int s = (x, s1)) (h : ¬ 256 ≤ nx + x.toNat) (hq : RS.int s1 = (y, s2)) (hy : y ≠ 0) : takeLoop (n + 1) t nx s = takeLoop n (t.set (nx + x.toNat) y) (nx + x.toNat + 1) s2 := by
  rw [takeLoop, hp]
  simp only
  rw [if_neg h, hq]
  exact if_neg hy
theorem ret_one {fn : Func} (h : fn.results = #[.cell 2 65]) (tmps : Array Value) (w : World) (g : Nat) (v : Array Value) (hi : (Try.prog.info? 65).map (·.size) = some v.size)
    (hp : tmps.getD 2 undef = .pointer (some ⟨g, 0, none⟩)) (hb : Blk w g 65 v) : (results fn tmps).run Try.prog w = .ok (.agg v) w :=
  results_cell_row h tmps w g 65 v (0, 0) _ hp hb Try.underlying65 rfl hi

set_option maxRecDepth 100000 in
set_option maxHeartbeats 1000000 in
theorem take (g : Nat) (s : RS) (base : Nat) (w : World) (h : IsRd base g s w) : Calls Try.prog 47 #[rd g] w (TakeAns base g s w) := by
  have H := Lib.hid h
  have hz : ∀ w, (zeroValue 65).run Try.prog w = .ok (.agg (vs zs)) w := tab_zero
  have hbu := run_tab
  have HZI : Hid ((Try.prog.info? 65).map (·.size) = some (vs zs).size) := tab_size zs_len
  have HZ1 : Hid ((vs zs).all (·.oneCell') = true) := vs_one _
  generalize hZ : vs zs = Z at hz hbu HZI HZ1
  have HZS := Lib.hid hZ
  have HZL : Hid (Z.size = 256) := by show _ = _; rw [← hZ, vs_size, zs_len]
  have HT : Hid (∀ r w', r = .returned (.agg (vs (takeT s).1)) → IsRd base g (takeT s).2 w' → Keeps (· = g) w w' → TakeAns base g s w r w') := fun r w' h1 h2 h3 => ⟨h1, h2, h3⟩
  obtain ⟨n, s0, hc⟩ : ∃ n s0, RS.count s 256 = (n, s0) := ⟨_, _, rfl⟩
  have HC := Lib.hid (fun W hr => Ir.count g s base 256 W hr)
  rw [hc] at HC
  have hnb : 0 ≤ n ∧ n ≤ 256 := by
    have h1 := int_in h.2.1
    rw [RS.count] at hc
    split at hc
    · injection hc with h2 _; omega
    · rw [hc] at h1; simp only at h1
      next h3 => rw [hc] at h3; simp only at h3; omega
  obtain ⟨N, rfl⟩ : ∃ N : Nat, n = (N : Int) := ⟨n.toNat, by omega⟩
  have HTT : Hid (takeT s = if (takeLoop N zs 0 s0).2.2 then takeEnd (takeLoop N zs 0 s0).1 (takeLoop N zs 0 s0).2.1 else ((takeLoop N zs 0 s0).1, (takeLoop N zs 0 s0).2.1)) := by
    show _ = _
    rw [takeT, hc]
    simp only [Int.toNat_natCast]
  clear h hZ hc
  unfold rd at HC ⊢
  go_enter Try.func47, Try.ntmps47
  go_upto_region 1 with fail
  obtain ⟨B, hB⟩ : ∃ B, w.heap.size = B := ⟨_, rfl⟩
  obtain ⟨R, hR⟩ : ∃ R, w.heap.size + 1 = R := ⟨_, rfl⟩
  generalize hW : (w.alloc (.cells #[.pointer (some ⟨g, 0, none⟩)] 54)).alloc (.cells Z 65) = W
  have HB : Hid (Blk W B 54 #[.pointer (some ⟨g, 0, none⟩)]) := by show Blk _ _ _ _; rw [← hW, ← hB]; exact (Blk.new _ _ _).alloc _
  have HR : Hid (Blk W R 65 Z) := by show Blk _ _ _ _; rw [← hW, ← hR, show w.heap.size + 1 = (w.alloc (.cells #[.pointer (some ⟨g, 0, none⟩)] 54)).heap.size by simp]; exact Blk.new _ _ _
  have HK : Hid (Keeps (fun _ => False) w W) := by show Keeps _ _ _; rw [← hW]; exact ((Keeps.refl _ _).alloc _).alloc _
  have HBe := Lib.hid hB
  have HRe := Lib.hid hR
  rw [hR, hB]
  clear hR hB hW
  go_upto_region 2 with ((with_reducible refine st_row (Blk.new _ 65 Z) HZI.out rfl HZ1.out ?_ ?_ ?_); rfl; rfl)
  obtain ⟨T, hT⟩ : ∃ T, W.heap.size = T := ⟨_, rfl⟩
  generalize hW : (W.alloc (.cells Z 65)).setRow W.heap.size Z = W2
  have HAt : Hid (TkAt w g B R T) := by
    have h1 := HB.out.lt
    have h2 := HR.out.lt
    have h3 := HBe.out
    have h4 := HRe.out
    exact ⟨H.out.lt, by omega, by omega, by omega, by omega, by omega⟩
  have HK2 : Hid (Keeps (fun _ => False) w W2) := by show Keeps _ _ _; rw [← hW]; exact Keeps.setRow (HK.out.alloc _) (.inr HK.out.size) _
  have HTk : Hid (Tk w W2 g base B R T Z zs s) := by
    have h1 := HB.out.lt
    have h2 := HR.out.lt
    refine ⟨?_, ?_, ?_, H.out.keeps HK2.out (fun _ _ h => h), HK2.out.none_⟩
    · rw [← hW]; exact Blk.setRowFar (HB.out.alloc _) (by omega) _
    · rw [← hW]; exact Blk.setRowFar (HR.out.alloc _) (by omega) _
    · rw [← hW, ← hT, HZS.out]; exact Blk.setRow (Blk.new _ _ _) _
  rw [hT]
  have hb0 : W2.cell? ⟨B, 0, none⟩ = some (.pointer (some ⟨g, 0, none⟩)) := HTk.out.box.cell 0
  clear hT hW HB HR HK HK2 HBe HRe H
  go_wp2_with (go_at_call 19; refine (HC.out W2 HTk.out.rdr).mono ?_; rintro e w3 ⟨rfl, hr3, hk3⟩; have HTk3 := Lib.hid (HTk.out.next HAt.out hr3 hk3); clear hr3 hk3 HTk hb0)
  go_loopw [4, 10] (fun nv i wr => ∃ (j nx : Nat) (t : List Int) (s1 : RS), j ≤ N ∧ nv = .int .i64 (nx : Int) ∧ i = .int .i64 (j : Int) ∧ nx ≤ 256 ∧ Hid (t.length = 256 ∧ takeLoop N zs 0 s0 = takeLoop (N - j) t nx s1 ∧ Tk w wr g base B R T Z t s1)) (fun _ i _ => N - (intOf i).toNat)
  case atStart => exact ⟨0, 0, zs, s0, by omega, rfl, rfl, by omega, Lib.hid ⟨zs_len, rfl, HTk3.out⟩⟩
  case round =>
    clear HTk3
    obtain ⟨j, nx, t, s1, hj, rfl, rfl, hnx, HH⟩ := hrel
    obtain ⟨htl, hlo, htk⟩ := HH.out
    have HTL := Lib.hid htl
    have HLO := Lib.hid hlo
    have HTK := Lib.hid htk
    clear htl hlo htk HH
    by_cases hlt : j < N
    · obtain ⟨x, s2, hp⟩ : ∃ x s2, RS.int s1 = (x, s2) := ⟨_, _, rfl⟩
      have hxb := int_in HTK.out.rdr.2.1
      have HI := Lib.hid (fun W hr => Ir.int g s1 base W hr)
      rw [hp] at HI hxb
      simp only at hxb
      unfold rd at HI
      obtain ⟨xn, rfl⟩ : ∃ xn : Nat, x = (xn : Int) := ⟨x.toNat, by omega⟩
      have HP := Lib.hid hp
      have HSub : Hid (N - j = (N - (j + 1)) + 1) := by show _ = _; omega
      have hb0 : wr.cell? ⟨B, 0, none⟩ = some (.pointer (some ⟨g, 0, none⟩)) := HTK.out.box.cell 0
      have hw1 : IntKind.i64.wrap (xn : Int) = (xn : Int) := IntWalk.i64_in _ (by omega)
      have hw2 : IntKind.i64.wrap ((nx : Int) + (xn : Int)) = (nx : Int) + (xn : Int) := IntWalk.i64_in _ (by omega)
      have hj1 : (j : Int) < (N : Int) := by omega
      clear hp
      go_upto_region 6 with (go_at_call 42; refine (HI.out wr HTK.out.rdr).mono ?_; rintro e w4 ⟨rfl, hr4, hk4⟩; have HTk4 := Lib.hid (HTK.out.next HAt.out hr4 hk4); clear hr4 hk4 HTK hb0)
      have hb4 : w4.cell? ⟨B, 0, none⟩ = some (.pointer (some ⟨g, 0, none⟩)) := HTk4.out.box.cell 0
      by_cases hfar : 256 ≤ nx + xn
      · have HRes : Hid (takeT s = (zs, s2.fail 2)) := by
          show _ = _
          rw [HTT.out, HLO.out, HSub.out, loop_far HP.out (by simpa using hfar)]
          rfl
        have hf1 : (256 : Int) ≤ (nx : Int) + (xn : Int) := by omega
        have HF := Lib.hid (Wr.fail g s2 base 2 w4 HTk4.out.rdr)
        go_wp2_with (first
          | (go_at_call 43; refine HF.out.mono ?_; rintro e w5 ⟨rfl, hr5, hk5⟩; have HTk5 := Lib.hid (HTk4.out.next HAt.out hr5 hk5); clear hr5 hk5 HTk4 hb4)
          | ((with_reducible refine st_row HTk5.out.res HZI.out rfl HZ1.out ?_ ?_ ?_); rfl; rfl))
        have hk6 : Keeps (· = R) w5 (w5.setRow R Z) := Keeps.setRow (Keeps.refl (· = R) w5) (.inl rfl) _
        refine bodyPost_ret (v := .agg Z) ?_ rfl (HT.out _ _ (by rw [HRes.out, HZS.out]) (by rw [HRes.out]; exact HTk5.out.rdr.low hk6 (fun b _ hb e => by have := HAt.out.lg; have := HAt.out.lR; omega)) (Keeps.setRow HTk5.out.keeps (.inr HAt.out.lR) _))
        exact ret_one rfl _ _ R Z HZI.out rfl (Blk.setRow HTk5.out.res _)
      · obtain ⟨y, s3, hq⟩ : ∃ y s3, RS.int s2 = (y, s3) := ⟨_, _, rfl⟩
        have hyb := int_in HTk4.out.rdr.2.1
        have HI2 := Lib.hid (fun W hr => Ir.int g s2 base W hr)
        rw [hq] at HI2 hyb
        simp only at hyb
        unfold rd at HI2
        obtain ⟨c, hc⟩ : ∃ c, nx + xn = c := ⟨_, rfl⟩
        have hci : (nx : Int) + (xn : Int) = (c : Int) := by omega
        have hf1 : ¬ (256 : Int) ≤ (c : Int) := by omega
        have hc0 : (0 : Int) ≤ (c : Int) := by omega
        have hc1 : (c : Int) < 256 := by omega
        have HCE := Lib.hid hc
        have HQ := Lib.hid hq
        have hw3 : IntKind.i64.wrap y = y := IntWalk.i64_in _ (by omega)
        have hw4 : IntKind.i64.wrap ((c : Int) + 1) = (c : Int) + 1 := IntWalk.i64_in _ (by omega)
        have hcn : c < 256 := by omega
        rw [hci]
        clear hq hc hci hw2 hfar
        have HFar : Hid (¬ 256 ≤ nx + ((xn : Int)).toNat) := by show ¬ _; rw [Int.toNat_natCast, HCE.out]; omega
        go_upto_region 9 with fail
        obtain ⟨W5, hW5⟩ : ∃ W5 : World, W5 = W5 := ⟨w4, rfl⟩
        clear hW5 W5
        go_upto_region 10 with (
          go_at_call 42
          refine (HI2.out w4 HTk4.out.rdr).mono ?_
          rintro e w5 ⟨rfl, hr5, hk5⟩
          have HTk5 := Lib.hid (HTk4.out.next HAt.out hr5 hk5)
          obtain ⟨u, hu⟩ : ∃ u, t.getD c 0 = u := ⟨_, rfl⟩
          have hcT : w5.cell? ⟨T, c, none⟩ = some (.int .i64 u) := by rw [HTk5.out.tab.cell, vs_get (by rw [HTL.out]; exact hcn), hu]
          have hfT : w5.frozen? ⟨T, c, none⟩ = false := HTk5.out.tab.frozen c
          clear hr5 hk5 HTk4 hb4 hu)
        have htk6 := HTk5.out.set HAt.out c y
        generalize hW6 : w5.setCell ⟨T, c, none⟩ (.int .i64 y) = w6 at htk6
        have HTk6 := Lib.hid htk6
        have hc6 : w6.cell? ⟨T, c, none⟩ = some (.int .i64 y) := by rw [htk6.tab.cell, vs_get (by rw [List.length_set, HTL.out]; exact hcn), List.getD, List.getElem?_set_self (by rw [HTL.out]; exact hcn)]; rfl
        have hb6 : w6.cell? ⟨B, 0, none⟩ = some (.pointer (some ⟨g, 0, none⟩)) := htk6.box.cell 0
        try rw [hW6]
        clear hW6 htk6 HTk5 hcT hfT
        by_cases hy0 : y = 0
        · subst hy0
          have HRes : Hid (takeT s = (zs, s3.fail 2)) := by
            show _ = _
            rw [HTT.out, HLO.out, HSub.out, loop_none HP.out HFar.out HQ.out]
            rfl
          have HF := Lib.hid (Wr.fail g s3 base 2 w6 HTk6.out.rdr)
          go_wp2_with (first
            | (go_at_call 43; refine HF.out.mono ?_; rintro e w7 ⟨rfl, hr7, hk7⟩; have HTk7 := Lib.hid (HTk6.out.next HAt.out hr7 hk7); clear hr7 hk7 HTk6 hb6 hc6)
            | ((with_reducible refine st_row HTk7.out.res HZI.out rfl HZ1.out ?_ ?_ ?_); rfl; rfl))
          have hk8 : Keeps (· = R) w7 (w7.setRow R Z) := Keeps.setRow (Keeps.refl (· = R) w7) (.inl rfl) _
          refine bodyPost_ret (v := .agg Z) ?_ rfl (HT.out _ _ (by rw [HRes.out, HZS.out]) (by rw [HRes.out]; exact HTk7.out.rdr.low hk8 (fun b _ hb e => by have := HAt.out.lg; have := HAt.out.lR; omega)) (Keeps.setRow HTk7.out.keeps (.inr HAt.out.lR) _))
          exact ret_one rfl _ _ R Z HZI.out rfl (Blk.setRow HTk7.out.res _)
        · have hy1 : (y == 0) = false := by simpa using hy0
          have HNx : Hid (takeLoop N zs 0 s0 = takeLoop (N - (j + 1)) (t.set c y) (c + 1) s3) := by
            show _ = _
            rw [HLO.out, HSub.out, loop_next HP.out HFar.out HQ.out hy0, Int.toNat_natCast, HCE.out]
          go_wp2_with fail
          exact ⟨⟨j + 1, c + 1, t.set c y, s3, by omega, by go_num, by go_num, by omega, Lib.hid ⟨by rw [List.length_set, HTL.out], HNx.out, HTk6.out⟩⟩, by simp [intOf]; omega⟩
    · obtain rfl : j = N := by omega
      have HLE : Hid (takeT s = takeEnd t s1) := by
        show _ = _
        rw [HTT.out, HLO.out, Nat.sub_self, take_zero]
        rfl
      obtain ⟨v, hv⟩ : ∃ v, vs t = v := ⟨_, rfl⟩
      have HV := Lib.hid hv
      have HVI : Hid ((Try.prog.info? 65).map (·.size) = some v.size) := by show _ = _; rw [← hv]; exact tab_size HTL.out
      have HV1 : Hid (v.all (·.oneCell') = true) := by show _ = _; rw [← hv]; exact vs_one _
      have HZV : Hid (Z.size = v.size) := by show _ = _; rw [← hv, HZL.out, vs_size, HTL.out]
      have HBT : Hid (Blk wr T 65 v) := by show Blk _ _ _ _; rw [← hv]; exact HTK.out.tab
      obtain ⟨k, hk⟩ : ∃ k, chk t = k := ⟨_, rfl⟩
      have HCH : Hid (∀ w, Calls Try.prog 54 #[.agg v] w fun r w' => r = .returned (.int .i64 k) ∧ w' = w.alloc (.cells v 65)) := by
        refine Lib.hid fun w => ?_
        rw [← hv, ← hk]
        exact check t w HTL.out
      have HKE := Lib.hid hk
      clear hv hk hlt
      go_upto_region 16 with (first
        | (go_at_call 54; refine (HCH.out _).mono ?_; rintro e w4 ⟨rfl, hw4⟩; have HTk4 : Hid (Tk w w4 g base B R T Z t s1) := (by rw [hw4]; exact HTK.out.more ((Keeps.refl _ _).alloc _)); clear hw4 HTK HBT)
        | ((with_reducible refine ld_row HBT.out Try.underlying65 HVI.out ?_ ?_); rfl))
      have hb4 : w4.cell? ⟨B, 0, none⟩ = some (.pointer (some ⟨g, 0, none⟩)) := HTk4.out.box.cell 0
      by_cases hk0 : k = 0
      · subst hk0
        have HEnd : Hid (takeEnd t s1 = (if s1.e ≠ 0 then zs else t, s1)) := by show _ = _; rw [takeEnd, HKE.out]; rfl
        have HErr := Lib.hid (Wr.err g s1 base w4 HTk4.out.rdr)
        by_cases he : s1.e = 0
        · have HRes : Hid (takeT s = (t, s1)) := by show _ = _; rw [HLE.out, HEnd.out, if_neg (by simpa using he)]
          rw [he] at HErr
          go_wp2_with (first
            | (go_at_call 45; refine HErr.out.mono ?_; rintro e w5 ⟨rfl, rfl⟩; clear HErr)
            | ((with_reducible refine ld_row HTk4.out.tab Try.underlying65 (tab_size HTL.out) ?_ ?_); rfl)
            | ((with_reducible refine st_row HTk4.out.res (tab_size HTL.out) (by rw [HZL.out, vs_size, HTL.out]) (vs_one _) ?_ ?_ ?_); rfl; rfl))
          have hk8 : Keeps (· = R) w4 (w4.setRow R (vs t)) := Keeps.setRow (Keeps.refl (· = R) w4) (.inl rfl) _
          refine bodyPost_ret (v := .agg (vs t)) ?_ rfl (HT.out _ _ (by rw [HRes.out]) (by rw [HRes.out]; exact HTk4.out.rdr.low hk8 (fun b _ hb e => by have := HAt.out.lg; have := HAt.out.lR; omega)) (Keeps.setRow HTk4.out.keeps (.inr HAt.out.lR) _))
          exact ret_one rfl _ _ R (vs t) (tab_size HTL.out) rfl (Blk.setRow HTk4.out.res _)
        · have HRes : Hid (takeT s = (zs, s1)) := by show _ = _; rw [HLE.out, HEnd.out, if_pos he]
          obtain ⟨er, her⟩ : ∃ er, s1.e = er := ⟨_, rfl⟩
          rw [her] at HErr he
          have he1 : (er == 0) = false := by simpa using he
          clear her
          go_wp2_with (first
            | (go_at_call 45; refine HErr.out.mono ?_; rintro e w5 ⟨rfl, rfl⟩; clear HErr)
            | ((with_reducible refine st_row HTk4.out.res HZI.out rfl HZ1.out ?_ ?_ ?_); rfl; rfl))
          have hk8 : Keeps (· = R) w4 (w4.setRow R Z) := Keeps.setRow (Keeps.refl (· = R) w4) (.inl rfl) _
          refine bodyPost_ret (v := .agg Z) ?_ rfl (HT.out _ _ (by rw [HRes.out, HZS.out]) (by rw [HRes.out]; exact HTk4.out.rdr.low hk8 (fun b _ hb e => by have := HAt.out.lg; have := HAt.out.lR; omega)) (Keeps.setRow HTk4.out.keeps (.inr HAt.out.lR) _))
          exact ret_one rfl _ _ R Z HZI.out rfl (Blk.setRow HTk4.out.res _)
      · have hk1 : (k == 0) = false := by simpa using hk0
        have HF := Lib.hid (Wr.fail g s1 base k w4 HTk4.out.rdr)
        have hne : (s1.fail k).e ≠ 0 := by
          unfold RS.fail
          split
          · exact hk0
          · next h => exact h
        have HRes : Hid (takeT s = (zs, s1.fail k)) := by show _ = _; rw [HLE.out, takeEnd, HKE.out, if_pos hk0, if_pos hne]
        obtain ⟨s5, hs5⟩ : ∃ s5, s1.fail k = s5 := ⟨_, rfl⟩
        rw [hs5] at HF hne HRes
        obtain ⟨er, her⟩ : ∃ er, s5.e = er := ⟨_, rfl⟩
        rw [her] at hne
        have he1 : (er == 0) = false := by simpa using hne
        have HER := Lib.hid her
        clear hs5 her
        go_wp2_with (first
          | (go_at_call 43; refine HF.out.mono ?_; rintro e w5 ⟨rfl, hr5, hk5⟩; have HTk5 := Lib.hid (HTk4.out.next HAt.out hr5 hk5); have hb5 : w5.cell? ⟨B, 0, none⟩ = some (.pointer (some ⟨g, 0, none⟩)) := HTk5.out.box.cell 0; have HErr := Lib.hid (Wr.err g s5 base w5 HTk5.out.rdr); rw [HER.out] at HErr; clear hr5 hk5 HTk4 hb4 HF)
          | (go_at_call 45; refine HErr.out.mono ?_; rintro e w6 ⟨rfl, rfl⟩; clear HErr)
          | ((with_reducible refine st_row HTk5.out.res HZI.out rfl HZ1.out ?_ ?_ ?_); rfl; rfl))
        have hk8 : Keeps (· = R) w5 (w5.setRow R Z) := Keeps.setRow (Keeps.refl (· = R) w5) (.inl rfl) _
        refine bodyPost_ret (v := .agg Z) ?_ rfl (HT.out _ _ (by rw [HRes.out, HZS.out]) (by rw [HRes.out]; exact HTk5.out.rdr.low hk8 (fun b _ hb e => by have := HAt.out.lg; have := HAt.out.lR; omega)) (Keeps.setRow HTk5.out.keeps (.inr HAt.out.lR) _))
        exact ret_one rfl _ _ R Z HZI.out rfl (Blk.setRow HTk5.out.res _)
end Go.Proofs.Ytnanmenoemajfaa.Fb
