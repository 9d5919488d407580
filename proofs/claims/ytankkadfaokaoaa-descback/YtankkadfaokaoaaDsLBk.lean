/- DescBack's walk: ways by small numbers, put, taken and looked at. -/
import Derived.Test.YtankkadfaokaoaaJAwake9DsTkP
import Derived.Test.YtankkadfaokaoaaDsSmA
import Derived.Test.YtankkadfaokaoaaDsTold
import Derived.Test.YtankkadfaokaoaaDsTkII
import Derived.Test.YtankkadfaokaoaaDsTkAA
import Derived.Test.YtankkadfaokaoaaDsSameA
import Derived.Test.YtankkadfaokaoaaDsPutA
import Derived.Test.YtankkadfaokaoaaDsTwo
import Derived.Test.YtankkadfaokaoaaJDsTwoRDsByt
import Derived.Outline
import Derived.Deep.RegionHeld3
import Derived.Deep.CutRange
import Derived.Deep.CutBlock
import Derived.RegionTactic
import Derived.BigQuiet
namespace Go.Proofs.Ytankkadfaokaoaa.Ds
open Go.RowKit Go.Proofs.Ytankkadfaokaoaa.Gen Go.Proofs.Ytankkadfaokaoaa.Wr Go.Proofs.Ytankkadfaokaoaa.Ww Go.Proofs.Ytankkadfaokaoaa.It Go.Proofs.Ytankkadfaokaoaa.Iw Go.Proofs.Ytankkadfaokaoaa.Ir Go.Proofs.Ytankkadfaokaoaa.Ib Go.Proofs.Ytankkadfaokaoaa.Tw Go.Proofs.Ytankkadfaokaoaa.Ap Go.Proofs.Ytankkadfaokaoaa.Hr Go.Proofs.Ytankkadfaokaoaa.Hn Go.Proofs.Ytankkadfaokaoaa.Hk Go.Proofs.Ytankkadfaokaoaa.Ln

set_option maxHeartbeats 16000000 in
set_option maxRecDepth 100000 in
theorem back_ (s : Sm) (A0 : Option Addr) (c0 : Nat) (w : World) (h : s.ok) : Calls Try.prog 3 #[.agg (s.v A0 c0)] w fun r w' => r = .returned (.bool true) ∧ Keeps (fun _ => False) w w' := by
  obtain ⟨hi1, hi2, hi3⟩ := Sm.I_ok h
  obtain ⟨ha1, ha2, ha3⟩ := Sm.A_ok h
  have HMI := Lib.hid (fun (d : D) (hd : s.I = d) W => hd ▸ ints_ s A0 c0 W h)
  have HMA := Lib.hid (fun (a : E) (ha : s.A = a) W => ha ▸ arrays_ s A0 c0 W h)
  have HAE : Hid (s.A = if s.stop = true then ⟨D0, 5, 1 + s.B % 60000, s.S⟩ else ⟨s.I, 4, 1 + s.B % 60000, 0⟩) := rfl
  obtain ⟨d, hd⟩ : ∃ d, s.I = d := ⟨_, rfl⟩
  obtain ⟨a, ha⟩ : ∃ a, s.A = a := ⟨_, rfl⟩
  have HMI := Lib.hid (HMI.out d hd)
  have HMA := Lib.hid (HMA.out a ha)
  rw [hd] at hi1 hi2 hi3 HAE
  rw [ha] at ha1 ha2 ha3 HAE
  have HI1 := Lib.hid hi1
  have HI2 := Lib.hid hi2
  have HI3 := Lib.hid hi3
  have HA1 := Lib.hid ha1
  have HA2 := Lib.hid ha2
  have HA3 := Lib.hid ha3
  obtain ⟨K, bi, B, le, n, S, stop⟩ := s
  simp only at HAE
  have HSS := Lib.hid h.S
  have HBB := Lib.hid h.B
  simp only at HSS HBB
  clear hi1 hi2 hi3 ha1 ha2 ha3 hd ha h
  unfold Sm.v at HMI HMA ⊢
  simp only at HMI HMA ⊢
  go_enter Try.func3, Try.ntmps3
  go_upto_region 1 with fail
  have HB0 : Hid (Blk (w.alloc (.cells #[.int .u8 K, .int .u8 bi, .int .u16 B, .int .i16 le, .slice A0 n c0, .int .u8 S, .bool stop] 26)) w.heap.size 26 #[.int .u8 K, .int .u8 bi, .int .u16 B, .int .i16 le, .slice A0 n c0, .int .u8 S, .bool stop]) := Lib.hid (Blk.new _ _ _)
  have HK0 : Hid (Keeps (fun _ => False) w (w.alloc (.cells #[.int .u8 K, .int .u8 bi, .int .u16 B, .int .i16 le, .slice A0 n c0, .int .u8 S, .bool stop] 26))) := Lib.hid ((Keeps.refl _ _).alloc _)
  generalize w.alloc (.cells #[.int .u8 K, .int .u8 bi, .int .u16 B, .int .i16 le, .slice A0 n c0, .int .u8 S, .bool stop] 26) = W0 at HB0 HK0 ⊢
  go_upto_region 3 with (
    go_at_call 8
    refine (awake _).mono ?_
    rintro e w1 ⟨rfl, hk1⟩
    have HK1 := Lib.hid (HK0.out.trans hk1)
    have HB1 := Lib.hid (HB0.out.keeps hk1 id)
    clear hk1 HB0 HK0)
  have x0 := HB1.out.cell 0
  have x1 := HB1.out.cell 1
  have x2 := HB1.out.cell 2
  have x3 := HB1.out.cell 3
  have x4 := HB1.out.cell 4
  have x5 := HB1.out.cell 5
  have x6 := HB1.out.cell 6
  simp only [List.getElem?_toArray, List.getElem?_cons_zero, List.getElem?_cons_succ] at x0 x1 x2 x3 x4 x5 x6
  by_cases hg0 : 100 < n
  · have hd0 : decide ((100 : Int) < (n : Int)) = true := by rw [decide_eq_true_iff]; omega
    clear hg0
    go_wp2
    go_ret
    exact ⟨rfl, HK1.out⟩
  have hd0 : decide ((100 : Int) < (n : Int)) = false := by rw [decide_eq_false_iff_not]; omega
  clear hg0
  go_upto_region 5 with fail
  go_cut [3, 4] from 16 to 20 (fun v3 v4 wx => ∃ P Q A6 n6 c6 A7 n7 c7, v3 = .pointer (some ⟨P, 0, none⟩) ∧ v4 = .pointer (some ⟨Q, 0, none⟩) ∧ Hid (Keeps (fun _ => False) w1 wx ∧ Blk wx P 31 (dv A6 n6 c6 d) ∧ Blk wx Q 34 (av A7 n7 c7 a) ∧ Ents wx A6 n6 d.L ∧ Ents wx A7 n7 a.d.L ∧ (∀ b o, A6 = some ⟨b, o, none⟩ → w1.heap.size ≤ b) ∧ (∀ b o, A7 = some ⟨b, o, none⟩ → w1.heap.size ≤ b) ∧ w1.heap.size ≤ P ∧ w1.heap.size ≤ Q))
  case first =>
    refine wp_region_held_drew (S := fun w' => Keeps (fun _ => False) w1 w') (by kernel_rfl) ((Keeps.refl _ _).drewN 1) (fun hHeld => ?_)
    refine wpAnyH_take (i := 0) (v := ?v0) rfl (by kernel_rfl) (by kernel_rfl) (by kernel_rfl) (fun _ _ _ h => h) (Or.inl ⟨by rfl, ?y0⟩) hHeld ?r0
    case y0 => (intro w' hSw; have hb := HB1.out.keeps hSw id; have y0 := hb.cell 0; have y1 := hb.cell 1; have y2 := hb.cell 2; have y3 := hb.cell 3; have y4 := hb.cell 4; have y5 := hb.cell 5; have y6 := hb.cell 6; simp only [List.getElem?_toArray, List.getElem?_cons_zero, List.getElem?_cons_succ] at y0 y1 y2 y3 y4 y5 y6; go_simp; try with_reducible rfl)
    simp only [Act.put, List.getElem_toArray, List.getElem_cons_succ, List.getElem_cons_zero, List.setIfInBounds_toArray, List.set_cons_zero, List.set_cons_succ]
    refine wpAnyH_take (i := 2) (v := ?v2) rfl (by kernel_rfl) (by kernel_rfl) (by kernel_rfl) (fun _ _ _ h => h) (Or.inl ⟨by rfl, ?y2⟩) hHeld ?r2
    case y2 => (intro w' hSw; have hb := HB1.out.keeps hSw id; have y0 := hb.cell 0; have y1 := hb.cell 1; have y2 := hb.cell 2; have y3 := hb.cell 3; have y4 := hb.cell 4; have y5 := hb.cell 5; have y6 := hb.cell 6; simp only [List.getElem?_toArray, List.getElem?_cons_zero, List.getElem?_cons_succ] at y0 y1 y2 y3 y4 y5 y6; go_simp; try with_reducible rfl)
    simp only [Act.put, List.getElem_toArray, List.getElem_cons_succ, List.getElem_cons_zero, List.setIfInBounds_toArray, List.set_cons_zero, List.set_cons_succ]
    refine Ao.wpAnyH_vals [17, 19, 3, 4] [undef, undef, undef, undef] (fun L vs w' => ∃ s1 s3 s4 s5, vs = [s1, s3, s4, s5] ∧ L 0 = true ∧ L 2 = true ∧ Two d a w1.heap.size (fun _ w' => Keeps (fun _ => False) w1 w') L s1 s3 s4 s5 w') rfl rfl (by decide) (by kernel_rfl) ?h0 ?hS ?hs ?he
    case h0 => exact ⟨undef, undef, undef, undef, rfl, rfl, rfl, ⟨(Keeps.refl _ _).drewN 1, Nat.le_refl _, fun h => by simp at h, fun h => by simp at h, fun h => by simp at h, fun h => by simp at h, fun h => by simp at h, fun h => by simp at h, fun h => by simp at h, fun h => by simp at h, fun h => by simp at h, fun h => by simp at h⟩⟩
    case hS => exact fun L vs w' ⟨_, _, _, _, _, _, _, h⟩ => h.x
    case hs =>
      rintro L vs w' i o ⟨s1, s3, s4, s5, rfl, hL0, hL2, hT⟩ hLi hop hall
      have hi : i < 8 := (Array.getElem?_eq_some_iff.1 hop).1
      have hn0 : i ≠ 0 := fun e => by rw [e, hL0] at hLi; cases hLi
      have hn2 : i ≠ 2 := fun e => by rw [e, hL2] at hLi; cases hLi
      obtain rfl | rfl | rfl | rfl | rfl | rfl : i = 1 ∨ i = 3 ∨ i = 4 ∨ i = 5 ∨ i = 6 ∨ i = 7 := by omega
      all_goals simp only [List.getElem?_toArray, List.getElem?_cons_succ, List.getElem?_cons_zero, Option.some.injEq] at hop
      all_goals subst hop
      all_goals simp [Region.binds] at hall
      all_goals simp only [Ao.puts, Act.put, List.getElem_toArray, List.getElem_cons_succ, List.getElem_cons_zero, List.setIfInBounds_toArray, List.set_cons_zero, List.set_cons_succ]
      · refine wpOp_step rfl ?_
        intro K' hK
        have HK := Lib.hid hK
        have HT := Lib.hid hT
        clear hK hT
        go_simp

        go_at_call 9
        refine (HMI.out _).mono ?_
        rintro e w2 ⟨A, n', c, rfl, hE, hA, hk⟩
        go_simp
        exact HK.out _ _ ⟨[_, _, _, _], rfl, _, _, _, _, rfl, by simpa using hL0, by simpa using hL2, HT.out.call1 hLi hk (fun _ _ => id) (HT.out.x.trans hk) hE hA⟩
      · refine wpOp_step rfl ?_
        intro K' hK
        have HK := Lib.hid hK
        have HT := Lib.hid hT
        clear hK hT
        go_simp
        go_at_call 10
        refine (HMA.out _).mono ?_
        rintro e w2 ⟨A, n', c, rfl, hE, hA, hk⟩
        go_simp
        exact HK.out _ _ ⟨[_, _, _, _], rfl, _, _, _, _, rfl, by simpa using hL0, by simpa using hL2, HT.out.call3 hLi hk (fun _ _ => id) (HT.out.x.trans hk) hE hA⟩
      · refine wpOp_step rfl ?_
        intro K' hK
        have HK := Lib.hid hK
        have HT := Lib.hid hT
        clear hK hT
        go_simp
        exact HK.out _ _ ⟨[_, _, _, _], rfl, _, _, _, _, rfl, by simpa using hL0, by simpa using hL2, HT.out.new4 hLi (HT.out.x.alloc _)⟩
      · refine wpOp_step rfl ?_
        intro K' hK
        have HK := Lib.hid hK
        have HT := Lib.hid hT
        clear hK hT
        go_simp
        exact HK.out _ _ ⟨[_, _, _, _], rfl, _, _, _, _, rfl, by simpa using hL0, by simpa using hL2, HT.out.new5 hLi (HT.out.x.alloc _)⟩
      · obtain ⟨A, n', c, e1, _⟩ := hT.i (by simp [hall])
        obtain ⟨p, cs, e2, hp, hb, hz, _⟩ := hT.v (by simp [hall])
        have hz := hz hLi
        subst hz
        have h1 : L 1 = true := by simp [hall]
        have h3 : L 3 = true := by simp [hall]
        have h4 : L 4 = true := by simp [hall]
        have h5 : L 5 = true := by simp [hall]
        subst e1
        subst e2
        have HB := Lib.hid hb
        unfold z5 at hb
        have y0 := hb.cell 0
        have y1 := hb.cell 1
        have y2 := hb.cell 2
        have y3 := hb.cell 3
        have y4 := hb.cell 4
        simp only [List.getElem?_toArray, List.getElem?_cons_zero, List.getElem?_cons_succ] at y0 y1 y2 y3 y4
        have f0 := hb.frozen 0
        have f1 := hb.frozen 1
        have f2 := hb.frozen 2
        have f3 := hb.frozen 3
        have f4 := hb.frozen 4
        refine wpOp_step rfl ?_
        intro K' hK
        have HK := Lib.hid hK
        have HT := Lib.hid hT
        clear hK hT hb
        unfold dv
        go_simp
        exact HK.out _ _ ⟨[_, _, _, _], rfl, _, _, _, _, rfl, by simpa using hL0, by simpa using hL2, HT.out.put6 h1 h3 h4 h5 rfl rfl (keeps5 _ _ _ _ _ _ _) (put5 HB.out _ _ _ _ _) (keeps_high HT.out.x (keeps5 _ _ _ _ _ _ _) hp)⟩
      · obtain ⟨A, n', c, e1, _⟩ := hT.e (by simp [hall])
        obtain ⟨p, cs, e2, hp, hb, hz, _⟩ := hT.u (by simp [hall])
        have hz := hz hLi
        subst hz
        have h1 : L 1 = true := by simp [hall]
        have h3 : L 3 = true := by simp [hall]
        have h4 : L 4 = true := by simp [hall]
        have h5 : L 5 = true := by simp [hall]
        subst e1
        subst e2
        have HB := Lib.hid hb
        unfold z8 at hb
        have y0 := hb.cell 0
        have y1 := hb.cell 1
        have y2 := hb.cell 2
        have y3 := hb.cell 3
        have y4 := hb.cell 4
        have y5 := hb.cell 5
        have y6 := hb.cell 6
        have y7 := hb.cell 7
        simp only [List.getElem?_toArray, List.getElem?_cons_zero, List.getElem?_cons_succ] at y0 y1 y2 y3 y4 y5 y6 y7
        have f0 := hb.frozen 0
        have f1 := hb.frozen 1
        have f2 := hb.frozen 2
        have f3 := hb.frozen 3
        have f4 := hb.frozen 4
        have f5 := hb.frozen 5
        have f6 := hb.frozen 6
        have f7 := hb.frozen 7
        refine wpOp_step rfl ?_
        intro K' hK
        have HK := Lib.hid hK
        have HT := Lib.hid hT
        clear hK hT hb
        unfold av
        go_simp
        exact HK.out _ _ ⟨[_, _, _, _], rfl, _, _, _, _, rfl, by simpa using hL0, by simpa using hL2, HT.out.put7 h1 h3 h4 h5 rfl rfl (keeps8 _ _ _ _ _ _ _ _ _ _) (put8 HB.out _ _ _ _ _ _ _ _) (keeps_high HT.out.x (keeps8 _ _ _ _ _ _ _ _ _ _) hp)⟩
    case he =>
      rintro L vs w' ⟨s1, s3, s4, s5, rfl, _, _, hT⟩ hL
      obtain ⟨P, Q, A6, n6, c6, A7, n7, c7, rfl, rfl, g3, k3, e2, f2, e3, f3, g2, k2⟩ := hT.done hL
      have HX := Lib.hid hT.x
      simp only [Ao.puts, Act.put, List.getElem_toArray, List.getElem_cons_succ, List.getElem_cons_zero, List.setIfInBounds_toArray, List.set_cons_zero, List.set_cons_succ]
      go_wp2_with fail
      go_meet
      exact ⟨P, Q, A6, n6, c6, A7, n7, c7, rfl, rfl, Lib.hid ⟨HX.out, g3, k3, e2, f2, e3, f3, g2, k2⟩⟩
  case rest =>
    rename World => WC
    obtain ⟨P, Q, A6, n6, c6, A7, n7, c7, rfl, rfl, HW⟩ := hcut
    have HBK : Hid (Bk P Q w.heap.size #[.int .u8 K, .int .u8 bi, .int .u16 B, .int .i16 le, .slice A0 n c0, .int .u8 S, .bool stop] A6 n6 c6 A7 n7 c7 d a WC) := Lib.hid ⟨HB1.out.keeps HW.out.1 id, HW.out.2.1, HW.out.2.2.1, HW.out.2.2.2.1, HW.out.2.2.2.2.1⟩
    have HKW : Hid (Keeps (fun _ => False) w WC) := Lib.hid (HK1.out.trans HW.out.1)
    clear HW HMI HMA x0 x1 x2 x3 x4 x5 x6 hd0 HB1
    clear HK1
    have HCI : Hid (∀ W, Ents W A6 n6 d.L → Calls Try.prog 11 #[.agg (dv A6 n6 c6 d)] W fun r w' => r = .returned (.int .i64 0) ∧ Keeps (fun _ => False) W w') := fun W h => by have := check_i A6 n6 c6 d W h; rwa [HI1.out] at this
    have HCA : Hid (∀ W, Ents W A7 n7 a.d.L → Calls Try.prog 12 #[.agg (av A7 n7 c7 a)] W fun r w' => r = .returned (.int .i64 0) ∧ Keeps (fun _ => False) W w') := fun W h => by have := check_a A7 n7 c7 a W h; rwa [HA1.out] at this
    have HPI := Lib.hid (fun g base v ys W h h2 h3 h4 => put_i g base v ys A6 n6 c6 d W h h2 h3 h4 HI1.out)
    have HPA := Lib.hid (fun g base v ys W h h2 h3 h4 => put_a g base v ys A7 n7 c7 a W h h2 h3 h4 HA1.out)
    unfold dv at HCI HPI
    unfold av at HCA HPA
    go_upto_region 7 with fail
    obtain ⟨G, hG⟩ : ∃ G, WC.heap.size = G := ⟨_, rfl⟩
    have e1 : (WC.alloc (.cells #[.slice none 0 0] 40)).heap.size = G + 1 := by rw [← hG]; simp
    have HR1 : Hid (IsWr G G (.slice none 0 0) [] ((WC.alloc (.cells #[.slice none 0 0] 40)).alloc (.cells #[.slice none 0 0] 40))) := by
      have h1 := new_of 40 (by decide) WC
      rw [hG] at h1
      exact Lib.hid (h1.keeps ((Keeps.refl (fun _ => False) _).alloc _) (fun _ _ => id))
    have HR2 : Hid (IsWr (G + 1) (G + 1) (.slice none 0 0) [] ((WC.alloc (.cells #[.slice none 0 0] 40)).alloc (.cells #[.slice none 0 0] 40))) := by
      have h1 := new_of 40 (by decide) (WC.alloc (.cells #[.slice none 0 0] 40))
      rw [e1] at h1
      exact Lib.hid h1
    have HK6 : Hid (Keeps (fun _ => False) WC ((WC.alloc (.cells #[.slice none 0 0] 40)).alloc (.cells #[.slice none 0 0] 40))) := Lib.hid (((Keeps.refl _ _).alloc _).alloc _)
    generalize ((WC.alloc (.cells #[.slice none 0 0] 40)).alloc (.cells #[.slice none 0 0] 40)) = W6 at HR1 HR2 HK6 ⊢
    clear e1
    have HGW : Hid (WC.heap.size = G) := Lib.hid hG
    rw [hG]
    clear hG
    have pi0 := (HBK.out.more HK6.out).i.cell 0
    have pi1 := (HBK.out.more HK6.out).i.cell 1
    have pi2 := (HBK.out.more HK6.out).i.cell 2
    have pi3 := (HBK.out.more HK6.out).i.cell 3
    have pi4 := (HBK.out.more HK6.out).i.cell 4
    have pe0 := (HBK.out.more HK6.out).e.cell 0
    have pe1 := (HBK.out.more HK6.out).e.cell 1
    have pe2 := (HBK.out.more HK6.out).e.cell 2
    have pe3 := (HBK.out.more HK6.out).e.cell 3
    have pe4 := (HBK.out.more HK6.out).e.cell 4
    have pe5 := (HBK.out.more HK6.out).e.cell 5
    have pe6 := (HBK.out.more HK6.out).e.cell 6
    have pe7 := (HBK.out.more HK6.out).e.cell 7
    unfold dv at pi0 pi1 pi2 pi3 pi4
    unfold av at pe0 pe1 pe2 pe3 pe4 pe5 pe6 pe7
    simp only [List.getElem?_toArray, List.getElem?_cons_zero, List.getElem?_cons_succ] at pi0 pi1 pi2 pi3 pi4 pe0 pe1 pe2 pe3 pe4 pe5 pe6 pe7
    go_upto_region 9 with (first
      | (have H1 := HCI
         go_at_call 11
         refine (HCI.out _ (HBK.out.more HK6.out).ei).mono ?_
         rintro e w2 ⟨rfl, hk2⟩
         have HK7 := Lib.hid (HK6.out.trans hk2)
         have HR1a := Lib.hid (HR1.out.keeps hk2 (fun _ _ => id))
         have HR2a := Lib.hid (HR2.out.keeps hk2 (fun _ _ => id))
         have qi0 := (HBK.out.more HK7.out).i.cell 0
         have qi1 := (HBK.out.more HK7.out).i.cell 1
         have qi2 := (HBK.out.more HK7.out).i.cell 2
         have qi3 := (HBK.out.more HK7.out).i.cell 3
         have qi4 := (HBK.out.more HK7.out).i.cell 4
         have qe0 := (HBK.out.more HK7.out).e.cell 0
         have qe1 := (HBK.out.more HK7.out).e.cell 1
         have qe2 := (HBK.out.more HK7.out).e.cell 2
         have qe3 := (HBK.out.more HK7.out).e.cell 3
         have qe4 := (HBK.out.more HK7.out).e.cell 4
         have qe5 := (HBK.out.more HK7.out).e.cell 5
         have qe6 := (HBK.out.more HK7.out).e.cell 6
         have qe7 := (HBK.out.more HK7.out).e.cell 7
         unfold dv at qi0 qi1 qi2 qi3 qi4
         unfold av at qe0 qe1 qe2 qe3 qe4 qe5 qe6 qe7
         simp only [List.getElem?_toArray, List.getElem?_cons_zero, List.getElem?_cons_succ] at qi0 qi1 qi2 qi3 qi4 qe0 qe1 qe2 qe3 qe4 qe5 qe6 qe7
         clear hk2 H1 HCI
         clear pi0 pi1 pi2 pi3 pi4 pe0 pe1 pe2 pe3 pe4 pe5 pe6 pe7
         clear HR1 HR2)
      | (have H1 := HCA
         go_at_call 12
         refine (HCA.out _ (HBK.out.more HK7.out).ee).mono ?_
         rintro e w3 ⟨rfl, hk3⟩
         have HK8 := Lib.hid (HK7.out.trans hk3)
         have HR1b := Lib.hid (HR1a.out.keeps hk3 (fun _ _ => id))
         have HR2b := Lib.hid (HR2a.out.keeps hk3 (fun _ _ => id))
         have ri0 := (HBK.out.more HK8.out).i.cell 0
         have ri1 := (HBK.out.more HK8.out).i.cell 1
         have ri2 := (HBK.out.more HK8.out).i.cell 2
         have ri3 := (HBK.out.more HK8.out).i.cell 3
         have ri4 := (HBK.out.more HK8.out).i.cell 4
         have re0 := (HBK.out.more HK8.out).e.cell 0
         have re1 := (HBK.out.more HK8.out).e.cell 1
         have re2 := (HBK.out.more HK8.out).e.cell 2
         have re3 := (HBK.out.more HK8.out).e.cell 3
         have re4 := (HBK.out.more HK8.out).e.cell 4
         have re5 := (HBK.out.more HK8.out).e.cell 5
         have re6 := (HBK.out.more HK8.out).e.cell 6
         have re7 := (HBK.out.more HK8.out).e.cell 7
         unfold dv at ri0 ri1 ri2 ri3 ri4
         unfold av at re0 re1 re2 re3 re4 re5 re6 re7
         simp only [List.getElem?_toArray, List.getElem?_cons_zero, List.getElem?_cons_succ] at ri0 ri1 ri2 ri3 ri4 re0 re1 re2 re3 re4 re5 re6 re7
         clear hk3 H1 HCA
         clear qi0 qi1 qi2 qi3 qi4 qe0 qe1 qe2 qe3 qe4 qe5 qe6 qe7
         clear HR1a HR2a)
      | (have H1 := HPI
         go_at_call 13
         refine (HPI.out G G (.slice none 0 0) [] _ HR1b.out (HBK.out.more HK8.out).ei (ents_far HBK.out.ei (by rw [HGW.out]; exact Nat.le_refl _)) (by simp)).mono ?_
         rintro e w4 ⟨rfl, hw4⟩
         obtain ⟨h4a, h4b⟩ := hw4.all (Nat.le_refl _) rfl
         have HK9 := Lib.hid (keeps_high HK8.out h4b (by rw [HGW.out]; exact Nat.le_refl _))
         have HR1c := Lib.hid h4a
         have HR2c := Lib.hid (HR2b.out.keeps h4b (fun b hb e => by rcases hb with hb | hb; omega; cases hb))
         have ti0 := (HBK.out.more HK9.out).i.cell 0
         have ti1 := (HBK.out.more HK9.out).i.cell 1
         have ti2 := (HBK.out.more HK9.out).i.cell 2
         have ti3 := (HBK.out.more HK9.out).i.cell 3
         have ti4 := (HBK.out.more HK9.out).i.cell 4
         have te0 := (HBK.out.more HK9.out).e.cell 0
         have te1 := (HBK.out.more HK9.out).e.cell 1
         have te2 := (HBK.out.more HK9.out).e.cell 2
         have te3 := (HBK.out.more HK9.out).e.cell 3
         have te4 := (HBK.out.more HK9.out).e.cell 4
         have te5 := (HBK.out.more HK9.out).e.cell 5
         have te6 := (HBK.out.more HK9.out).e.cell 6
         have te7 := (HBK.out.more HK9.out).e.cell 7
         unfold dv at ti0 ti1 ti2 ti3 ti4
         unfold av at te0 te1 te2 te3 te4 te5 te6 te7
         simp only [List.getElem?_toArray, List.getElem?_cons_zero, List.getElem?_cons_succ] at ti0 ti1 ti2 ti3 ti4 te0 te1 te2 te3 te4 te5 te6 te7
         clear hw4 h4a h4b H1 HPI
         clear ri0 ri1 ri2 ri3 ri4 re0 re1 re2 re3 re4 re5 re6 re7
         clear HR1b HR2b)
      | (have H1 := HPA
         go_at_call 14
         refine (HPA.out (G + 1) (G + 1) (.slice none 0 0) [] _ HR2c.out (HBK.out.more HK9.out).ee (ents_far HBK.out.ee (by rw [HGW.out]; omega)) (by simp)).mono ?_
         rintro e w5 ⟨rfl, hw5⟩
         obtain ⟨h5a, h5b⟩ := hw5.all (Nat.le_refl _) rfl
         have HKA := Lib.hid (keeps_high HK9.out h5b (by rw [HGW.out]; omega))
         have HR1d : Hid (∃ v1, IsWr G G v1 ([] ++ bytI d) w5) := by
           obtain ⟨v1, hv1⟩ := HR1c.out
           obtain ⟨t, ht, hb⟩ := HR2c.out.2.2.2.2.1
           exact Lib.hid ⟨v1, hv1.keeps h5b (fun b hb' e => far hv1 hb (by omega) (Ne.symm ht) (by rw [← e]; exact hb'))⟩
         have HR2d := Lib.hid h5a
         have ui0 := (HBK.out.more HKA.out).i.cell 0
         have ui1 := (HBK.out.more HKA.out).i.cell 1
         have ui2 := (HBK.out.more HKA.out).i.cell 2
         have ui3 := (HBK.out.more HKA.out).i.cell 3
         have ui4 := (HBK.out.more HKA.out).i.cell 4
         have ue0 := (HBK.out.more HKA.out).e.cell 0
         have ue1 := (HBK.out.more HKA.out).e.cell 1
         have ue2 := (HBK.out.more HKA.out).e.cell 2
         have ue3 := (HBK.out.more HKA.out).e.cell 3
         have ue4 := (HBK.out.more HKA.out).e.cell 4
         have ue5 := (HBK.out.more HKA.out).e.cell 5
         have ue6 := (HBK.out.more HKA.out).e.cell 6
         have ue7 := (HBK.out.more HKA.out).e.cell 7
         unfold dv at ui0 ui1 ui2 ui3 ui4
         unfold av at ue0 ue1 ue2 ue3 ue4 ue5 ue6 ue7
         simp only [List.getElem?_toArray, List.getElem?_cons_zero, List.getElem?_cons_succ] at ui0 ui1 ui2 ui3 ui4 ue0 ue1 ue2 ue3 ue4 ue5 ue6 ue7
         clear hw5 h5a h5b H1 HPA
         clear ti0 ti1 ti2 ti3 ti4 te0 te1 te2 te3 te4 te5 te6 te7
         clear HR1c HR2c))
    obtain ⟨v1, hv1⟩ := HR1d.out
    obtain ⟨v2, hv2⟩ := HR2d.out
    rw [List.nil_append] at hv1 hv2
    have hbI := bytI_byte HI1.out
    have hSb : 0 ≤ a.S ∧ a.S < 256 := by
      rw [HAE.out]
      split
      · exact HSS.out
      · show (0 : Int) ≤ 0 ∧ (0 : Int) < 256
        omega
    have hbA := bytA_byte HA1.out hSb
    have hTI := TI_whole HI1.out HI2.out
    have hTA := TA_whole HA1.out HA2.out
    have HTL := Lib.hid (fun m W => told_ d m A6 n6 c6 W)
    have hlI := bytI_len d
    have hlA := bytA_len a
    have hi3 := HI3.out
    have ha3 := HA3.out
    obtain ⟨xs, hxs⟩ : ∃ xs, bytI d = xs := ⟨_, rfl⟩
    obtain ⟨ys, hys⟩ : ∃ ys, bytA a = ys := ⟨_, rfl⟩
    have HXS := Lib.hid hxs
    have HYS := Lib.hid hys
    rw [hxs] at hv1 hbI hTI hlI
    rw [hys] at hv2 hbA hTA hlA
    obtain ⟨m1, hm1⟩ : ∃ m1, xs.length = m1 := ⟨_, rfl⟩
    obtain ⟨m2, hm2⟩ : ∃ m2, ys.length = m2 := ⟨_, rfl⟩
    rw [hm1] at hlI hTI
    rw [hm2] at hlA hTA
    have hm1b : m1 ≤ 300 := by omega
    have hm2b : m2 ≤ 300 := by omega
    have HV1 := Lib.hid hv1
    have HV2 := Lib.hid hv2
    have HBI := Lib.hid hbI
    have HBA := Lib.hid hbA
    have HTI := Lib.hid hTI
    have HTA := Lib.hid hTA
    have HM1 := Lib.hid hm1
    have HM2 := Lib.hid hm2
    clear hv1 hv2 hbI hbA hTI hTA hm1 hm2 hlI hlA hi3 ha3 hxs hys hSb HR1d HR2d
    clear ui0 ui1 ui2 ui3 ui4 ue0 ue1 ue2 ue3 ue4 ue5 ue6 ue7
    go_cut [7, 8] from 44 to 54 (fun v7 v8 wx => ∃ X Y b1 g1 b2 g2, v7 = .pointer (some ⟨X, 0, none⟩) ∧ v8 = .pointer (some ⟨Y, 0, none⟩) ∧ Hid (Keeps (fun _ => False) w5 wx ∧ Blk wx X 46 #[.pointer (some ⟨g1, 0, none⟩)] ∧ Blk wx Y 46 #[.pointer (some ⟨g2, 0, none⟩)] ∧ IsRd b1 g1 ⟨xs, 0, 0⟩ wx ∧ IsRd b2 g2 ⟨ys, 0, 0⟩ wx ∧ w5.heap.size ≤ b1 ∧ w5.heap.size ≤ b2 ∧ w5.heap.size ≤ X ∧ w5.heap.size ≤ Y ∧ g1 ≠ g2))
    case first =>
      refine wp_region_held_drew (S := fun _ => True) (by kernel_rfl) trivial (fun hHeld => ?_)
      refine wpAnyH_take (i := 0) (v := ?vb0) rfl (by kernel_rfl) (by kernel_rfl) (by kernel_rfl) (fun _ _ _ h => h) (Or.inl ⟨by rfl, ?yb0⟩) hHeld ?rb0
      case yb0 => (intro w' hSw; go_simp; try with_reducible rfl)
      simp only [Act.put, List.getElem_toArray, List.getElem_cons_succ, List.getElem_cons_zero, List.setIfInBounds_toArray, List.set_cons_zero, List.set_cons_succ]
      refine wpAnyH_take (i := 1) (v := ?vb1) rfl (by kernel_rfl) (by kernel_rfl) (by kernel_rfl) (fun _ _ _ h => h) (Or.inl ⟨by rfl, ?yb1⟩) hHeld ?rb1
      case yb1 => (intro w' hSw; go_simp; try with_reducible rfl)
      simp only [Act.put, List.getElem_toArray, List.getElem_cons_succ, List.getElem_cons_zero, List.setIfInBounds_toArray, List.set_cons_zero, List.set_cons_succ]
      refine wpAnyH_take (i := 2) (v := ?vb2) rfl (by kernel_rfl) (by kernel_rfl) (by kernel_rfl) (fun _ _ _ h => h) (Or.inl ⟨by rfl, ?yb2⟩) hHeld ?rb2
      case yb2 => (intro w' hSw; go_simp; try with_reducible rfl)
      simp only [Act.put, List.getElem_toArray, List.getElem_cons_succ, List.getElem_cons_zero, List.setIfInBounds_toArray, List.set_cons_zero, List.set_cons_succ]
      refine wpAnyH_take (i := 5) (v := ?vb5) rfl (by kernel_rfl) (by kernel_rfl) (by kernel_rfl) (fun _ _ _ h => h) (Or.inl ⟨by rfl, ?yb5⟩) hHeld ?rb5
      case yb5 => (intro w' hSw; go_simp; try with_reducible rfl)
      simp only [Act.put, List.getElem_toArray, List.getElem_cons_succ, List.getElem_cons_zero, List.setIfInBounds_toArray, List.set_cons_zero, List.set_cons_succ]
      refine wpAnyH_take (i := 6) (v := ?vb6) rfl (by kernel_rfl) (by kernel_rfl) (by kernel_rfl) (fun _ _ _ h => h) (Or.inl ⟨by rfl, ?yb6⟩) hHeld ?rb6
      case yb6 => (intro w' hSw; go_simp; try with_reducible rfl)
      simp only [Act.put, List.getElem_toArray, List.getElem_cons_succ, List.getElem_cons_zero, List.setIfInBounds_toArray, List.set_cons_zero, List.set_cons_succ]
      refine wpAnyH_take (i := 7) (v := ?vb7) rfl (by kernel_rfl) (by kernel_rfl) (by kernel_rfl) (fun _ _ _ h => h) (Or.inl ⟨by rfl, ?yb7⟩) hHeld ?rb7
      case yb7 => (intro w' hSw; go_simp; try with_reducible rfl)
      simp only [Act.put, List.getElem_toArray, List.getElem_cons_succ, List.getElem_cons_zero, List.setIfInBounds_toArray, List.set_cons_zero, List.set_cons_succ]
      refine Ao.wpAnyH_vals [47, 48, 52, 53, 7, 8] [undef, undef, undef, undef, undef, undef] (fun L vs w' => ∃ s1 s2 s3 s4 s5 s6, vs = [s1, s2, s3, s4, s5, s6] ∧ (L 0 = true ∧ L 1 = true ∧ L 2 = true ∧ L 5 = true ∧ L 6 = true ∧ L 7 = true) ∧ TwoR xs ys m1 m2 w5 L s1 s2 s3 s4 s5 s6 w') rfl rfl (by decide) (by kernel_rfl) ?hb0 ?hbS ?hbs ?hbe
      case hb0 => exact ⟨undef, undef, undef, undef, undef, undef, rfl, ⟨rfl, rfl, rfl, rfl, rfl, rfl⟩, ⟨(Keeps.refl _ _).drewN 1, fun h => by simp at h, fun h => by simp at h, fun h => by simp at h, fun h => by simp at h, fun h => by simp at h, fun h => by simp at h, fun h => by simp at h, fun h => by simp at h, fun h => by simp at h, fun h => by simp at h⟩⟩
      case hbS => exact fun _ _ _ _ => trivial
      case hbs =>
        rintro L vs w' i o ⟨s1, s2, s3, s4, s5, s6, rfl, ⟨hL0, hL1, hL2, hL5, hL6, hL7⟩, hT⟩ hLi hop hall
        have hi : i < 14 := (Array.getElem?_eq_some_iff.1 hop).1
        have hn0 : i ≠ 0 := fun e => by rw [e, hL0] at hLi; cases hLi
        have hn1 : i ≠ 1 := fun e => by rw [e, hL1] at hLi; cases hLi
        have hn2 : i ≠ 2 := fun e => by rw [e, hL2] at hLi; cases hLi
        have hn5 : i ≠ 5 := fun e => by rw [e, hL5] at hLi; cases hLi
        have hn6 : i ≠ 6 := fun e => by rw [e, hL6] at hLi; cases hLi
        have hn7 : i ≠ 7 := fun e => by rw [e, hL7] at hLi; cases hLi
        obtain rfl | rfl | rfl | rfl | rfl | rfl | rfl | rfl : i = 3 ∨ i = 4 ∨ i = 8 ∨ i = 9 ∨ i = 10 ∨ i = 11 ∨ i = 12 ∨ i = 13 := by omega
        all_goals simp only [List.getElem?_toArray, List.getElem?_cons_succ, List.getElem?_cons_zero, Option.some.injEq] at hop
        all_goals subst hop
        all_goals simp [Region.binds] at hall
        all_goals simp only [Ao.puts, Act.put, List.getElem_toArray, List.getElem_cons_succ, List.getElem_cons_zero, List.setIfInBounds_toArray, List.set_cons_zero, List.set_cons_succ]
        · refine wpOp_step rfl ?_
          intro K' hK
          have HK := Lib.hid hK
          have HT := Lib.hid hT
          clear hK hT
          go_simp
          go_at_call 16
          refine (bytes_n G G v1 xs m1 _ HM1.out (HV1.out.keeps HT.out.k (fun _ _ => id))).mono ?_
          rintro e w6 ⟨A, c, rfl, hv, hk⟩
          go_simp
          exact HK.out _ _ ⟨[_, _, _, _, _, _], rfl, _, _, _, _, _, _, rfl, ⟨by simpa using hL0, by simpa using hL1, by simpa using hL2, by simpa using hL5, by simpa using hL6, by simpa using hL7⟩, (HT.out.more hk).bytes1 (Lies.of_own hv)⟩
        · obtain ⟨A, c, rfl, hl⟩ := hT.b1 (by simp [hall]) hLi
          refine wpOp_step rfl ?_
          intro K' hK
          have HK := Lib.hid hK
          have HT := Lib.hid hT
          clear hK hT
          go_simp
          go_at_call 15
          refine (iread A m1 c xs _ HM1.out hl (by omega) HBI.out).mono ?_
          rintro e w6 ⟨g, rfl, hr, hk⟩
          go_simp
          exact HK.out _ _ ⟨[_, _, _, _, _, _], rfl, _, _, _, _, _, _, rfl, ⟨by simpa using hL0, by simpa using hL1, by simpa using hL2, by simpa using hL5, by simpa using hL6, by simpa using hL7⟩, (HT.out.more hk).read1 hLi HT.out.k.size (fun h9 q hq => by obtain ⟨b, g', e1, e2, _⟩ := HT.out.r2 h9; have := rd_inj (e1.symm.trans hq); have := e2.lt; omega) hr⟩
        · refine wpOp_step rfl ?_
          intro K' hK
          have HK := Lib.hid hK
          have HT := Lib.hid hT
          clear hK hT
          go_simp
          go_at_call 16
          refine (bytes_n (G + 1) (G + 1) v2 ys m2 _ HM2.out (HV2.out.keeps HT.out.k (fun _ _ => id))).mono ?_
          rintro e w6 ⟨A, c, rfl, hv, hk⟩
          go_simp
          exact HK.out _ _ ⟨[_, _, _, _, _, _], rfl, _, _, _, _, _, _, rfl, ⟨by simpa using hL0, by simpa using hL1, by simpa using hL2, by simpa using hL5, by simpa using hL6, by simpa using hL7⟩, (HT.out.more hk).bytes2 (Lies.of_own hv)⟩
        · obtain ⟨A, c, rfl, hl⟩ := hT.b2 (by simp [hall]) hLi
          refine wpOp_step rfl ?_
          intro K' hK
          have HK := Lib.hid hK
          have HT := Lib.hid hT
          clear hK hT
          go_simp
          go_at_call 15
          refine (iread A m2 c ys _ HM2.out hl (by omega) HBA.out).mono ?_
          rintro e w6 ⟨g, rfl, hr, hk⟩
          go_simp
          exact HK.out _ _ ⟨[_, _, _, _, _, _], rfl, _, _, _, _, _, _, rfl, ⟨by simpa using hL0, by simpa using hL1, by simpa using hL2, by simpa using hL5, by simpa using hL6, by simpa using hL7⟩, (HT.out.more hk).read2 hLi HT.out.k.size (fun h9 q hq => by obtain ⟨b, g', e1, e2, _⟩ := HT.out.r1 h9; have := rd_inj (e1.symm.trans hq); have := e2.lt; omega) hr⟩
        · refine wpOp_step rfl ?_
          intro K' hK
          have HK := Lib.hid hK
          have HT := Lib.hid hT
          clear hK hT
          go_simp
          exact HK.out _ _ ⟨[_, _, _, _, _, _], rfl, _, _, _, _, _, _, rfl, ⟨by simpa using hL0, by simpa using hL1, by simpa using hL2, by simpa using hL5, by simpa using hL6, by simpa using hL7⟩, HT.out.new10 hLi⟩
        · refine wpOp_step rfl ?_
          intro K' hK
          have HK := Lib.hid hK
          have HT := Lib.hid hT
          clear hK hT
          go_simp
          exact HK.out _ _ ⟨[_, _, _, _, _, _], rfl, _, _, _, _, _, _, rfl, ⟨by simpa using hL0, by simpa using hL1, by simpa using hL2, by simpa using hL5, by simpa using hL6, by simpa using hL7⟩, HT.out.new11 hLi⟩
        · obtain ⟨base, g, e1, _⟩ := hT.r1 (by simp [hall])
          obtain ⟨p, cs, e2, hp, hb, hz, _⟩ := hT.v (by simp [hall])
          have hz := hz hLi
          subst hz
          have h4 : L 4 = true := by simp [hall]
          have h9 : L 9 = true := by simp [hall]
          have h10 : L 10 = true := by simp [hall]
          have h11 : L 11 = true := by simp [hall]
          subst e1
          subst e2
          have y0 := hb.cell 0
          simp only [List.getElem?_toArray, List.getElem?_cons_zero, List.getElem?_cons_succ] at y0
          have f0 := hb.frozen 0
          have HB := Lib.hid hb
          clear hb
          unfold rd
          refine wpOp_step rfl ?_
          intro K' hK
          have HK := Lib.hid hK
          have HT := Lib.hid hT
          clear hK hT
          go_simp
          exact HK.out _ _ ⟨[_, _, _, _, _, _], rfl, _, _, _, _, _, _, rfl, ⟨by simpa using hL0, by simpa using hL1, by simpa using hL2, by simpa using hL5, by simpa using hL6, by simpa using hL7⟩, HT.out.put12 h4 h9 h10 h11 rfl rfl ((Keeps.refl _ _).setOwn 0 _) (by simpa using HB.out.setCell 0 (.pointer (some ⟨g, 0, none⟩)))⟩
        · obtain ⟨base, g, e1, _⟩ := hT.r2 (by simp [hall])
          obtain ⟨p, cs, e2, hp, hb, hz, _⟩ := hT.u (by simp [hall])
          have hz := hz hLi
          subst hz
          have h4 : L 4 = true := by simp [hall]
          have h9 : L 9 = true := by simp [hall]
          have h10 : L 10 = true := by simp [hall]
          have h11 : L 11 = true := by simp [hall]
          subst e1
          subst e2
          have y0 := hb.cell 0
          simp only [List.getElem?_toArray, List.getElem?_cons_zero, List.getElem?_cons_succ] at y0
          have f0 := hb.frozen 0
          have HB := Lib.hid hb
          clear hb
          unfold rd
          refine wpOp_step rfl ?_
          intro K' hK
          have HK := Lib.hid hK
          have HT := Lib.hid hT
          clear hK hT
          go_simp
          exact HK.out _ _ ⟨[_, _, _, _, _, _], rfl, _, _, _, _, _, _, rfl, ⟨by simpa using hL0, by simpa using hL1, by simpa using hL2, by simpa using hL5, by simpa using hL6, by simpa using hL7⟩, HT.out.put13 h4 h9 h10 h11 rfl rfl ((Keeps.refl _ _).setOwn 0 _) (by simpa using HB.out.setCell 0 (.pointer (some ⟨g, 0, none⟩)))⟩
      case hbe =>
        rintro L vs w' ⟨s1, s2, s3, s4, s5, s6, rfl, _, hT⟩ hL
        have HX := Lib.hid hT.k
        obtain ⟨X, Y, b1, g1, b2, g2, rfl, rfl, h1, h2, h3, h4, h5, h6, h7, h8, h9⟩ := hT.done hL
        simp only [Ao.puts, Act.put, List.getElem_toArray, List.getElem_cons_succ, List.getElem_cons_zero, List.setIfInBounds_toArray, List.set_cons_zero, List.set_cons_succ]
        go_wp2_with fail
        go_meet
        exact ⟨X, Y, b1, g1, b2, g2, rfl, rfl, Lib.hid ⟨HX.out, h1, h2, h3, h4, h5, h6, h7, h8, h9⟩⟩
    case rest =>
      rename World => WD
      obtain ⟨X, Y, b1, g1, b2, g2, rfl, rfl, HR⟩ := hcut
      have HKB := Lib.hid (HKA.out.trans HR.out.1)
      have hk45 := (chkA_ok HA1.out)
      have haK : a.K = 4 ∨ a.K = 5 := by rcases hk45.2 with h | ⟨h, _⟩ <;> omega
      have haB := hk45.1
      have hwK : IntKind.u32.wrap a.K = a.K := IntWalk.u32_in _ (by omega)
      have hwB : IntKind.u32.wrap a.B = a.B := IntWalk.u32_in _ (by omega)
      have hK0 : 0 ≤ a.K ∧ a.K < 4294967296 := by omega
      have hB0 : 0 ≤ a.B ∧ a.B < 4294967296 := by omega
      obtain ⟨k1, hk1⟩ : ∃ k1, (encInt a.K).length = k1 := ⟨_, rfl⟩
      obtain ⟨k2, hk2⟩ : ∃ k2, (encInt a.B).length = k2 := ⟨_, rfl⟩
      have hl1 := encInt_len a.K
      have hl2 := encInt_len a.B
      rw [hk1] at hl1
      rw [hk2] at hl2
      have HN1 := Lib.hid hk1
      have HNK := Lib.hid hk1
      have HN2 := Lib.hid hk2
      have hQ5 := (HBK.out.more HKB.out).e.cell 5
      have hQ6 := (HBK.out.more HKB.out).e.cell 6
      unfold av at hQ5 hQ6
      simp only [List.getElem?_toArray, List.getElem?_cons_zero, List.getElem?_cons_succ] at hQ5 hQ6
      clear hk45 haK haB hk1 hk2
      go_upto_region 10 with fail
      go_region_held3 (fun w' => w'.cell? ⟨Q, 5, none⟩ = some (.int .u8 a.K) ∧ w'.cell? ⟨Q, 6, none⟩ = some (.int .i64 a.B)) (go_keep)
        ((first
          | (have H1 := HN1
             go_at_call 17
             refine (Rf.int_n a.K k1 _ HN1.out hK0.1 hK0.2).mono ?_
             rintro e w6 ⟨A1, c1, rfl, hv6, hk6⟩
             have HT6 : Hid (Tld WD w6 P _ (.slice A1 k1 c1) k1 (encInt a.K)) := Lib.hid ⟨(HBK.out.more (HKB.out.trans hk6.of_drew)).i, hv6.mono (Nat.le_refl _), hk6.of_drew⟩
             have d5 := (HBK.out.more (HKB.out.trans HT6.out.keeps)).e.cell 5
             have d6 := (HBK.out.more (HKB.out.trans HT6.out.keeps)).e.cell 6
             unfold av at d5 d6
             simp only [List.getElem?_toArray, List.getElem?_cons_zero, List.getElem?_cons_succ] at d5 d6
             clear hv6 hk6 H1 HN1)
          | (have H2 := HN2
             go_at_call 17
             refine (Rf.int_n a.B k2 _ HN2.out hB0.1 hB0.2).mono ?_
             rintro e w7 ⟨A2, c2, rfl, hv7, hk7⟩
             have HT7 := Lib.hid (HT6.out.more hk7)
             have HL7 := Lib.hid (Lies.of_own hv7)
             have e5 := (HBK.out.more (HKB.out.trans HT7.out.keeps)).e.cell 5
             have e6 := (HBK.out.more (HKB.out.trans HT7.out.keeps)).e.cell 6
             unfold av at e5 e6
             simp only [List.getElem?_toArray, List.getElem?_cons_zero, List.getElem?_cons_succ] at e5 e6
             clear hv7 hk7 H2 HT6)
          | (refine step_app (by rfl) _ _ (by rfl) WD.heap.size k1 k2 c2 (.slice A1 k1 c1) (encInt a.K) (encInt a.B) A2 (by rfl) (by exact HT7.out.own) (by rfl) (by exact HL7.out) HN2.out (by omega) (by exact HT7.out.keeps.size) ?_
             intro v8 w8 hown8 hg8 hat8
             obtain ⟨A8, c8, rfl, _⟩ := own_form hown8
             have HT8 := Lib.hid (HT7.out.app hg8 hown8)
             have f5 := (HBK.out.more (HKB.out.trans HT8.out.keeps)).e.cell 5
             have f6 := (HBK.out.more (HKB.out.trans HT8.out.keeps)).e.cell 6
             unfold av at f5 f6
             simp only [List.getElem?_toArray, List.getElem?_cons_zero, List.getElem?_cons_succ] at f5 f6
             clear hown8 hg8 hat8)))
      clear hwK hwB hQ5 hQ6 hK0 hB0
      have HKC := Lib.hid (HKB.out.trans HT8.out.keeps)
      have s6 := (HBK.out.more HKC.out).sm.cell 6
      simp only [List.getElem?_toArray, List.getElem?_cons_zero, List.getElem?_cons_succ] at s6
      go_upto_if 64 with fail
      go_cut [9] from 65 to 75 (fun v wx => ∃ A9 c9, v = .slice A9 m2 c9 ∧ Hid (Tld WD wx P (dv A6 n6 c6 d) (.slice A9 m2 c9) m2 ys))
      case first =>
        have s5 := (HBK.out.more HKC.out).sm.cell 5
        simp only [List.getElem?_toArray, List.getElem?_cons_zero, List.getElem?_cons_succ] at s5
        cases stop with
        | true =>
          have hae : a = ⟨D0, 5, 1 + B % 60000, S⟩ := HAE.out
          have hyy : ys = encInt a.K ++ encInt a.B ++ [S] := by rw [← HYS.out, hae]; simp [bytA]
          have hmm : m2 = k1 + k2 + 1 := by rw [← HM2.out, hyy, List.length_append, List.length_append, HN2.out, ← HNK.out]; rfl
          have HE2 := Lib.hid hmm
          have HYY := Lib.hid hyy
          clear hae hyy hmm
          have HL9 : Hid (Lies (w8.alloc (.cells #[.int .u8 S] 5)) (some ⟨w8.heap.size, 0, none⟩) [S]) := Lib.hid (lies_one w8 S)
          have HT9 := Lib.hid (HT8.out.more ((Keeps.refl (fun _ => False) _).alloc (.cells #[.int .u8 S] 5)))
          go_wp2_with (
            at_builtin
            refine wpList_app rfl (.tmp 65) (.tmp 68) rfl WD.heap.size (k1 + k2) 1 1 (.slice A8 (k1 + k2) c8) (encInt a.K ++ encInt a.B) [S] (some ⟨w8.heap.size, 0, none⟩) rfl HT9.out.own rfl HL9.out rfl (by omega) HT9.out.keeps.size ?_
            intro v9 w9 hown9 hg9 hat9
            obtain ⟨A9, c9, rfl, _⟩ := own_form hown9
            have HTA := Lib.hid (HT9.out.app hg9 hown9)
            clear hown9 hg9 hat9)
          go_meet
          rw [HYY.out, HE2.out]
          exact ⟨A9, c9, rfl, HTA⟩
        | false =>
          have hae : a = ⟨d, 4, 1 + B % 60000, 0⟩ := HAE.out
          have had : a.d = d := by rw [hae]
          have hyy : ys = encInt a.K ++ encInt a.B ++ bytI a.d := by rw [← HYS.out, hae]; simp [bytA]
          have hcd : chkI a.d = 0 := by rw [had]; exact HI1.out
          obtain ⟨k3, hk3⟩ : ∃ k3, (bytI a.d).length = k3 := ⟨_, rfl⟩
          have hmm : m2 = k1 + k2 + k3 := by rw [← HM2.out, hyy, List.length_append, List.length_append, HN2.out, hk3, ← HNK.out]
          have HE2 := Lib.hid hmm
          have HYY := Lib.hid hyy
          have HTD := Lib.hid (fun W h => told_ a.d k3 A7 n7 c7 W h hcd hk3)
          unfold dv at HTD
          have HN3 := Lib.hid hk3
          have hk3b : k3 ≤ 300 := by omega
          have z0 := (HBK.out.more HKC.out).e.cell 0
          have z1 := (HBK.out.more HKC.out).e.cell 1
          have z2 := (HBK.out.more HKC.out).e.cell 2
          have z3 := (HBK.out.more HKC.out).e.cell 3
          have z4 := (HBK.out.more HKC.out).e.cell 4
          have z5 := (HBK.out.more HKC.out).e.cell 5
          have z6 := (HBK.out.more HKC.out).e.cell 6
          have z7 := (HBK.out.more HKC.out).e.cell 7
          unfold av at z0 z1 z2 z3 z4 z5 z6 z7
          simp only [List.getElem?_toArray, List.getElem?_cons_zero, List.getElem?_cons_succ] at z0 z1 z2 z3 z4 z5 z6 z7
          clear hae had hyy hcd hk3 hmm
          go_wp2_with (first
            | (have H1 := HTD
               go_at_call 18
               refine (HTD.out _ (HBK.out.more HKC.out).ee).mono ?_
               rintro e w9 ⟨A2, c2, rfl, hv9, hk9⟩
               have HT9 := Lib.hid (HT8.out.more hk9)
               have HL9 := Lib.hid (Lies.of_own hv9)
               clear hv9 hk9 H1 HTD)
            | (at_builtin
               refine wpList_app rfl (.tmp 70) (.tmp 73) rfl WD.heap.size (k1 + k2) k3 c2 (.slice A8 (k1 + k2) c8) (encInt a.K ++ encInt a.B) (bytI a.d) A2 rfl HT9.out.own rfl HL9.out HN3.out (by omega) HT9.out.keeps.size ?_
               intro v10 w10 hown10 hg10 hat10
               obtain ⟨A9, c9, rfl, _⟩ := own_form hown10
               have HTA := Lib.hid (HT9.out.app hg10 hown10)
               clear hown10 hg10 hat10))
          go_meet
          rw [HYY.out, HE2.out]
          exact ⟨A9, c9, rfl, HTA⟩
      case rest =>
        obtain ⟨A9, c9, rfl, HT⟩ := hcut
        have HRS0 : Hid (Rs X Y b1 g1 b2 g2 ⟨xs, 0, 0⟩ ⟨ys, 0, 0⟩ w5 wc) := by
          have hr := HR.out
          have kk := HT.out.keeps
          exact Lib.hid ⟨hr.2.2.2.1.keeps kk (fun _ _ => id), hr.2.2.2.2.1.keeps kk (fun _ _ => id), hr.2.1.keeps kk id, hr.2.2.1.keeps kk id, hr.1.trans kk, Nat.le_trans hr.2.2.2.2.2.1 hr.2.2.2.1.1, Nat.le_trans hr.2.2.2.2.2.2.1 hr.2.2.2.2.1.1, hr.2.2.2.2.2.2.2.2.2⟩
        have HOW := Lib.hid HT.out.own
        have HKC2 : Hid (Keeps (fun _ => False) w w5) := Lib.hid (HKW.out.trans HKA.out)
        obtain ⟨sX, hsX⟩ : ∃ s, s = strOfNums xs := ⟨_, rfl⟩
        obtain ⟨sY, hsY⟩ : ∃ s, s = strOfNums ys := ⟨_, rfl⟩
        have HSX := Lib.hid hsX
        have HSY := Lib.hid hsY
        clear hsX hsY
        have HSI : Hid (∀ A n c W, Ents W A n d.L → Ents W A6 n6 d.L → Calls Try.prog 19 #[.agg (dv A n c d), .agg (dv A6 n6 c6 d)] W fun r w' => r = .returned (.bool true) ∧ Keeps (fun _ => False) W w') := fun A n c W h1 h2 => by have := same_i A A6 n n6 c c6 d d W h1 h2; rwa [sameI_self] at this
        have HSA : Hid (∀ A n c W, Ents W A n a.d.L → Ents W A7 n7 a.d.L → Calls Try.prog 21 #[.agg (av A n c a), .agg (av A7 n7 c7 a)] W fun r w' => r = .returned (.bool true) ∧ Keeps (fun _ => False) W w') := fun A n c W h1 h2 => by have := same_a A A7 n n7 c c7 a a W h1 h2; rwa [sameA_self] at this
        have HTK : Hid (∀ W, IsRd b1 g1 ⟨xs, 0, 0⟩ W → Calls Try.prog 20 #[rd g1] W fun r w' => ∃ A n, r = .returned (.agg (dv A n n d)) ∧ Ents w' A n d.L ∧ IsRd b1 g1 ⟨xs, m1, 0⟩ w' ∧ Keeps (· = g1) W w') := fun W h => (take_ii g1 ⟨xs, 0, 0⟩ b1 W h).mono fun r w' ⟨A, n, h1, h2, _, _, h3, h4⟩ => by rw [HTI.out] at h1 h2 h3; exact ⟨A, n, h1, h2, h3, h4⟩
        have HTJ : Hid (∀ W, IsRd b2 g2 ⟨ys, 0, 0⟩ W → Calls Try.prog 22 #[rd g2] W fun r w' => ∃ A n, r = .returned (.agg (av A n n a)) ∧ Ents w' A n a.d.L ∧ IsRd b2 g2 ⟨ys, m2, 0⟩ w' ∧ Keeps (· = g2) W w') := fun W h => (take_aa g2 ⟨ys, 0, 0⟩ b2 W h).mono fun r w' ⟨A, n, h1, h2, _, _, h3, h4⟩ => by rw [HTA.out] at h1 h2 h3; exact ⟨A, n, h1, h2, h3, h4⟩
        have HE1 : Hid (∀ W, IsRd b1 g1 ⟨xs, m1, 0⟩ W → Calls Try.prog 23 #[.pointer (some ⟨g1, 0, none⟩)] W fun r w' => r = .returned (.int .i64 0) ∧ Keeps (fun _ => False) W w') := fun W h => (end_ g1 ⟨xs, m1, 0⟩ b1 W h).mono fun r w' ⟨h1, n, h2⟩ => ⟨by rw [h1, ← HM1.out, fin_whole], by rw [h2]; exact (Keeps.refl _ _).drewN _⟩
        have HE2 : Hid (∀ W, IsRd b2 g2 ⟨ys, m2, 0⟩ W → Calls Try.prog 23 #[.pointer (some ⟨g2, 0, none⟩)] W fun r w' => r = .returned (.int .i64 0) ∧ Keeps (fun _ => False) W w') := fun W h => (end_ g2 ⟨ys, m2, 0⟩ b2 W h).mono fun r w' ⟨h1, n, h2⟩ => ⟨by rw [h1, ← HM2.out, fin_whole], by rw [h2]; exact (Keeps.refl _ _).drewN _⟩
        have HTO : Hid (∀ W, Ents W A6 n6 d.L → Calls Try.prog 18 #[.agg (dv A6 n6 c6 d)] W (Own W.heap.size m1 xs W)) := fun W h => by have := HTL.out m1 W h HI1.out (by rw [HXS.out]; exact HM1.out); rwa [HXS.out] at this
        unfold dv at HSI HTO
        unfold av at HSA
        unfold rd at HTK HTJ
        go_upto_region 14 with fail
        refine wp_region_held_drew (S := fun w' => Keeps (fun j => j = g1 ∨ j = g2) wc w') (by kernel_rfl) ((Keeps.refl _ _).drewN 1) (fun hHeld => ?_)
        have HRS : Hid (Rs X Y b1 g1 b2 g2 ⟨xs, 0, 0⟩ ⟨ys, 0, 0⟩ w5 wc.drew) := Lib.hid (HRS0.out.more ((Keeps.refl _ _).drewN 1))
        have HOV : Hid (wc.drew.ownsRow WD.heap.size 5 1 (.slice A9 m2 c9) m2 (bv ys)) := Lib.hid (own_keeps HOW.out ((Keeps.refl (fun _ => False) _).drewN 1) (fun _ _ => id))
        generalize wc.drew = w10 at hHeld HRS HOV ⊢
        refine Ao.wpAnyH_as (S' := fun w' => Keeps (fun j => j = g1 ∨ j = g2) w10 w') (fun w' k => hHeld.trans k) _ _ _ _ ?_
        replace hHeld : Keeps (fun j => j = g1 ∨ j = g2) w10 w10 := Keeps.refl _ _
        refine wpAnyH_take (i := 0) (v := ?vc0) rfl (by kernel_rfl) (by kernel_rfl) (by kernel_rfl) (fun _ _ _ h => h) (Or.inl ⟨by rfl, ?yc0⟩) hHeld ?rc0
        case yc0 => (intro w' hSw; go_simp; try with_reducible rfl)
        simp only [Act.put, List.getElem_toArray, List.getElem_cons_succ, List.getElem_cons_zero, List.setIfInBounds_toArray, List.set_cons_zero, List.set_cons_succ]
        refine wpAnyH_take (i := 1) (v := ?vc1) rfl (by kernel_rfl) (by kernel_rfl) (by kernel_rfl) (fun _ _ _ h => h) (Or.inl ⟨by rfl, ?yc1⟩) hHeld ?rc1
        case yc1 => (intro w' hSw; go_simp; try with_reducible rfl)
        simp only [Act.put, List.getElem_toArray, List.getElem_cons_succ, List.getElem_cons_zero, List.setIfInBounds_toArray, List.set_cons_zero, List.set_cons_succ]
        refine wpAnyH_take (i := 2) (v := ?vc2) rfl (by kernel_rfl) (by kernel_rfl) (by kernel_rfl) (fun _ _ _ h => h) (Or.inl ⟨by rfl, ?yc2⟩) hHeld ?rc2
        case yc2 => (intro w' hSw; go_simp; try with_reducible rfl)
        simp only [Act.put, List.getElem_toArray, List.getElem_cons_succ, List.getElem_cons_zero, List.setIfInBounds_toArray, List.set_cons_zero, List.set_cons_succ]
        refine wpAnyH_take (i := 5) (v := ?vc5) rfl (by kernel_rfl) (by kernel_rfl) (by kernel_rfl) (fun _ _ _ h => h) (Or.inl ⟨by rfl, ?yc5⟩) hHeld ?rc5
        case yc5 => (intro w' hSw; have hb := (HBK.out.more (HKA.out.trans (HRS.out.low hSw))).i; have i0 := hb.cell 0; have i1 := hb.cell 1; have i2 := hb.cell 2; have i3 := hb.cell 3; have i4 := hb.cell 4; unfold dv at i0 i1 i2 i3 i4; simp only [List.getElem?_toArray, List.getElem?_cons_zero, List.getElem?_cons_succ] at i0 i1 i2 i3 i4; go_simp; try with_reducible rfl)
        simp only [Act.put, List.getElem_toArray, List.getElem_cons_succ, List.getElem_cons_zero, List.setIfInBounds_toArray, List.set_cons_zero, List.set_cons_succ]
        refine wpAnyH_ready (rs := [3]) (by kernel_rfl) (by simp) ?_
        refine AllReadyH.cons rfl (fun K hK => ?_) AllReadyH.nil
        go_simp
        refine (bytes_n G G v1 xs m1 _ HM1.out (HV1.out.keeps (HRS.out.low hHeld) (fun _ _ => id))).mono ?_
        rintro e w11 ⟨A1, c1, rfl, hv, hk⟩
        have HRS1 := Lib.hid (HRS.out.more hk)
        have HO1 := Lib.hid hv
        have HOVA := Lib.hid (own_keeps HOV.out hk (fun _ _ => id))
        dsimp only
        refine hK.out _ _ (hHeld.trans hk.none_) (fun hHeld => ?_)
        clear hK K
        try simp only [Act.put, List.getElem_toArray, List.getElem_cons_succ, List.getElem_cons_zero, List.setIfInBounds_toArray, List.set_cons_zero, List.set_cons_succ]
        refine Ao.wpAnyH_as (S' := fun w' => Keeps (fun j => j = g1 ∨ j = g2) w11 w') (fun w' k => hHeld.trans k) _ _ _ _ ?_
        replace hHeld : Keeps (fun j => j = g1 ∨ j = g2) w11 w11 := Keeps.refl _ _
        clear hv hk HRS; have HRS := HRS1; clear HRS1
        have HC1 : Hid (∀ w', Keeps (fun j => j = g1 ∨ j = g2) w11 w' → (convert 24 9 (.slice A1 m1 c1)).run Try.prog w' = .ok (.string sX) w') := fun w' k => by rw [HSX.out]; exact (Lies.of_own (HRS.out.row HO1.out k)).str_n (P := Try.prog) m1 HM1.out 24 9 5 c1 Try.underlying24 Try.underlying5 Try.underlying9
        refine wpAnyH_take (i := 4) (v := ?vc4) rfl (by kernel_rfl) (by kernel_rfl) (by kernel_rfl) (fun _ _ _ h => h) (Or.inl ⟨by rfl, ?yc4⟩) hHeld ?rc4
        case yc4 => (intro w' hSw; have hcv := HC1.out w' hSw; go_simp; try with_reducible rfl)
        simp only [Act.put, List.getElem_toArray, List.getElem_cons_succ, List.getElem_cons_zero, List.setIfInBounds_toArray, List.set_cons_zero, List.set_cons_succ]
        refine wpAnyH_ready (rs := [6]) (by kernel_rfl) (by simp) ?_
        refine AllReadyH.cons rfl (fun K hK => ?_) AllReadyH.nil
        go_simp
        refine (HTO.out _ (HBK.out.more (HKA.out.trans HRS.out.k)).ei).mono ?_
        rintro e w12 ⟨A2, c2, rfl, hv, hk⟩
        have HRS1 := Lib.hid (HRS.out.more hk)
        have HO2 := Lib.hid hv
        have HOVX := Lib.hid (own_keeps HOVA.out hk (fun _ _ => id))
        dsimp only
        refine hK.out _ _ (hHeld.trans hk.none_) (fun hHeld => ?_)
        clear hK K
        try simp only [Act.put, List.getElem_toArray, List.getElem_cons_succ, List.getElem_cons_zero, List.setIfInBounds_toArray, List.set_cons_zero, List.set_cons_succ]
        refine Ao.wpAnyH_as (S' := fun w' => Keeps (fun j => j = g1 ∨ j = g2) w12 w') (fun w' k => hHeld.trans k) _ _ _ _ ?_
        replace hHeld : Keeps (fun j => j = g1 ∨ j = g2) w12 w12 := Keeps.refl _ _
        clear hv hk HRS; have HRS := HRS1; clear HRS1
        have HC2 : Hid (∀ w', Keeps (fun j => j = g1 ∨ j = g2) w12 w' → (convert 24 9 (.slice A2 m1 c2)).run Try.prog w' = .ok (.string sX) w') := fun w' k => by rw [HSX.out]; exact (Lies.of_own (HRS.out.row HO2.out k)).str_n (P := Try.prog) m1 HM1.out 24 9 5 c2 Try.underlying24 Try.underlying5 Try.underlying9
        refine wpAnyH_take (i := 7) (v := ?vc7) rfl (by kernel_rfl) (by kernel_rfl) (by kernel_rfl) (fun _ _ _ h => h) (Or.inl ⟨by rfl, ?yc7⟩) hHeld ?rc7
        case yc7 => (intro w' hSw; have hcv := HC2.out w' hSw; go_simp; try with_reducible rfl)
        simp only [Act.put, List.getElem_toArray, List.getElem_cons_succ, List.getElem_cons_zero, List.setIfInBounds_toArray, List.set_cons_zero, List.set_cons_succ]
        refine wpAnyH_take (i := 8) (v := ?vc8) rfl (by kernel_rfl) (by kernel_rfl) (by kernel_rfl) (fun _ _ _ h => h) (Or.inl ⟨by rfl, ?yc8⟩) hHeld ?rc8
        case yc8 => (intro w' hSw; go_simp; try with_reducible rfl)
        simp only [Act.put, List.getElem_toArray, List.getElem_cons_succ, List.getElem_cons_zero, List.setIfInBounds_toArray, List.set_cons_zero, List.set_cons_succ]
        refine wpAnyH_take (i := 9) (v := ?vc9) rfl (by kernel_rfl) (by kernel_rfl) (by kernel_rfl) (fun _ _ _ h => h) (Or.inl ⟨by rfl, ?yc9⟩) hHeld ?rc9
        case yc9 => (intro w' hSw; go_simp; try with_reducible rfl)
        simp only [Act.put, List.getElem_toArray, List.getElem_cons_succ, List.getElem_cons_zero, List.setIfInBounds_toArray, List.set_cons_zero, List.set_cons_succ]
        refine wpAnyH_take (i := 10) (v := ?vc10) rfl (by kernel_rfl) (by kernel_rfl) (by kernel_rfl) (fun _ _ _ h => h) (Or.inl ⟨by rfl, ?yc10⟩) hHeld ?rc10
        case yc10 => (intro w' hSw; go_simp; try with_reducible rfl)
        simp only [Act.put, List.getElem_toArray, List.getElem_cons_succ, List.getElem_cons_zero, List.setIfInBounds_toArray, List.set_cons_zero, List.set_cons_succ]
        refine wpAnyH_take (i := 11) (v := ?vc11) rfl (by kernel_rfl) (by kernel_rfl) (by kernel_rfl) (fun _ _ _ h => h) (Or.inl ⟨by rfl, ?yc11⟩) hHeld ?rc11
        case yc11 => (intro w' hSw; go_simp; try with_reducible rfl)
        simp only [Act.put, List.getElem_toArray, List.getElem_cons_succ, List.getElem_cons_zero, List.setIfInBounds_toArray, List.set_cons_zero, List.set_cons_succ]
        refine wpAnyH_take (i := 12) (v := ?vc12) rfl (by kernel_rfl) (by kernel_rfl) (by kernel_rfl) (fun _ _ _ h => h) (Or.inl ⟨by rfl, ?yc12⟩) hHeld ?rc12
        case yc12 => (intro w' hSw; go_simp; try with_reducible rfl)
        simp only [Act.put, List.getElem_toArray, List.getElem_cons_succ, List.getElem_cons_zero, List.setIfInBounds_toArray, List.set_cons_zero, List.set_cons_succ]
        refine wpAnyH_take (i := 15) (v := ?vc15) rfl (by kernel_rfl) (by kernel_rfl) (by kernel_rfl) (fun _ _ _ h => h) (Or.inl ⟨by rfl, ?yc15⟩) hHeld ?rc15
        case yc15 => (intro w' hSw; go_simp; try with_reducible rfl)
        simp only [Act.put, List.getElem_toArray, List.getElem_cons_succ, List.getElem_cons_zero, List.setIfInBounds_toArray, List.set_cons_zero, List.set_cons_succ]
        have HC4 : Hid (∀ w', Keeps (fun j => j = g1 ∨ j = g2) w12 w' → (convert 24 9 (.slice A9 m2 c9)).run Try.prog w' = .ok (.string sY) w') := fun w' k => by rw [HSY.out]; exact (Lies.of_own (HRS.out.row HOVX.out k)).str_n (P := Try.prog) m2 HM2.out 24 9 5 c9 Try.underlying24 Try.underlying5 Try.underlying9
        refine wpAnyH_take (i := 16) (v := ?vc16) rfl (by kernel_rfl) (by kernel_rfl) (by kernel_rfl) (fun _ _ _ h => h) (Or.inl ⟨by rfl, ?yc16⟩) hHeld ?rc16
        case yc16 => (intro w' hSw; have hcv := HC4.out w' hSw; go_simp; try with_reducible rfl)
        simp only [Act.put, List.getElem_toArray, List.getElem_cons_succ, List.getElem_cons_zero, List.setIfInBounds_toArray, List.set_cons_zero, List.set_cons_succ]
        refine wpAnyH_ready (rs := [13]) (by kernel_rfl) (by simp) ?_
        refine AllReadyH.cons rfl (fun K hK => ?_) AllReadyH.nil
        go_simp
        refine (bytes_n (G + 1) (G + 1) v2 ys m2 _ HM2.out (HV2.out.keeps (HRS.out.low hHeld) (fun _ _ => id))).mono ?_
        rintro e w13 ⟨A3, c3, rfl, hv, hk⟩
        have HRS1 := Lib.hid (HRS.out.more hk)
        have HO3 := Lib.hid hv
        dsimp only
        refine hK.out _ _ (hHeld.trans hk.none_) (fun hHeld => ?_)
        clear hK K
        try simp only [Act.put, List.getElem_toArray, List.getElem_cons_succ, List.getElem_cons_zero, List.setIfInBounds_toArray, List.set_cons_zero, List.set_cons_succ]
        refine Ao.wpAnyH_as (S' := fun w' => Keeps (fun j => j = g1 ∨ j = g2) w13 w') (fun w' k => hHeld.trans k) _ _ _ _ ?_
        replace hHeld : Keeps (fun j => j = g1 ∨ j = g2) w13 w13 := Keeps.refl _ _
        clear hv hk HRS; have HRS := HRS1; clear HRS1
        have HC3 : Hid (∀ w', Keeps (fun j => j = g1 ∨ j = g2) w13 w' → (convert 24 9 (.slice A3 m2 c3)).run Try.prog w' = .ok (.string sY) w') := fun w' k => by rw [HSY.out]; exact (Lies.of_own (HRS.out.row HO3.out k)).str_n (P := Try.prog) m2 HM2.out 24 9 5 c3 Try.underlying24 Try.underlying5 Try.underlying9
        refine wpAnyH_take (i := 14) (v := ?vc14) rfl (by kernel_rfl) (by kernel_rfl) (by kernel_rfl) (fun _ _ _ h => h) (Or.inl ⟨by rfl, ?yc14⟩) hHeld ?rc14
        case yc14 => (intro w' hSw; have hcv := HC3.out w' hSw; go_simp; try with_reducible rfl)
        simp only [Act.put, List.getElem_toArray, List.getElem_cons_succ, List.getElem_cons_zero, List.setIfInBounds_toArray, List.set_cons_zero, List.set_cons_succ]
        refine wpAnyH_take (i := 17) (v := ?vc17) rfl (by kernel_rfl) (by kernel_rfl) (by kernel_rfl) (fun _ _ _ h => h) (Or.inl ⟨by rfl, ?yc17⟩) hHeld ?rc17
        case yc17 => (intro w' hSw; go_simp; try with_reducible rfl)
        simp only [Act.put, List.getElem_toArray, List.getElem_cons_succ, List.getElem_cons_zero, List.setIfInBounds_toArray, List.set_cons_zero, List.set_cons_succ]
        refine wpAnyH_take (i := 18) (v := ?vc18) rfl (by kernel_rfl) (by kernel_rfl) (by kernel_rfl) (fun _ _ _ h => h) (Or.inl ⟨by rfl, ?yc18⟩) hHeld ?rc18
        case yc18 => (intro w' hSw; go_simp; try with_reducible rfl)
        simp only [Act.put, List.getElem_toArray, List.getElem_cons_succ, List.getElem_cons_zero, List.setIfInBounds_toArray, List.set_cons_zero, List.set_cons_succ]
        refine wpAnyH_take (i := 19) (v := ?vc19) rfl (by kernel_rfl) (by kernel_rfl) (by kernel_rfl) (fun _ _ _ h => h) (Or.inl ⟨by rfl, ?yc19⟩) hHeld ?rc19
        case yc19 => (intro w' hSw; go_simp; try with_reducible rfl)
        simp only [Act.put, List.getElem_toArray, List.getElem_cons_succ, List.getElem_cons_zero, List.setIfInBounds_toArray, List.set_cons_zero, List.set_cons_succ]
        refine wpAnyH_take (i := 20) (v := ?vc20) rfl (by kernel_rfl) (by kernel_rfl) (by kernel_rfl) (fun _ _ _ h => h) (Or.inl ⟨by rfl, ?yc20⟩) hHeld ?rc20
        case yc20 => (intro w' hSw; have hb := HRS.out.xs hSw; have i0 := hb.cell 0; simp only [List.getElem?_toArray, List.getElem?_cons_zero, List.getElem?_cons_succ] at i0; go_simp; try with_reducible rfl)
        simp only [Act.put, List.getElem_toArray, List.getElem_cons_succ, List.getElem_cons_zero, List.setIfInBounds_toArray, List.set_cons_zero, List.set_cons_succ]
        refine wpAnyH_take (i := 22) (v := ?vc22) rfl (by kernel_rfl) (by kernel_rfl) (by kernel_rfl) (fun _ _ _ h => h) (Or.inl ⟨by rfl, ?yc22⟩) hHeld ?rc22
        case yc22 => (intro w' hSw; have hb := (HBK.out.more (HKA.out.trans (HRS.out.low hSw))).i; have i0 := hb.cell 0; have i1 := hb.cell 1; have i2 := hb.cell 2; have i3 := hb.cell 3; have i4 := hb.cell 4; unfold dv at i0 i1 i2 i3 i4; simp only [List.getElem?_toArray, List.getElem?_cons_zero, List.getElem?_cons_succ] at i0 i1 i2 i3 i4; go_simp; try with_reducible rfl)
        simp only [Act.put, List.getElem_toArray, List.getElem_cons_succ, List.getElem_cons_zero, List.setIfInBounds_toArray, List.set_cons_zero, List.set_cons_succ]
        refine wpAnyH_ready (rs := [21]) (by kernel_rfl) (by simp) ?_
        refine AllReadyH.cons rfl (fun K hK => ?_) AllReadyH.nil
        go_simp
        refine (HTK.out _ HRS.out.r1).mono ?_
        rintro e w14 ⟨A4, n4, rfl, he, hr, hk⟩
        have HRS1 := Lib.hid (HRS.out.t1 hr hk)
        have HE4 := Lib.hid he
        dsimp only
        refine hK.out _ _ (hHeld.trans (hk.mono fun _ _ e => .inl e)) (fun hHeld => ?_)
        clear hK K
        try simp only [Act.put, List.getElem_toArray, List.getElem_cons_succ, List.getElem_cons_zero, List.setIfInBounds_toArray, List.set_cons_zero, List.set_cons_succ]
        refine Ao.wpAnyH_as (S' := fun w' => Keeps (fun j => j = g1 ∨ j = g2) w14 w') (fun w' k => hHeld.trans k) _ _ _ _ ?_
        replace hHeld : Keeps (fun j => j = g1 ∨ j = g2) w14 w14 := Keeps.refl _ _
        clear hr he hk HRS; have HRS := HRS1; clear HRS1
        refine wpAnyH_ready (rs := [23]) (by kernel_rfl) (by simp) ?_
        refine AllReadyH.cons rfl (fun K hK => ?_) AllReadyH.nil
        go_simp
        refine (HSI.out A4 n4 n4 _ HE4.out (HBK.out.more (HKA.out.trans HRS.out.k)).ei).mono ?_
        rintro e w15 ⟨rfl, hk⟩
        have HRS1 := Lib.hid (HRS.out.more hk)
        dsimp only
        refine hK.out _ _ (hHeld.trans hk.none_) (fun hHeld => ?_)
        clear hK K
        try simp only [Act.put, List.getElem_toArray, List.getElem_cons_succ, List.getElem_cons_zero, List.setIfInBounds_toArray, List.set_cons_zero, List.set_cons_succ]
        refine Ao.wpAnyH_as (S' := fun w' => Keeps (fun j => j = g1 ∨ j = g2) w15 w') (fun w' k => hHeld.trans k) _ _ _ _ ?_
        replace hHeld : Keeps (fun j => j = g1 ∨ j = g2) w15 w15 := Keeps.refl _ _
        clear hk HRS; have HRS := HRS1; clear HRS1
        refine wpAnyH_take (i := 24) (v := ?vc24) rfl (by kernel_rfl) (by kernel_rfl) (by kernel_rfl) (fun _ _ _ h => h) (Or.inl ⟨by rfl, ?yc24⟩) hHeld ?rc24
        case yc24 => (intro w' hSw; go_simp; try with_reducible rfl)
        simp only [Act.put, List.getElem_toArray, List.getElem_cons_succ, List.getElem_cons_zero, List.setIfInBounds_toArray, List.set_cons_zero, List.set_cons_succ]
        refine wpAnyH_take (i := 25) (v := ?vc25) rfl (by kernel_rfl) (by kernel_rfl) (by kernel_rfl) (fun _ _ _ h => h) (Or.inl ⟨by rfl, ?yc25⟩) hHeld ?rc25
        case yc25 => (intro w' hSw; go_simp; try with_reducible rfl)
        simp only [Act.put, List.getElem_toArray, List.getElem_cons_succ, List.getElem_cons_zero, List.setIfInBounds_toArray, List.set_cons_zero, List.set_cons_succ]
        refine wpAnyH_take (i := 26) (v := ?vc26) rfl (by kernel_rfl) (by kernel_rfl) (by kernel_rfl) (fun _ _ _ h => h) (Or.inl ⟨by rfl, ?yc26⟩) hHeld ?rc26
        case yc26 => (intro w' hSw; have hb := HRS.out.ys hSw; have i0 := hb.cell 0; simp only [List.getElem?_toArray, List.getElem?_cons_zero, List.getElem?_cons_succ] at i0; go_simp; try with_reducible rfl)
        simp only [Act.put, List.getElem_toArray, List.getElem_cons_succ, List.getElem_cons_zero, List.setIfInBounds_toArray, List.set_cons_zero, List.set_cons_succ]
        refine wpAnyH_take (i := 28) (v := ?vc28) rfl (by kernel_rfl) (by kernel_rfl) (by kernel_rfl) (fun _ _ _ h => h) (Or.inl ⟨by rfl, ?yc28⟩) hHeld ?rc28
        case yc28 => (intro w' hSw; have hb := (HBK.out.more (HKA.out.trans (HRS.out.low hSw))).e; have i0 := hb.cell 0; have i1 := hb.cell 1; have i2 := hb.cell 2; have i3 := hb.cell 3; have i4 := hb.cell 4; have i5 := hb.cell 5; have i6 := hb.cell 6; have i7 := hb.cell 7; unfold av at i0 i1 i2 i3 i4 i5 i6 i7; simp only [List.getElem?_toArray, List.getElem?_cons_zero, List.getElem?_cons_succ] at i0 i1 i2 i3 i4 i5 i6 i7; go_simp; try with_reducible rfl)
        simp only [Act.put, List.getElem_toArray, List.getElem_cons_succ, List.getElem_cons_zero, List.setIfInBounds_toArray, List.set_cons_zero, List.set_cons_succ]
        refine wpAnyH_ready (rs := [27]) (by kernel_rfl) (by simp) ?_
        refine AllReadyH.cons rfl (fun K hK => ?_) AllReadyH.nil
        go_simp
        refine (HTJ.out _ HRS.out.r2).mono ?_
        rintro e w16 ⟨A5, n5, rfl, he, hr, hk⟩
        have HRS1 := Lib.hid (HRS.out.t2 hr hk)
        have HE5 := Lib.hid he
        dsimp only
        refine hK.out _ _ (hHeld.trans (hk.mono fun _ _ e => .inr e)) (fun hHeld => ?_)
        clear hK K
        try simp only [Act.put, List.getElem_toArray, List.getElem_cons_succ, List.getElem_cons_zero, List.setIfInBounds_toArray, List.set_cons_zero, List.set_cons_succ]
        refine Ao.wpAnyH_as (S' := fun w' => Keeps (fun j => j = g1 ∨ j = g2) w16 w') (fun w' k => hHeld.trans k) _ _ _ _ ?_
        replace hHeld : Keeps (fun j => j = g1 ∨ j = g2) w16 w16 := Keeps.refl _ _
        clear hr he hk HRS; have HRS := HRS1; clear HRS1
        unfold av
        refine wpAnyH_ready (rs := [29]) (by kernel_rfl) (by simp) ?_
        refine AllReadyH.cons rfl (fun K hK => ?_) AllReadyH.nil
        go_simp
        refine (HSA.out A5 n5 n5 _ HE5.out (HBK.out.more (HKA.out.trans HRS.out.k)).ee).mono ?_
        rintro e w17 ⟨rfl, hk⟩
        have HRS1 := Lib.hid (HRS.out.more hk)
        dsimp only
        refine hK.out _ _ (hHeld.trans hk.none_) (fun hHeld => ?_)
        clear hK K
        try simp only [Act.put, List.getElem_toArray, List.getElem_cons_succ, List.getElem_cons_zero, List.setIfInBounds_toArray, List.set_cons_zero, List.set_cons_succ]
        refine Ao.wpAnyH_as (S' := fun w' => Keeps (fun j => j = g1 ∨ j = g2) w17 w') (fun w' k => hHeld.trans k) _ _ _ _ ?_
        replace hHeld : Keeps (fun j => j = g1 ∨ j = g2) w17 w17 := Keeps.refl _ _
        clear hk HRS; have HRS := HRS1; clear HRS1
        refine wpAnyH_take (i := 30) (v := ?vc30) rfl (by kernel_rfl) (by kernel_rfl) (by kernel_rfl) (fun _ _ _ h => h) (Or.inl ⟨by rfl, ?yc30⟩) hHeld ?rc30
        case yc30 => (intro w' hSw; go_simp; try with_reducible rfl)
        simp only [Act.put, List.getElem_toArray, List.getElem_cons_succ, List.getElem_cons_zero, List.setIfInBounds_toArray, List.set_cons_zero, List.set_cons_succ]
        refine wpAnyH_take (i := 31) (v := ?vc31) rfl (by kernel_rfl) (by kernel_rfl) (by kernel_rfl) (fun _ _ _ h => h) (Or.inl ⟨by rfl, ?yc31⟩) hHeld ?rc31
        case yc31 => (intro w' hSw; go_simp; try with_reducible rfl)
        simp only [Act.put, List.getElem_toArray, List.getElem_cons_succ, List.getElem_cons_zero, List.setIfInBounds_toArray, List.set_cons_zero, List.set_cons_succ]
        refine wpAnyH_take (i := 32) (v := ?vc32) rfl (by kernel_rfl) (by kernel_rfl) (by kernel_rfl) (fun _ _ _ h => h) (Or.inl ⟨by rfl, ?yc32⟩) hHeld ?rc32
        case yc32 => (intro w' hSw; go_simp; try with_reducible rfl)
        simp only [Act.put, List.getElem_toArray, List.getElem_cons_succ, List.getElem_cons_zero, List.setIfInBounds_toArray, List.set_cons_zero, List.set_cons_succ]
        refine wpAnyH_take (i := 33) (v := ?vc33) rfl (by kernel_rfl) (by kernel_rfl) (by kernel_rfl) (fun _ _ _ h => h) (Or.inl ⟨by rfl, ?yc33⟩) hHeld ?rc33
        case yc33 => (intro w' hSw; have hb := HRS.out.xs hSw; have i0 := hb.cell 0; simp only [List.getElem?_toArray, List.getElem?_cons_zero, List.getElem?_cons_succ] at i0; go_simp; try with_reducible rfl)
        simp only [Act.put, List.getElem_toArray, List.getElem_cons_succ, List.getElem_cons_zero, List.setIfInBounds_toArray, List.set_cons_zero, List.set_cons_succ]
        refine wpAnyH_ready (rs := [34]) (by kernel_rfl) (by simp) ?_
        refine AllReadyH.cons rfl (fun K hK => ?_) AllReadyH.nil
        go_simp
        refine (HE1.out _ HRS.out.r1).mono ?_
        rintro e w18 ⟨rfl, hk⟩
        have HRS1 := Lib.hid (HRS.out.more hk)
        dsimp only
        refine hK.out _ _ (hHeld.trans hk.none_) (fun hHeld => ?_)
        clear hK K
        try simp only [Act.put, List.getElem_toArray, List.getElem_cons_succ, List.getElem_cons_zero, List.setIfInBounds_toArray, List.set_cons_zero, List.set_cons_succ]
        refine Ao.wpAnyH_as (S' := fun w' => Keeps (fun j => j = g1 ∨ j = g2) w18 w') (fun w' k => hHeld.trans k) _ _ _ _ ?_
        replace hHeld : Keeps (fun j => j = g1 ∨ j = g2) w18 w18 := Keeps.refl _ _
        clear hk HRS; have HRS := HRS1; clear HRS1
        refine wpAnyH_take (i := 35) (v := ?vc35) rfl (by kernel_rfl) (by kernel_rfl) (by kernel_rfl) (fun _ _ _ h => h) (Or.inl ⟨by rfl, ?yc35⟩) hHeld ?rc35
        case yc35 => (intro w' hSw; go_simp; try with_reducible rfl)
        simp only [Act.put, List.getElem_toArray, List.getElem_cons_succ, List.getElem_cons_zero, List.setIfInBounds_toArray, List.set_cons_zero, List.set_cons_succ]
        refine wpAnyH_take (i := 36) (v := ?vc36) rfl (by kernel_rfl) (by kernel_rfl) (by kernel_rfl) (fun _ _ _ h => h) (Or.inl ⟨by rfl, ?yc36⟩) hHeld ?rc36
        case yc36 => (intro w' hSw; go_simp; try with_reducible rfl)
        simp only [Act.put, List.getElem_toArray, List.getElem_cons_succ, List.getElem_cons_zero, List.setIfInBounds_toArray, List.set_cons_zero, List.set_cons_succ]
        refine wpAnyH_take (i := 37) (v := ?vc37) rfl (by kernel_rfl) (by kernel_rfl) (by kernel_rfl) (fun _ _ _ h => h) (Or.inl ⟨by rfl, ?yc37⟩) hHeld ?rc37
        case yc37 => (intro w' hSw; go_simp; try with_reducible rfl)
        simp only [Act.put, List.getElem_toArray, List.getElem_cons_succ, List.getElem_cons_zero, List.setIfInBounds_toArray, List.set_cons_zero, List.set_cons_succ]
        refine wpAnyH_take (i := 38) (v := ?vc38) rfl (by kernel_rfl) (by kernel_rfl) (by kernel_rfl) (fun _ _ _ h => h) (Or.inl ⟨by rfl, ?yc38⟩) hHeld ?rc38
        case yc38 => (intro w' hSw; go_simp; try with_reducible rfl)
        simp only [Act.put, List.getElem_toArray, List.getElem_cons_succ, List.getElem_cons_zero, List.setIfInBounds_toArray, List.set_cons_zero, List.set_cons_succ]
        refine wpAnyH_take (i := 39) (v := ?vc39) rfl (by kernel_rfl) (by kernel_rfl) (by kernel_rfl) (fun _ _ _ h => h) (Or.inl ⟨by rfl, ?yc39⟩) hHeld ?rc39
        case yc39 => (intro w' hSw; have hb := HRS.out.ys hSw; have i0 := hb.cell 0; simp only [List.getElem?_toArray, List.getElem?_cons_zero, List.getElem?_cons_succ] at i0; go_simp; try with_reducible rfl)
        simp only [Act.put, List.getElem_toArray, List.getElem_cons_succ, List.getElem_cons_zero, List.setIfInBounds_toArray, List.set_cons_zero, List.set_cons_succ]
        refine wpAnyH_ready (rs := [40]) (by kernel_rfl) (by simp) ?_
        refine AllReadyH.cons rfl (fun K hK => ?_) AllReadyH.nil
        go_simp
        refine (HE2.out _ HRS.out.r2).mono ?_
        rintro e w19 ⟨rfl, hk⟩
        have HRS1 := Lib.hid (HRS.out.more hk)
        dsimp only
        refine hK.out _ _ (hHeld.trans hk.none_) (fun hHeld => ?_)
        clear hK K
        try simp only [Act.put, List.getElem_toArray, List.getElem_cons_succ, List.getElem_cons_zero, List.setIfInBounds_toArray, List.set_cons_zero, List.set_cons_succ]
        refine Ao.wpAnyH_as (S' := fun w' => Keeps (fun j => j = g1 ∨ j = g2) w19 w') (fun w' k => hHeld.trans k) _ _ _ _ ?_
        replace hHeld : Keeps (fun j => j = g1 ∨ j = g2) w19 w19 := Keeps.refl _ _
        clear hk HRS; have HRS := HRS1; clear HRS1
        refine wpAnyH_take (i := 41) (v := ?vc41) rfl (by kernel_rfl) (by kernel_rfl) (by kernel_rfl) (fun _ _ _ h => h) (Or.inl ⟨by rfl, ?yc41⟩) hHeld ?rc41
        case yc41 => (intro w' hSw; go_simp; try with_reducible rfl)
        simp only [Act.put, List.getElem_toArray, List.getElem_cons_succ, List.getElem_cons_zero, List.setIfInBounds_toArray, List.set_cons_zero, List.set_cons_succ]
        refine wpAnyH_take (i := 42) (v := ?vc42) rfl (by kernel_rfl) (by kernel_rfl) (by kernel_rfl) (fun _ _ _ h => h) (Or.inl ⟨by rfl, ?yc42⟩) hHeld ?rc42
        case yc42 => (intro w' hSw; go_simp; try with_reducible rfl)
        simp only [Act.put, List.getElem_toArray, List.getElem_cons_succ, List.getElem_cons_zero, List.setIfInBounds_toArray, List.set_cons_zero, List.set_cons_succ]
        refine wpAnyH_take (i := 43) (v := ?vc43) rfl (by kernel_rfl) (by kernel_rfl) (by kernel_rfl) (fun _ _ _ h => h) (Or.inl ⟨by rfl, ?yc43⟩) hHeld ?rc43
        case yc43 => (intro w' hSw; go_simp; try with_reducible rfl)
        simp only [Act.put, List.getElem_toArray, List.getElem_cons_succ, List.getElem_cons_zero, List.setIfInBounds_toArray, List.set_cons_zero, List.set_cons_succ]
        refine wpAnyH_done (by kernel_rfl) ?_ _
        have HF := Lib.hid (HKC2.out.trans HRS.out.k)
        clear hHeld
        go_wp2
        go_ret
        exact ⟨rfl, HF.out⟩
end Go.Proofs.Ytankkadfaokaoaa.Ds
