/- DescSame's walk: ways by small numbers, held against each other. -/
import Derived.Test.YtankkadfaokaoaaJAwake9DsTkP
import Derived.Test.YtankkadfaokaoaaDsSmA
import Derived.Test.YtankkadfaokaoaaDsTwoA
import Derived.Test.YtankkadfaokaoaaDsByt
import Derived.Test.YtankkadfaokaoaaDsApp
import Derived.Test.YtankkadfaokaoaaDsPutA
import Derived.Outline
import Derived.Deep.RegionHeld3
import Derived.Deep.CutRange
import Derived.Deep.CutBlock
import Derived.RegionTactic
import Derived.BigQuiet
import Derived.Lib.Strings
import Derived.Lib.Bytes
namespace Go.Proofs.Ytankkadfaokaoaa.Ds
open Go.RowKit Go.Proofs.Ytankkadfaokaoaa.Gen Go.Proofs.Ytankkadfaokaoaa.Wr Go.Proofs.Ytankkadfaokaoaa.Ww Go.Proofs.Ytankkadfaokaoaa.It Go.Proofs.Ytankkadfaokaoaa.Iw Go.Proofs.Ytankkadfaokaoaa.Ir Go.Proofs.Ytankkadfaokaoaa.Ib Go.Proofs.Ytankkadfaokaoaa.Tw Go.Proofs.Ytankkadfaokaoaa.Hr Go.Proofs.Ytankkadfaokaoaa.Hn Go.Proofs.Ytankkadfaokaoaa.Hk Go.Proofs.Ytankkadfaokaoaa.Ln

theorem str_inj {us vs : List Int} (hu : ∀ x ∈ us, 0 ≤ x ∧ x < 256) (hv : ∀ x ∈ vs, 0 ≤ x ∧ x < 256) (h : (strOfNums us).toList = (strOfNums vs).toList) : us = vs := by
  have h1 : us.map (fun n => UInt8.ofNat n.toNat) = vs.map (fun n => UInt8.ofNat n.toNat) := by
    rw [Lib.strOfNums_toList, Lib.strOfNums_toList] at h
    exact h
  have h2 : us.map (fun n => ((UInt8.ofNat n.toNat).toNat : Int)) = vs.map (fun n => ((UInt8.ofNat n.toNat).toNat : Int)) := by
    have := congrArg (List.map (fun b : UInt8 => (b.toNat : Int))) h1
    simpa [List.map_map, Function.comp_def] using this
  have hn : ∀ {l : List Int}, (∀ x ∈ l, 0 ≤ x ∧ x < 256) → l.map (fun n => ((UInt8.ofNat n.toNat).toNat : Int)) = l := by
    intro l hl
    conv => rhs; rw [← List.map_id l]
    refine List.map_congr_left fun x hx => ?_
    have := hl x hx
    rw [UInt8.toNat_ofNat']
    simp only [id]
    omega
  rw [hn hu, hn hv] at h2
  exact h2
theorem Sm.A_in {s : Sm} (h : s.ok) : (s.A.K = 4 ∨ s.A.K = 5) ∧ (1 ≤ s.A.B ∧ s.A.B ≤ 60000) ∧ (0 ≤ s.A.S ∧ s.A.S < 256) ∧ (-40000 ≤ s.A.d.le ∧ s.A.d.le ≤ 40000) := by
  have hS := h.S
  have hl := h.le
  have hB : 1 ≤ 1 + s.B % 60000 ∧ 1 + s.B % 60000 ≤ 60000 := by omega
  unfold Sm.A
  split
  · exact ⟨.inr rfl, hB, hS, by simp [D0]⟩
  · refine ⟨.inl rfl, hB, by simp, ?_⟩
    unfold Sm.I
    split
    · simp
    · split
      · simp only
        omega
      · simp

set_option maxHeartbeats 16000000 in
set_option maxRecDepth 100000 in
theorem same_ (s t : Sm) (A0 B0 : Option Addr) (c0 e0 : Nat) (wh : Nat) (w : World) (h : s.ok) (ht : t.ok) (hwh : wh < 256) : Calls Try.prog 6 #[.agg (s.v A0 c0), .agg (t.v B0 e0), .int .u8 (wh : Int)] w fun r w' => r = .returned (.bool true) ∧ Keeps (fun _ => False) w w' := by
  obtain ⟨ha1, ha2, ha3⟩ := Sm.A_ok h
  have ha4 := Sm.A_in h
  have HMA := Lib.hid (fun (a : E) (ha : s.A = a) W => ha ▸ arrays_ s A0 c0 W h)
  obtain ⟨a, hha⟩ : ∃ a, s.A = a := ⟨_, rfl⟩
  replace HMA := Lib.hid (HMA.out a hha)
  rw [hha] at ha1 ha2 ha3 ha4
  have HA1 := Lib.hid ha1
  have HA2 := Lib.hid ha2
  have HA3 := Lib.hid ha3
  have HA4 := Lib.hid ha4
  clear ha1 ha2 ha3 ha4 hha h
  obtain ⟨hb1, hb2, hb3⟩ := Sm.A_ok ht
  have hb4 := Sm.A_in ht
  have HMB := Lib.hid (fun (a : E) (ha : t.A = a) W => ha ▸ arrays_ t B0 e0 W ht)
  obtain ⟨b, hhb⟩ : ∃ a, t.A = a := ⟨_, rfl⟩
  replace HMB := Lib.hid (HMB.out b hhb)
  rw [hhb] at hb1 hb2 hb3 hb4
  have HB1 := Lib.hid hb1
  have HB2 := Lib.hid hb2
  have HB3 := Lib.hid hb3
  have HB4 := Lib.hid hb4
  clear hb1 hb2 hb3 hb4 hhb ht
  obtain ⟨K, bi, B, le, n, S, stop⟩ := s
  obtain ⟨K', bi', B', le', n', S', stop'⟩ := t
  unfold Sm.v at HMA HMB ⊢
  simp only at HMA HMB ⊢
  go_enter Try.func6, Try.ntmps6
  go_upto_region 1 with fail
  have HS0 : Hid (Blk ((w.alloc (.cells #[.int .u8 K, .int .u8 bi, .int .u16 B, .int .i16 le, .slice A0 n c0, .int .u8 S, .bool stop] 26)).alloc (.cells #[.int .u8 K', .int .u8 bi', .int .u16 B', .int .i16 le', .slice B0 n' e0, .int .u8 S', .bool stop'] 26)) w.heap.size 26 #[.int .u8 K, .int .u8 bi, .int .u16 B, .int .i16 le, .slice A0 n c0, .int .u8 S, .bool stop]) := Lib.hid ((Blk.new _ _ _).keeps ((Keeps.refl (fun _ => False) _).alloc _) id)
  have HT0 : Hid (Blk ((w.alloc (.cells #[.int .u8 K, .int .u8 bi, .int .u16 B, .int .i16 le, .slice A0 n c0, .int .u8 S, .bool stop] 26)).alloc (.cells #[.int .u8 K', .int .u8 bi', .int .u16 B', .int .i16 le', .slice B0 n' e0, .int .u8 S', .bool stop'] 26)) (w.heap.size + 1) 26 #[.int .u8 K', .int .u8 bi', .int .u16 B', .int .i16 le', .slice B0 n' e0, .int .u8 S', .bool stop']) := by
    have h1 := Blk.new (w.alloc (.cells #[.int .u8 K, .int .u8 bi, .int .u16 B, .int .i16 le, .slice A0 n c0, .int .u8 S, .bool stop] 26)) 26 #[.int .u8 K', .int .u8 bi', .int .u16 B', .int .i16 le', .slice B0 n' e0, .int .u8 S', .bool stop']
    have e1 : (w.alloc (.cells #[.int .u8 K, .int .u8 bi, .int .u16 B, .int .i16 le, .slice A0 n c0, .int .u8 S, .bool stop] 26)).heap.size = w.heap.size + 1 := by simp
    rw [e1] at h1
    exact Lib.hid h1
  have HK0 : Hid (Keeps (fun _ => False) w ((w.alloc (.cells #[.int .u8 K, .int .u8 bi, .int .u16 B, .int .i16 le, .slice A0 n c0, .int .u8 S, .bool stop] 26)).alloc (.cells #[.int .u8 K', .int .u8 bi', .int .u16 B', .int .i16 le', .slice B0 n' e0, .int .u8 S', .bool stop'] 26))) := Lib.hid (((Keeps.refl _ _).alloc _).alloc _)
  generalize ((w.alloc (.cells #[.int .u8 K, .int .u8 bi, .int .u16 B, .int .i16 le, .slice A0 n c0, .int .u8 S, .bool stop] 26)).alloc (.cells #[.int .u8 K', .int .u8 bi', .int .u16 B', .int .i16 le', .slice B0 n' e0, .int .u8 S', .bool stop'] 26)) = W0 at HS0 HT0 HK0 ⊢
  go_upto_region 3 with (
    go_at_call 8
    refine (awake _).mono ?_
    rintro e w1 ⟨rfl, hk1⟩
    have HK1 := Lib.hid (HK0.out.trans hk1)
    have HS1 := Lib.hid (HS0.out.keeps hk1 id)
    have HT1 := Lib.hid (HT0.out.keeps hk1 id)
    clear hk1 HS0 HT0 HK0)
  have x4 := HS1.out.cell 4
  have y4 := HT1.out.cell 4
  simp only [List.getElem?_toArray, List.getElem?_cons_zero, List.getElem?_cons_succ] at x4 y4
  by_cases hg0 : 100 < n
  · have hd0 : decide ((100 : Int) < (n : Int)) = true := by rw [decide_eq_true_iff]; omega
    clear hg0
    go_wp2
    go_ret
    exact ⟨rfl, HK1.out⟩
  have hd0 : decide ((100 : Int) < (n : Int)) = false := by rw [decide_eq_false_iff_not]; omega
  clear hg0
  by_cases hg1 : 100 < n'
  · have hd1 : decide ((100 : Int) < (n' : Int)) = true := by rw [decide_eq_true_iff]; omega
    clear hg1
    go_wp2
    go_ret
    exact ⟨rfl, HK1.out⟩
  have hd1 : decide ((100 : Int) < (n' : Int)) = false := by rw [decide_eq_false_iff_not]; omega
  clear hg1
  go_upto_region 5 with fail
  clear hd0 hd1 x4 y4
  go_cut [7, 8] from 24 to 28 (fun v3 v4 wx => ∃ P Q A6 n6 c6 A7 n7 c7, v3 = .pointer (some ⟨P, 0, none⟩) ∧ v4 = .pointer (some ⟨Q, 0, none⟩) ∧ Hid (Keeps (fun _ => False) w1 wx ∧ Blk wx P 34 (av A6 n6 c6 a) ∧ Blk wx Q 34 (av A7 n7 c7 b) ∧ Ents wx A6 n6 a.d.L ∧ Ents wx A7 n7 b.d.L ∧ P ≠ Q))
  case first =>
    refine wp_region_held_drew (S := fun w' => Keeps (fun _ => False) w1 w') (by kernel_rfl) ((Keeps.refl _ _).drewN 1) (fun hHeld => ?_)
    refine wpAnyH_take (i := 0) (v := ?v0) rfl (by kernel_rfl) (by kernel_rfl) (by kernel_rfl) (fun _ _ _ h => h) (Or.inl ⟨by rfl, ?y0⟩) hHeld ?r0
    case y0 => (intro w' hSw; have hb := HS1.out.keeps hSw id; have y0 := hb.cell 0; have y1 := hb.cell 1; have y2 := hb.cell 2; have y3 := hb.cell 3; have y4 := hb.cell 4; have y5 := hb.cell 5; have y6 := hb.cell 6; simp only [List.getElem?_toArray, List.getElem?_cons_zero, List.getElem?_cons_succ] at y0 y1 y2 y3 y4 y5 y6; go_simp; try with_reducible rfl)
    simp only [Act.put, List.getElem_toArray, List.getElem_cons_succ, List.getElem_cons_zero, List.setIfInBounds_toArray, List.set_cons_zero, List.set_cons_succ]
    refine wpAnyH_take (i := 2) (v := ?v2) rfl (by kernel_rfl) (by kernel_rfl) (by kernel_rfl) (fun _ _ _ h => h) (Or.inl ⟨by rfl, ?y2⟩) hHeld ?r2
    case y2 => (intro w' hSw; have hb := HT1.out.keeps hSw id; have y0 := hb.cell 0; have y1 := hb.cell 1; have y2 := hb.cell 2; have y3 := hb.cell 3; have y4 := hb.cell 4; have y5 := hb.cell 5; have y6 := hb.cell 6; simp only [List.getElem?_toArray, List.getElem?_cons_zero, List.getElem?_cons_succ] at y0 y1 y2 y3 y4 y5 y6; go_simp; try with_reducible rfl)
    simp only [Act.put, List.getElem_toArray, List.getElem_cons_succ, List.getElem_cons_zero, List.setIfInBounds_toArray, List.set_cons_zero, List.set_cons_succ]
    refine Ao.wpAnyH_vals [25, 27, 7, 8] [undef, undef, undef, undef] (fun L vs w' => ∃ s1 s3 s4 s5, vs = [s1, s3, s4, s5] ∧ L 0 = true ∧ L 2 = true ∧ TwoA a b w1.heap.size (fun _ w' => Keeps (fun _ => False) w1 w') L s1 s3 s4 s5 w') rfl rfl (by decide) (by kernel_rfl) ?h0 ?hS ?hs ?he
    case h0 => exact ⟨undef, undef, undef, undef, rfl, rfl, rfl, ⟨(Keeps.refl _ _).drewN 1, Nat.le_refl _, fun h => by simp at h, fun h => by simp at h, fun h => by simp at h, fun h => by simp at h, fun h => by simp at h, fun h => by simp at h, fun h => by simp at h, fun h => by simp at h, fun h => by simp at h, fun h => by simp at h, fun h => by simp at h⟩⟩
    case hS => exact fun L vs w' ⟨_, _, _, _, _, _, _, h⟩ => h.x
    case hs =>
      rintro L vs w' i o ⟨s1, s3, s4, s5, rfl, hL0, hL2, hT⟩ hLi hop hall
      have hi : i < 8 := (Array.getElem?_eq_some_iff.1 hop).1
      have hn0 : i ≠ 0 := fun e => by rw [e, hL0] at hLi; cases hLi
      have hn2 : i ≠ 2 := fun e => by rw [e, hL2] at hLi; cases hLi
      obtain rfl | rfl | rfl | rfl | rfl | rfl : i = 1 ∨ i = 3 ∨ i = 4 ∨ i = 5 ∨ i = 6 ∨ i = 7 := by omega
      all_goals simp only [List.getElem?_toArray, List.getElem?_cons_succ, List.getElem?_cons_zero, Option.some.injEq] at hop
      all_goals subst hop
      all_goals simp [Region.binds] at hall
      all_goals simp only [Ao.puts, Act.put, List.getElem_toArray, List.getElem_cons_succ, List.getElem_cons_zero, List.setIfInBounds_toArray, List.set_cons_zero, List.set_cons_succ]
      · refine wpOp_step rfl ?_
        intro K' hK
        have HK := Lib.hid hK
        have HT := Lib.hid hT
        clear hK hT
        go_simp
        go_at_call 10
        refine (HMA.out _).mono ?_
        rintro e w2 ⟨A, n', c, rfl, hE, hA, hk⟩
        go_simp
        exact HK.out _ _ ⟨[_, _, _, _], rfl, _, _, _, _, rfl, by simpa using hL0, by simpa using hL2, HT.out.call1 hLi hk (fun _ _ => id) (HT.out.x.trans hk) hE hA⟩
      · refine wpOp_step rfl ?_
        intro K' hK
        have HK := Lib.hid hK
        have HT := Lib.hid hT
        clear hK hT
        go_simp
        go_at_call 10
        refine (HMB.out _).mono ?_
        rintro e w2 ⟨A, n', c, rfl, hE, hA, hk⟩
        go_simp
        exact HK.out _ _ ⟨[_, _, _, _], rfl, _, _, _, _, rfl, by simpa using hL0, by simpa using hL2, HT.out.call3 hLi hk (fun _ _ => id) (HT.out.x.trans hk) hE hA⟩
      · refine wpOp_step rfl ?_
        intro K' hK
        have HK := Lib.hid hK
        have HT := Lib.hid hT
        clear hK hT
        go_simp
        exact HK.out _ _ ⟨[_, _, _, _], rfl, _, _, _, _, rfl, by simpa using hL0, by simpa using hL2, HT.out.new4 hLi (HT.out.x.alloc _)⟩
      · refine wpOp_step rfl ?_
        intro K' hK
        have HK := Lib.hid hK
        have HT := Lib.hid hT
        clear hK hT
        go_simp
        exact HK.out _ _ ⟨[_, _, _, _], rfl, _, _, _, _, rfl, by simpa using hL0, by simpa using hL2, HT.out.new5 hLi (HT.out.x.alloc _)⟩
      · obtain ⟨A, n', c, e1, _⟩ := hT.i (by simp [hall])
        obtain ⟨p, cs, e2, hp, hb, hz, _⟩ := hT.v (by simp [hall])
        have hz := hz hLi
        subst hz
        have h1 : L 1 = true := by simp [hall]
        have h3 : L 3 = true := by simp [hall]
        have h4 : L 4 = true := by simp [hall]
        have h5 : L 5 = true := by simp [hall]
        subst e1
        subst e2
        have HB := Lib.hid hb
        unfold z8 at hb
        have y0 := hb.cell 0
        have y1 := hb.cell 1
        have y2 := hb.cell 2
        have y3 := hb.cell 3
        have y4 := hb.cell 4
        have y5 := hb.cell 5
        have y6 := hb.cell 6
        have y7 := hb.cell 7
        simp only [List.getElem?_toArray, List.getElem?_cons_zero, List.getElem?_cons_succ] at y0 y1 y2 y3 y4 y5 y6 y7
        have f0 := hb.frozen 0
        have f1 := hb.frozen 1
        have f2 := hb.frozen 2
        have f3 := hb.frozen 3
        have f4 := hb.frozen 4
        have f5 := hb.frozen 5
        have f6 := hb.frozen 6
        have f7 := hb.frozen 7
        refine wpOp_step rfl ?_
        intro K' hK
        have HK := Lib.hid hK
        have HT := Lib.hid hT
        clear hK hT
        clear hb
        unfold av
        go_simp
        exact HK.out _ _ ⟨[_, _, _, _], rfl, _, _, _, _, rfl, by simpa using hL0, by simpa using hL2, HT.out.put6 h1 h3 h4 h5 rfl rfl (keeps8 _ _ _ _ _ _ _ _ _ _) (put8 HB.out _ _ _ _ _ _ _ _) (keeps_high HT.out.x (keeps8 _ _ _ _ _ _ _ _ _ _) hp)⟩
      · obtain ⟨A, n', c, e1, _⟩ := hT.e (by simp [hall])
        obtain ⟨p, cs, e2, hp, hb, hz, _⟩ := hT.u (by simp [hall])
        have hz := hz hLi
        subst hz
        have h1 : L 1 = true := by simp [hall]
        have h3 : L 3 = true := by simp [hall]
        have h4 : L 4 = true := by simp [hall]
        have h5 : L 5 = true := by simp [hall]
        subst e1
        subst e2
        have HB := Lib.hid hb
        unfold z8 at hb
        have y0 := hb.cell 0
        have y1 := hb.cell 1
        have y2 := hb.cell 2
        have y3 := hb.cell 3
        have y4 := hb.cell 4
        have y5 := hb.cell 5
        have y6 := hb.cell 6
        have y7 := hb.cell 7
        simp only [List.getElem?_toArray, List.getElem?_cons_zero, List.getElem?_cons_succ] at y0 y1 y2 y3 y4 y5 y6 y7
        have f0 := hb.frozen 0
        have f1 := hb.frozen 1
        have f2 := hb.frozen 2
        have f3 := hb.frozen 3
        have f4 := hb.frozen 4
        have f5 := hb.frozen 5
        have f6 := hb.frozen 6
        have f7 := hb.frozen 7
        refine wpOp_step rfl ?_
        intro K' hK
        have HK := Lib.hid hK
        have HT := Lib.hid hT
        clear hK hT
        clear hb
        unfold av
        go_simp
        exact HK.out _ _ ⟨[_, _, _, _], rfl, _, _, _, _, rfl, by simpa using hL0, by simpa using hL2, HT.out.put7 h1 h3 h4 h5 rfl rfl (keeps8 _ _ _ _ _ _ _ _ _ _) (put8 HB.out _ _ _ _ _ _ _ _) (keeps_high HT.out.x (keeps8 _ _ _ _ _ _ _ _ _ _) hp)⟩
    case he =>
      rintro L vs w' ⟨s1, s3, s4, s5, rfl, _, _, hT⟩ hL
      have HX := Lib.hid hT.x
      obtain ⟨P, Q, A6, n6, c6, A7, n7, c7, rfl, rfl, q1, q2, q3, q4, _, _, _, _, q5⟩ := hT.done hL
      clear hT
      simp only [Ao.puts, Act.put, List.getElem_toArray, List.getElem_cons_succ, List.getElem_cons_zero, List.setIfInBounds_toArray, List.set_cons_zero, List.set_cons_succ]
      go_wp2_with fail
      go_meet
      exact ⟨P, Q, A6, n6, c6, A7, n7, c7, rfl, rfl, Lib.hid ⟨HX.out, q1, q2, q3, q4, q5⟩⟩
  case rest =>
    obtain ⟨P, Q, A6, n6, c6, A7, n7, c7, rfl, rfl, HW⟩ := hcut
    obtain ⟨W5, hW5⟩ : ∃ W, W = wc := ⟨_, rfl⟩
    rw [← hW5] at HW ⊢
    have HKW : Hid (Keeps (fun _ => False) w W5) := Lib.hid (HK1.out.trans HW.out.1)
    clear hW5 HMA HMB HS1 HT1 HK1
    have p0 := HW.out.2.1.cell 0
    have p1 := HW.out.2.1.cell 1
    have p2 := HW.out.2.1.cell 2
    have p3 := HW.out.2.1.cell 3
    have p4 := HW.out.2.1.cell 4
    have p5 := HW.out.2.1.cell 5
    have p6 := HW.out.2.1.cell 6
    have p7 := HW.out.2.1.cell 7
    unfold av at p0 p1 p2 p3 p4 p5 p6 p7
    simp only [List.getElem?_toArray, List.getElem?_cons_zero, List.getElem?_cons_succ] at p0 p1 p2 p3 p4 p5 p6 p7
    obtain ⟨j, hj⟩ : ∃ j, wh % 5 = j := ⟨_, rfl⟩
    have hmod : (wh : Int) % 5 = (j : Int) := by omega
    have hmodt : Int.tmod (wh : Int) 5 = (j : Int) := by rw [Int.tmod_eq_emod_of_nonneg (by omega)]; exact hmod
    have hwj : IntKind.u8.wrap (j : Int) = (j : Int) := IntWalk.u8_in _ (by omega)
    have hj5 : j = 0 ∨ j = 1 ∨ j = 2 ∨ j = 3 ∨ j = 4 := by omega
    go_upto_block 0 with fail
    have HC6 : Hid (Blk (W5.alloc (.cells #[.int .u8 a.d.K, .int .i64 a.d.B, .slice A6 n6 c6, .int .i64 a.d.le, .int .i64 a.d.bi, .int .u8 a.K, .int .i64 a.B, .int .u8 a.S] 34)) W5.heap.size 34 (av A6 n6 c6 a)) := Lib.hid (Blk.new _ _ _)
    have HK6 : Hid (Keeps (fun _ => False) W5 (W5.alloc (.cells #[.int .u8 a.d.K, .int .i64 a.d.B, .slice A6 n6 c6, .int .i64 a.d.le, .int .i64 a.d.bi, .int .u8 a.K, .int .i64 a.B, .int .u8 a.S] 34))) := Lib.hid ((Keeps.refl _ _).alloc _)
    generalize W5.alloc (.cells #[.int .u8 a.d.K, .int .i64 a.d.B, .slice A6 n6 c6, .int .i64 a.d.le, .int .i64 a.d.bi, .int .u8 a.K, .int .i64 a.B, .int .u8 a.S] 34) = W6 at HC6 HK6 ⊢
    clear p0 p1 p2 p3 p4 p5 p6 p7
    obtain ⟨C, hC⟩ : ∃ C, W5.heap.size = C := ⟨_, rfl⟩
    have HCC : Hid (W5.heap.size = C) := Lib.hid hC
    rw [hC] at HC6 ⊢
    clear hC
    go_cut [] from 29 to 67 (fun wx => ∃ A8 n8 c8 e8, Hid (Keeps (fun _ => False) W5 wx ∧ Blk wx C 34 (av A8 n8 c8 e8) ∧ Ents wx A8 n8 e8.d.L ∧ e8 ≠ a))
    case first =>
      have q0 := HC6.out.cell 0
      have q1 := HC6.out.cell 1
      have q2 := HC6.out.cell 2
      have q3 := HC6.out.cell 3
      have q4 := HC6.out.cell 4
      have q5 := HC6.out.cell 5
      have q6 := HC6.out.cell 6
      have q7 := HC6.out.cell 7
      unfold av at q0 q1 q2 q3 q4 q5 q6 q7
      simp only [List.getElem?_toArray, List.getElem?_cons_zero, List.getElem?_cons_succ] at q0 q1 q2 q3 q4 q5 q6 q7
      have f0 := HC6.out.frozen 0
      have f1 := HC6.out.frozen 1
      have f2 := HC6.out.frozen 2
      have f3 := HC6.out.frozen 3
      have f4 := HC6.out.frozen 4
      have f5 := HC6.out.frozen 5
      have f6 := HC6.out.frozen 6
      have f7 := HC6.out.frozen 7
      have haB := HA4.out.2.1
      have haK := HA4.out.1
      have haS := HA4.out.2.2.1
      have hal := HA4.out.2.2.2
      have HEA : Hid (∀ w', Keeps (· = C) W6 w' → Ents w' A6 n6 a.d.L) := fun w' k => (HW.out.2.2.2.1.more HK6.out).keeps k (fun h0 b o e hb => by subst e; have := HW.out.2.2.2.1.lt h0; have := HCC.out; omega)
      have HW7 : Hid (∀ w', Keeps (· = C) W6 w' → Keeps (fun _ => False) W5 w') := fun w' k => keeps_high HK6.out k (by rw [HCC.out]; exact Nat.le_refl _)
      rcases hj5 with hj0 | hj0 | hj0 | hj0 | hj0
      · subst hj0
        have w1 : IntKind.i64.wrap (a.B + 1) = a.B + 1 := IntWalk.i64_in _ (by omega)
        go_wp2_with fail
        go_meet
        have k : Keeps (· = C) W6 (W6.setCell ⟨C, 6, none⟩ (.int .i64 (a.B + 1))) := (Keeps.refl _ _).setOwn 6 _
        refine ⟨A6, n6, c6, {a with B := a.B + 1}, Lib.hid ⟨HW7.out _ k, by simpa [av] using HC6.out.setCell 6 (.int .i64 (a.B + 1)), HEA.out _ k, fun e => ?_⟩⟩
        have := congrArg E.B e
        simp only at this
        omega
      · subst hj0
        obtain ⟨S2, hS2⟩ : ∃ x, IntKind.u8.wrap (a.S + 1) = x := ⟨_, rfl⟩
        have hS3 : S2 ≠ a.S := by
          have h8 : IntKind.u8.wrap (a.S + 1) = (a.S + 1) % 256 := by simp [IntKind.wrap, IntKind.bits, IntKind.signed]
          rw [← hS2, h8]
          omega
        go_wp2_with fail
        go_meet
        have k : Keeps (· = C) W6 (W6.setCell ⟨C, 7, none⟩ (.int .u8 S2)) := (Keeps.refl _ _).setOwn 7 _
        refine ⟨A6, n6, c6, {a with S := S2}, Lib.hid ⟨HW7.out _ k, by simpa [av] using HC6.out.setCell 7 (.int .u8 S2), HEA.out _ k, fun e => ?_⟩⟩
        have := congrArg E.S e
        simp only at this
        omega
      · subst hj0
        have w1 : IntKind.i64.wrap (a.d.le + 1) = a.d.le + 1 := IntWalk.i64_in _ (by omega)
        go_wp2_with fail
        go_meet
        have k : Keeps (· = C) W6 (W6.setCell ⟨C, 3, none⟩ (.int .i64 (a.d.le + 1))) := (Keeps.refl _ _).setOwn 3 _
        refine ⟨A6, n6, c6, {a with d := {a.d with le := a.d.le + 1}}, Lib.hid ⟨HW7.out _ k, by simpa [av] using HC6.out.setCell 3 (.int .i64 (a.d.le + 1)), HEA.out _ k, fun e => ?_⟩⟩
        have := congrArg (fun x : E => x.d.le) e
        simp only at this
        omega
      · subst hj0
        have w1 : IntKind.u8.wrap (a.K + 1) = a.K + 1 := IntWalk.u8_in _ (by omega)
        go_wp2_with fail
        go_meet
        have k : Keeps (· = C) W6 (W6.setCell ⟨C, 5, none⟩ (.int .u8 (a.K + 1))) := (Keeps.refl _ _).setOwn 5 _
        refine ⟨A6, n6, c6, {a with K := a.K + 1}, Lib.hid ⟨HW7.out _ k, by simpa [av] using HC6.out.setCell 5 (.int .u8 (a.K + 1)), HEA.out _ k, fun e => ?_⟩⟩
        have := congrArg E.K e
        simp only at this
        omega
      · subst hj0
        go_upto_region 8 with fail
        have hn20 : n6 ≤ 20 := by have := HW.out.2.2.2.1.2.1; have := HA3.out; omega
        have HOE : Hid ((W6.alloc (.cells #[] 66)).ownsRow (C + 1) 66 2 (.slice (some ⟨W6.heap.size, 0, none⟩) 0 0) 0 (gvs [])) := Lib.hid (own_emptyE W6 _ (by have := HC6.out.lt; omega))
        have HE1 : Hid (Ents (W6.alloc (.cells #[] 66)) A6 n6 a.d.L) := Lib.hid ((HW.out.2.2.2.1.more HK6.out).more ((Keeps.refl _ _).alloc _))
        have HB1 : Hid (Blk (W6.alloc (.cells #[] 66)) C 34 (av A6 n6 c6 a)) := Lib.hid (HC6.out.keeps ((Keeps.refl (fun _ => False) _).alloc _) id)
        have HKa : Hid (Keeps (fun _ => False) W5 (W6.alloc (.cells #[] 66))) := Lib.hid (HK6.out.alloc _)
        have HSa : Hid (C + 1 ≤ (W6.alloc (.cells #[] 66)).heap.size) := Lib.hid (by have := HB1.out.lt; omega)
        have r2 := HB1.out.cell 2
        unfold av at r2
        simp only [List.getElem?_toArray, List.getElem?_cons_zero, List.getElem?_cons_succ] at r2
        go_wp2_with (first
          | (have H1 := HOE
             at_builtin
             refine wpList_appE rfl (.tmp 31) (.tmp 34) rfl (C + 1) 0 n6 c6 (.slice (some ⟨W6.heap.size, 0, none⟩) 0 0) [] a.d.L A6 rfl HOE.out rfl HE1.out (by omega) HSa.out ?_
             intro v7 w7 hown7 hg7
             rw [List.nil_append, Nat.zero_add] at hown7
             obtain ⟨A7', c7', rfl, _⟩ := own_form hown7
             have hk7 : Keeps (fun i => Value.ownBlock (.slice (some ⟨W6.heap.size, 0, none⟩) 0 0) = some i) _ w7 := Keeps.grown (Keeps.refl _ _) hg7 (fun i hi => .inl hi)
             have HB7 := Lib.hid (HB1.out.keeps hk7 (own_ne HOE.out HB1.out (by decide)))
             have HK7 := Lib.hid (HKa.out.grown hg7 (fun k hk => .inr (by have := (HOE.out.lt k hk).1; have := HCC.out; omega)))
             have HO7 := Lib.hid hown7
             have HO8 := Lib.hid (own_keeps hown7 ((Keeps.refl (fun _ => False) _).alloc (.cells #[.int .i64 0, .int .i64 1] 66)) (fun _ _ => id))
             have HB8 := Lib.hid (HB7.out.keeps ((Keeps.refl (fun _ => False) _).alloc (.cells #[.int .i64 0, .int .i64 1] 66)) id)
             have HK8 := Lib.hid (HK7.out.alloc (.cells #[.int .i64 0, .int .i64 1] 66))
             have HN8 := Lib.hid (ents_one w7 0 1)
             have HS8 : Hid (C + 1 ≤ (w7.alloc (.cells #[.int .i64 0, .int .i64 1] 66)).heap.size) := Lib.hid (by have := HB8.out.lt; omega)
             clear hown7 hg7 hk7 H1 HOE)
          | (at_builtin
             refine wpList_appE rfl (.tmp 35) (.tmp 37) rfl (C + 1) n6 1 1 (.slice A7' n6 c7') a.d.L [(0, 1)] (some ⟨w7.heap.size, 0, none⟩) rfl HO8.out rfl HN8.out (by omega) HS8.out ?_
             intro v9 w9 hown9 hg9
             obtain ⟨A9, c9, rfl, _⟩ := own_form hown9
             have hk9 : Keeps (fun i => Value.ownBlock (.slice A7' n6 c7') = some i) _ w9 := Keeps.grown (Keeps.refl _ _) hg9 (fun i hi => .inl hi)
             have HB9 := Lib.hid (HB8.out.keeps hk9 (own_ne HO8.out HB8.out (by decide)))
             have HK9 := Lib.hid (HK8.out.grown hg9 (fun k hk => .inr (by have := (HO8.out.lt k hk).1; have := HCC.out; omega)))
             have HO9 := Lib.hid hown9
             have g2 := HB9.out.frozen 2
             have s2 := HB9.out.cell 2
             unfold av at s2
             simp only [List.getElem?_toArray, List.getElem?_cons_zero, List.getElem?_cons_succ] at s2
             clear hown9 hg9 hk9))
        go_meet
        have k : Keeps (· = C) w9 (w9.setCell ⟨C, 2, none⟩ (.slice A9 (n6 + 1) c9)) := (Keeps.refl _ _).setOwn 2 _
        refine ⟨A9, n6 + 1, c9, {a with d := {a.d with L := a.d.L ++ [(0, 1)]}}, Lib.hid ⟨keeps_high HK9.out k (by rw [HCC.out]; exact Nat.le_refl _), by simpa [av] using HB9.out.setCell 2 (.slice A9 (n6 + 1) c9), ⟨(RowAt.of_own HO9.out).keeps k (fun b o e hb => own_ne HO9.out HB9.out (by decide) (by subst e; rw [← hb]; rfl)), by simp [HW.out.2.2.2.1.2.1], by omega⟩, fun e => ?_⟩⟩
        have := congrArg (fun x : E => x.d.L.length) e
        simp at this
    case rest =>
      obtain ⟨A8, n8, c8, e8, HV⟩ := hcut
      obtain ⟨W9, hW9⟩ : ∃ W, W = wc := ⟨_, rfl⟩
      rw [← hW9] at HV ⊢
      clear hW9 HC6 HK6
      have HK5 : Hid (Keeps (fun _ => False) w W9) := Lib.hid (HKW.out.trans HV.out.1)
      have HPB : Hid (Blk W9 P 34 (av A6 n6 c6 a) ∧ Blk W9 Q 34 (av A7 n7 c7 b) ∧ Ents W9 A6 n6 a.d.L ∧ Ents W9 A7 n7 b.d.L) := Lib.hid ⟨HW.out.2.1.keeps HV.out.1 id, HW.out.2.2.1.keeps HV.out.1 id, HW.out.2.2.2.1.more HV.out.1, HW.out.2.2.2.2.1.more HV.out.1⟩
      go_upto_region 18 with fail
      obtain ⟨G, hG⟩ : ∃ G, W9.heap.size = G := ⟨_, rfl⟩
      have e1 : (W9.alloc (.cells #[.slice none 0 0] 40)).heap.size = G + 1 := by rw [← hG]; simp
      have HR1 : Hid (IsWr G G (.slice none 0 0) [] ((W9.alloc (.cells #[.slice none 0 0] 40)).alloc (.cells #[.slice none 0 0] 40))) := by
        have h1 := new_of 40 (by decide) W9
        rw [hG] at h1
        exact Lib.hid (h1.keeps ((Keeps.refl (fun _ => False) _).alloc _) (fun _ _ => id))
      have HR2 : Hid (IsWr (G + 1) (G + 1) (.slice none 0 0) [] ((W9.alloc (.cells #[.slice none 0 0] 40)).alloc (.cells #[.slice none 0 0] 40))) := by
        have h1 := new_of 40 (by decide) (W9.alloc (.cells #[.slice none 0 0] 40))
        rw [e1] at h1
        exact Lib.hid h1
      have HK6 : Hid (Keeps (fun _ => False) W9 ((W9.alloc (.cells #[.slice none 0 0] 40)).alloc (.cells #[.slice none 0 0] 40))) := Lib.hid (((Keeps.refl _ _).alloc _).alloc _)
      generalize ((W9.alloc (.cells #[.slice none 0 0] 40)).alloc (.cells #[.slice none 0 0] 40)) = W10 at HR1 HR2 HK6 ⊢
      clear e1
      have HGW : Hid (W9.heap.size = G) := Lib.hid hG
      rw [hG]
      clear hG
      have HPA := Lib.hid (fun g base v ys W h h2 h3 h4 => put_a g base v ys A6 n6 c6 a W h h2 h3 h4 HA1.out)
      have HPC := Lib.hid (fun g base v ys W h h2 h3 h4 => put_a g base v ys A7 n7 c7 b W h h2 h3 h4 HB1.out)
      unfold av at HPA HPC
      have p0 := (HPB.out.1.keeps HK6.out id).cell 0
      have p1 := (HPB.out.1.keeps HK6.out id).cell 1
      have p2 := (HPB.out.1.keeps HK6.out id).cell 2
      have p3 := (HPB.out.1.keeps HK6.out id).cell 3
      have p4 := (HPB.out.1.keeps HK6.out id).cell 4
      have p5 := (HPB.out.1.keeps HK6.out id).cell 5
      have p6 := (HPB.out.1.keeps HK6.out id).cell 6
      have p7 := (HPB.out.1.keeps HK6.out id).cell 7
      unfold av at p0 p1 p2 p3 p4 p5 p6 p7
      simp only [List.getElem?_toArray, List.getElem?_cons_zero, List.getElem?_cons_succ] at p0 p1 p2 p3 p4 p5 p6 p7
      have q0 := (HPB.out.2.1.keeps HK6.out id).cell 0
      have q1 := (HPB.out.2.1.keeps HK6.out id).cell 1
      have q2 := (HPB.out.2.1.keeps HK6.out id).cell 2
      have q3 := (HPB.out.2.1.keeps HK6.out id).cell 3
      have q4 := (HPB.out.2.1.keeps HK6.out id).cell 4
      have q5 := (HPB.out.2.1.keeps HK6.out id).cell 5
      have q6 := (HPB.out.2.1.keeps HK6.out id).cell 6
      have q7 := (HPB.out.2.1.keeps HK6.out id).cell 7
      unfold av at q0 q1 q2 q3 q4 q5 q6 q7
      simp only [List.getElem?_toArray, List.getElem?_cons_zero, List.getElem?_cons_succ] at q0 q1 q2 q3 q4 q5 q6 q7
      go_upto_region 20 with (first
        | (have H1 := HR1
           go_at_call 14
           refine (HPA.out G G (.slice none 0 0) [] _ HR1.out (HPB.out.2.2.1.more HK6.out) (ents_far HPB.out.2.2.1 (by rw [HGW.out]; exact Nat.le_refl _)) (by simp)).mono ?_
           rintro e w4 ⟨rfl, hw4⟩
           obtain ⟨h4a, h4b⟩ := hw4.all (Nat.le_refl _) rfl
           have HK7 := Lib.hid (keeps_high HK6.out h4b (by rw [HGW.out]; exact Nat.le_refl _))
           have HR1c := Lib.hid h4a
           have HR2c := Lib.hid (HR2.out.keeps h4b (fun b hb e => by rcases hb with hb | hb; omega; cases hb))
           have r0 := (HPB.out.2.1.keeps HK7.out id).cell 0
           have r1 := (HPB.out.2.1.keeps HK7.out id).cell 1
           have r2 := (HPB.out.2.1.keeps HK7.out id).cell 2
           have r3 := (HPB.out.2.1.keeps HK7.out id).cell 3
           have r4 := (HPB.out.2.1.keeps HK7.out id).cell 4
           have r5 := (HPB.out.2.1.keeps HK7.out id).cell 5
           have r6 := (HPB.out.2.1.keeps HK7.out id).cell 6
           have r7 := (HPB.out.2.1.keeps HK7.out id).cell 7
           unfold av at r0 r1 r2 r3 r4 r5 r6 r7
           simp only [List.getElem?_toArray, List.getElem?_cons_zero, List.getElem?_cons_succ] at r0 r1 r2 r3 r4 r5 r6 r7
           clear hw4 h4a h4b H1 HR1 HR2 HPA
           clear p0 p1 p2 p3 p4 p5 p6 p7
           clear q0 q1 q2 q3 q4 q5 q6 q7)
        | (have H1 := HR2c
           go_at_call 14
           refine (HPC.out (G + 1) (G + 1) (.slice none 0 0) [] _ HR2c.out (HPB.out.2.2.2.more HK7.out) (ents_far HPB.out.2.2.2 (by rw [HGW.out]; omega)) (by simp)).mono ?_
           rintro e w5 ⟨rfl, hw5⟩
           obtain ⟨h5a, h5b⟩ := hw5.all (Nat.le_refl _) rfl
           have HK8 := Lib.hid (keeps_high HK7.out h5b (by rw [HGW.out]; omega))
           have HR1d : Hid (∃ v1, IsWr G G v1 ([] ++ bytA a) w5) := by
             obtain ⟨v1, hv1⟩ := HR1c.out
             obtain ⟨t, ht, hb⟩ := HR2c.out.2.2.2.2.1
             exact Lib.hid ⟨v1, hv1.keeps h5b (fun b hb' e => far hv1 hb (by omega) (Ne.symm ht) (by rw [← e]; exact hb'))⟩
           have HR2d := Lib.hid h5a
           clear hw5 h5a h5b H1 HR1c HR2c HPC
           clear r0 r1 r2 r3 r4 r5 r6 r7))
      obtain ⟨v1, hv1⟩ := HR1d.out
      obtain ⟨v2, hv2⟩ := HR2d.out
      rw [List.nil_append] at hv1 hv2
      have hbA := bytA_byte HA1.out HA4.out.2.2.1
      have hbB := bytA_byte HB1.out HB4.out.2.2.1
      have hlA := bytA_len a
      have hlB := bytA_len b
      have ha3 := HA3.out
      have hb3 := HB3.out
      have hin := bytA_inj HA1.out HB1.out HA2.out HB2.out
      obtain ⟨r, hr⟩ : ∃ r, sameA a b = r := ⟨_, rfl⟩
      have hrr : r = true ↔ bytA a = bytA b := by rw [← hr, sameA_iff, hin]
      obtain ⟨xs, hxs⟩ : ∃ xs, bytA a = xs := ⟨_, rfl⟩
      obtain ⟨ys, hys⟩ : ∃ ys, bytA b = ys := ⟨_, rfl⟩
      rw [hxs] at hv1 hbA hlA hrr
      rw [hys] at hv2 hbB hlB hrr
      obtain ⟨m1, hm1⟩ : ∃ m1, xs.length = m1 := ⟨_, rfl⟩
      obtain ⟨m2, hm2⟩ : ∃ m2, ys.length = m2 := ⟨_, rfl⟩
      obtain ⟨sX, hsX⟩ : ∃ s, s = strOfNums xs := ⟨_, rfl⟩
      obtain ⟨sY, hsY⟩ : ∃ s, s = strOfNums ys := ⟨_, rfl⟩
      have hst : (sX.toList == sY.toList) = r := by
        rw [Bool.eq_iff_iff, beq_iff_eq, hrr]
        exact ⟨fun h => str_inj hbA hbB (by rw [← hsX, ← hsY, h]), fun h => by rw [hsX, hsY, h]⟩
      have HV1 := Lib.hid hv1
      have HV2 := Lib.hid hv2
      have HM1 := Lib.hid hm1
      have HM2 := Lib.hid hm2
      have HSX := Lib.hid hsX
      have HSY := Lib.hid hsY
      have HRR := Lib.hid hr
      clear hv1 hv2 hbA hbB hlA hlB ha3 hb3 hin hrr hxs hys hm1 hm2 hsX hsY hr HR1d HR2d
      have HSA : Hid (∀ W, Ents W A6 n6 a.d.L → Calls Try.prog 21 #[.agg (av A6 n6 c6 a), .agg (av A6 n6 c6 a)] W fun r w' => r = .returned (.bool true) ∧ Keeps (fun _ => False) W w') := fun W h => by have := same_a A6 A6 n6 n6 c6 c6 a a W h h; rwa [sameA_self] at this
      have HSB : Hid (∀ W, Ents W A6 n6 a.d.L → Ents W A8 n8 e8.d.L → Calls Try.prog 21 #[.agg (av A6 n6 c6 a), .agg (av A8 n8 c8 e8)] W fun r w' => r = .returned (.bool false) ∧ Keeps (fun _ => False) W w') := fun W h h2 => by
        have hf : sameA a e8 = false := by
          cases hq : sameA a e8 with
          | false => rfl
          | true => exact absurd ((sameA_iff _ _).1 hq).symm HV.out.2.2.2
        have := same_a A6 A8 n6 n8 c6 c8 a e8 W h h2; rwa [hf] at this
      have HSC : Hid (∀ W, Ents W A6 n6 a.d.L → Ents W A7 n7 b.d.L → Calls Try.prog 21 #[.agg (av A6 n6 c6 a), .agg (av A7 n7 c7 b)] W fun e w' => e = .returned (.bool r) ∧ Keeps (fun _ => False) W w') := fun W h h2 => by have := same_a A6 A7 n6 n7 c6 c7 a b W h h2; rwa [HRR.out] at this
      have HSI : Hid (∀ W, Ents W A6 n6 a.d.L → Calls Try.prog 19 #[.agg (dv A6 n6 c6 a.d), .agg (dv A6 n6 c6 a.d)] W fun r w' => r = .returned (.bool true) ∧ Keeps (fun _ => False) W w') := fun W h => by have := same_i A6 A6 n6 n6 c6 c6 a.d a.d W h h; rwa [sameI_self] at this
      unfold av at HSA HSB HSC
      unfold dv at HSI
      refine wp_region_held_drew (S := fun w' => Keeps (fun _ => False) w5 w') (by kernel_rfl) ((Keeps.refl _ _).drewN 1) (fun hHeld => ?_)
      have HKA : Hid (Keeps (fun _ => False) W9 w5.drew) := Lib.hid (HK8.out.drewN 1)
      have HWA : Hid (IsWr G G v1 xs w5.drew) := Lib.hid (HV1.out.keeps ((Keeps.refl (fun _ => False) _).drewN 1) (fun _ _ => id))
      have HWB : Hid (IsWr (G + 1) (G + 1) v2 ys w5.drew) := Lib.hid (HV2.out.keeps ((Keeps.refl (fun _ => False) _).drewN 1) (fun _ _ => id))
      generalize w5.drew = w10 at hHeld HKA HWA HWB ⊢
      refine Ao.wpAnyH_as (S' := fun w' => Keeps (fun _ => False) w10 w') (fun w' k => hHeld.trans k) _ _ _ _ ?_
      replace hHeld : Keeps (fun _ => False) w10 w10 := Keeps.refl _ _
      refine wpAnyH_take (i := 0) (v := ?vz0) rfl (by kernel_rfl) (by kernel_rfl) (by kernel_rfl) (fun _ _ _ h => h) (Or.inl ⟨by rfl, ?yz0⟩) hHeld ?rz0
      case yz0 => (intro w' hSw; have hb := (HPB.out.1).keeps (HKA.out.trans hSw) id; have i0 := hb.cell 0; have i1 := hb.cell 1; have i2 := hb.cell 2; have i3 := hb.cell 3; have i4 := hb.cell 4; have i5 := hb.cell 5; have i6 := hb.cell 6; have i7 := hb.cell 7; unfold av at i0 i1 i2 i3 i4 i5 i6 i7; simp only [List.getElem?_toArray, List.getElem?_cons_zero, List.getElem?_cons_succ] at i0 i1 i2 i3 i4 i5 i6 i7; go_simp; try with_reducible rfl)
      simp only [Act.put, List.getElem_toArray, List.getElem_cons_succ, List.getElem_cons_zero, List.setIfInBounds_toArray, List.set_cons_zero, List.set_cons_succ]
      refine wpAnyH_take (i := 1) (v := ?vz1) rfl (by kernel_rfl) (by kernel_rfl) (by kernel_rfl) (fun _ _ _ h => h) (Or.inl ⟨by rfl, ?yz1⟩) hHeld ?rz1
      case yz1 => (intro w' hSw; have hb := (HPB.out.1).keeps (HKA.out.trans hSw) id; have i0 := hb.cell 0; have i1 := hb.cell 1; have i2 := hb.cell 2; have i3 := hb.cell 3; have i4 := hb.cell 4; have i5 := hb.cell 5; have i6 := hb.cell 6; have i7 := hb.cell 7; unfold av at i0 i1 i2 i3 i4 i5 i6 i7; simp only [List.getElem?_toArray, List.getElem?_cons_zero, List.getElem?_cons_succ] at i0 i1 i2 i3 i4 i5 i6 i7; go_simp; try with_reducible rfl)
      simp only [Act.put, List.getElem_toArray, List.getElem_cons_succ, List.getElem_cons_zero, List.setIfInBounds_toArray, List.set_cons_zero, List.set_cons_succ]
      refine wpAnyH_ready (rs := [2]) (by kernel_rfl) (by simp) ?_
      refine AllReadyH.cons rfl (fun K hK => ?_) AllReadyH.nil
      go_simp
      refine (HSA.out _ (HPB.out.2.2.1.more HKA.out)).mono ?_
      rintro e w11 ⟨rfl, hk⟩
      have HKB := Lib.hid (HKA.out.trans hk)
      have HWC := Lib.hid (HWA.out.keeps hk (fun _ _ => id))
      have HWD := Lib.hid (HWB.out.keeps hk (fun _ _ => id))
      dsimp only
      refine hK.out _ _ (hHeld.trans hk) (fun hHeld => ?_)
      clear hK K
      try simp only [Act.put, List.getElem_toArray, List.getElem_cons_succ, List.getElem_cons_zero, List.setIfInBounds_toArray, List.set_cons_zero, List.set_cons_succ]
      refine Ao.wpAnyH_as (S' := fun w' => Keeps (fun _ => False) w11 w') (fun w' k => hHeld.trans k) _ _ _ _ ?_
      replace hHeld : Keeps (fun _ => False) w11 w11 := Keeps.refl _ _
      clear hk HKA HWA HWB; have HKA := HKB; have HWA := HWC; have HWB := HWD; clear HKB HWC HWD
      refine wpAnyH_take (i := 3) (v := ?vz3) rfl (by kernel_rfl) (by kernel_rfl) (by kernel_rfl) (fun _ _ _ h => h) (Or.inl ⟨by rfl, ?yz3⟩) hHeld ?rz3
      case yz3 => (intro w' hSw; go_simp; try with_reducible rfl)
      simp only [Act.put, List.getElem_toArray, List.getElem_cons_succ, List.getElem_cons_zero, List.setIfInBounds_toArray, List.set_cons_zero, List.set_cons_succ]
      refine wpAnyH_take (i := 4) (v := ?vz4) rfl (by kernel_rfl) (by kernel_rfl) (by kernel_rfl) (fun _ _ _ h => h) (Or.inl ⟨by rfl, ?yz4⟩) hHeld ?rz4
      case yz4 => (intro w' hSw; have hb := (HPB.out.1).keeps (HKA.out.trans hSw) id; have i0 := hb.cell 0; have i1 := hb.cell 1; have i2 := hb.cell 2; have i3 := hb.cell 3; have i4 := hb.cell 4; have i5 := hb.cell 5; have i6 := hb.cell 6; have i7 := hb.cell 7; unfold av at i0 i1 i2 i3 i4 i5 i6 i7; simp only [List.getElem?_toArray, List.getElem?_cons_zero, List.getElem?_cons_succ] at i0 i1 i2 i3 i4 i5 i6 i7; go_simp; try with_reducible rfl)
      simp only [Act.put, List.getElem_toArray, List.getElem_cons_succ, List.getElem_cons_zero, List.setIfInBounds_toArray, List.set_cons_zero, List.set_cons_succ]
      refine wpAnyH_take (i := 5) (v := ?vz5) rfl (by kernel_rfl) (by kernel_rfl) (by kernel_rfl) (fun _ _ _ h => h) (Or.inl ⟨by rfl, ?yz5⟩) hHeld ?rz5
      case yz5 => (intro w' hSw; have hb := (HV.out.2.1).keeps (HKA.out.trans hSw) id; have i0 := hb.cell 0; have i1 := hb.cell 1; have i2 := hb.cell 2; have i3 := hb.cell 3; have i4 := hb.cell 4; have i5 := hb.cell 5; have i6 := hb.cell 6; have i7 := hb.cell 7; unfold av at i0 i1 i2 i3 i4 i5 i6 i7; simp only [List.getElem?_toArray, List.getElem?_cons_zero, List.getElem?_cons_succ] at i0 i1 i2 i3 i4 i5 i6 i7; go_simp; try with_reducible rfl)
      simp only [Act.put, List.getElem_toArray, List.getElem_cons_succ, List.getElem_cons_zero, List.setIfInBounds_toArray, List.set_cons_zero, List.set_cons_succ]
      refine wpAnyH_ready (rs := [6]) (by kernel_rfl) (by simp) ?_
      refine AllReadyH.cons rfl (fun K hK => ?_) AllReadyH.nil
      go_simp
      refine (HSB.out _ (HPB.out.2.2.1.more HKA.out) (HV.out.2.2.1.more HKA.out)).mono ?_
      rintro e w12 ⟨rfl, hk⟩
      have HKB := Lib.hid (HKA.out.trans hk)
      have HWC := Lib.hid (HWA.out.keeps hk (fun _ _ => id))
      have HWD := Lib.hid (HWB.out.keeps hk (fun _ _ => id))
      dsimp only
      refine hK.out _ _ (hHeld.trans hk) (fun hHeld => ?_)
      clear hK K
      try simp only [Act.put, List.getElem_toArray, List.getElem_cons_succ, List.getElem_cons_zero, List.setIfInBounds_toArray, List.set_cons_zero, List.set_cons_succ]
      refine Ao.wpAnyH_as (S' := fun w' => Keeps (fun _ => False) w12 w') (fun w' k => hHeld.trans k) _ _ _ _ ?_
      replace hHeld : Keeps (fun _ => False) w12 w12 := Keeps.refl _ _
      clear hk HKA HWA HWB; have HKA := HKB; have HWA := HWC; have HWB := HWD; clear HKB HWC HWD
      refine wpAnyH_take (i := 7) (v := ?vz7) rfl (by kernel_rfl) (by kernel_rfl) (by kernel_rfl) (fun _ _ _ h => h) (Or.inl ⟨by rfl, ?yz7⟩) hHeld ?rz7
      case yz7 => (intro w' hSw; go_simp; try with_reducible rfl)
      simp only [Act.put, List.getElem_toArray, List.getElem_cons_succ, List.getElem_cons_zero, List.setIfInBounds_toArray, List.set_cons_zero, List.set_cons_succ]
      refine wpAnyH_take (i := 8) (v := ?vz8) rfl (by kernel_rfl) (by kernel_rfl) (by kernel_rfl) (fun _ _ _ h => h) (Or.inl ⟨by rfl, ?yz8⟩) hHeld ?rz8
      case yz8 => (intro w' hSw; go_simp; try with_reducible rfl)
      simp only [Act.put, List.getElem_toArray, List.getElem_cons_succ, List.getElem_cons_zero, List.setIfInBounds_toArray, List.set_cons_zero, List.set_cons_succ]
      refine wpAnyH_take (i := 9) (v := ?vz9) rfl (by kernel_rfl) (by kernel_rfl) (by kernel_rfl) (fun _ _ _ h => h) (Or.inl ⟨by rfl, ?yz9⟩) hHeld ?rz9
      case yz9 => (intro w' hSw; go_simp; try with_reducible rfl)
      simp only [Act.put, List.getElem_toArray, List.getElem_cons_succ, List.getElem_cons_zero, List.setIfInBounds_toArray, List.set_cons_zero, List.set_cons_succ]
      refine wpAnyH_take (i := 10) (v := ?vz10) rfl (by kernel_rfl) (by kernel_rfl) (by kernel_rfl) (fun _ _ _ h => h) (Or.inl ⟨by rfl, ?yz10⟩) hHeld ?rz10
      case yz10 => (intro w' hSw; have hb := (HPB.out.1).keeps (HKA.out.trans hSw) id; have i0 := hb.cell 0; have i1 := hb.cell 1; have i2 := hb.cell 2; have i3 := hb.cell 3; have i4 := hb.cell 4; have i5 := hb.cell 5; have i6 := hb.cell 6; have i7 := hb.cell 7; unfold av at i0 i1 i2 i3 i4 i5 i6 i7; simp only [List.getElem?_toArray, List.getElem?_cons_zero, List.getElem?_cons_succ] at i0 i1 i2 i3 i4 i5 i6 i7; go_simp; try with_reducible rfl)
      simp only [Act.put, List.getElem_toArray, List.getElem_cons_succ, List.getElem_cons_zero, List.setIfInBounds_toArray, List.set_cons_zero, List.set_cons_succ]
      refine wpAnyH_take (i := 11) (v := ?vz11) rfl (by kernel_rfl) (by kernel_rfl) (by kernel_rfl) (fun _ _ _ h => h) (Or.inl ⟨by rfl, ?yz11⟩) hHeld ?rz11
      case yz11 => (intro w' hSw; have hb := (HPB.out.2.1).keeps (HKA.out.trans hSw) id; have i0 := hb.cell 0; have i1 := hb.cell 1; have i2 := hb.cell 2; have i3 := hb.cell 3; have i4 := hb.cell 4; have i5 := hb.cell 5; have i6 := hb.cell 6; have i7 := hb.cell 7; unfold av at i0 i1 i2 i3 i4 i5 i6 i7; simp only [List.getElem?_toArray, List.getElem?_cons_zero, List.getElem?_cons_succ] at i0 i1 i2 i3 i4 i5 i6 i7; go_simp; try with_reducible rfl)
      simp only [Act.put, List.getElem_toArray, List.getElem_cons_succ, List.getElem_cons_zero, List.setIfInBounds_toArray, List.set_cons_zero, List.set_cons_succ]
      refine wpAnyH_take (i := 13) (v := ?vz13) rfl (by kernel_rfl) (by kernel_rfl) (by kernel_rfl) (fun _ _ _ h => h) (Or.inl ⟨by rfl, ?yz13⟩) hHeld ?rz13
      case yz13 => (intro w' hSw; go_simp; try with_reducible rfl)
      simp only [Act.put, List.getElem_toArray, List.getElem_cons_succ, List.getElem_cons_zero, List.setIfInBounds_toArray, List.set_cons_zero, List.set_cons_succ]
      refine wpAnyH_take (i := 14) (v := ?vz14) rfl (by kernel_rfl) (by kernel_rfl) (by kernel_rfl) (fun _ _ _ h => h) (Or.inl ⟨by rfl, ?yz14⟩) hHeld ?rz14
      case yz14 => (intro w' hSw; go_simp; try with_reducible rfl)
      simp only [Act.put, List.getElem_toArray, List.getElem_cons_succ, List.getElem_cons_zero, List.setIfInBounds_toArray, List.set_cons_zero, List.set_cons_succ]
      refine wpAnyH_take (i := 15) (v := ?vz15) rfl (by kernel_rfl) (by kernel_rfl) (by kernel_rfl) (fun _ _ _ h => h) (Or.inl ⟨by rfl, ?yz15⟩) hHeld ?rz15
      case yz15 => (intro w' hSw; go_simp; try with_reducible rfl)
      simp only [Act.put, List.getElem_toArray, List.getElem_cons_succ, List.getElem_cons_zero, List.setIfInBounds_toArray, List.set_cons_zero, List.set_cons_succ]
      refine wpAnyH_take (i := 18) (v := ?vz18) rfl (by kernel_rfl) (by kernel_rfl) (by kernel_rfl) (fun _ _ _ h => h) (Or.inl ⟨by rfl, ?yz18⟩) hHeld ?rz18
      case yz18 => (intro w' hSw; go_simp; try with_reducible rfl)
      simp only [Act.put, List.getElem_toArray, List.getElem_cons_succ, List.getElem_cons_zero, List.setIfInBounds_toArray, List.set_cons_zero, List.set_cons_succ]
      refine wpAnyH_take (i := 19) (v := ?vz19) rfl (by kernel_rfl) (by kernel_rfl) (by kernel_rfl) (fun _ _ _ h => h) (Or.inl ⟨by rfl, ?yz19⟩) hHeld ?rz19
      case yz19 => (intro w' hSw; go_simp; try with_reducible rfl)
      simp only [Act.put, List.getElem_toArray, List.getElem_cons_succ, List.getElem_cons_zero, List.setIfInBounds_toArray, List.set_cons_zero, List.set_cons_succ]
      refine wpAnyH_take (i := 20) (v := ?vz20) rfl (by kernel_rfl) (by kernel_rfl) (by kernel_rfl) (fun _ _ _ h => h) (Or.inl ⟨by rfl, ?yz20⟩) hHeld ?rz20
      case yz20 => (intro w' hSw; go_simp; try with_reducible rfl)
      simp only [Act.put, List.getElem_toArray, List.getElem_cons_succ, List.getElem_cons_zero, List.setIfInBounds_toArray, List.set_cons_zero, List.set_cons_succ]
      refine wpAnyH_ready (rs := [12]) (by kernel_rfl) (by simp) ?_
      refine AllReadyH.cons rfl (fun K hK => ?_) AllReadyH.nil
      go_simp
      refine (HSC.out _ (HPB.out.2.2.1.more HKA.out) (HPB.out.2.2.2.more HKA.out)).mono ?_
      rintro e w13 ⟨rfl, hk⟩
      have HKB := Lib.hid (HKA.out.trans hk)
      have HWC := Lib.hid (HWA.out.keeps hk (fun _ _ => id))
      have HWD := Lib.hid (HWB.out.keeps hk (fun _ _ => id))
      dsimp only
      refine hK.out _ _ (hHeld.trans hk) (fun hHeld => ?_)
      clear hK K
      try simp only [Act.put, List.getElem_toArray, List.getElem_cons_succ, List.getElem_cons_zero, List.setIfInBounds_toArray, List.set_cons_zero, List.set_cons_succ]
      refine Ao.wpAnyH_as (S' := fun w' => Keeps (fun _ => False) w13 w') (fun w' k => hHeld.trans k) _ _ _ _ ?_
      replace hHeld : Keeps (fun _ => False) w13 w13 := Keeps.refl _ _
      clear hk HKA HWA HWB; have HKA := HKB; have HWA := HWC; have HWB := HWD; clear HKB HWC HWD
      refine wpAnyH_ready (rs := [16]) (by kernel_rfl) (by simp) ?_
      refine AllReadyH.cons rfl (fun K hK => ?_) AllReadyH.nil
      go_simp
      refine (bytes_n G G v1 xs m1 _ HM1.out HWA.out).mono ?_
      rintro e w14 ⟨A1, c1, rfl, hv, hk⟩
      have HKB := Lib.hid (HKA.out.trans hk)
      have HWC := Lib.hid (HWA.out.keeps hk (fun _ _ => id))
      have HWD := Lib.hid (HWB.out.keeps hk (fun _ _ => id))
      have HO1 := Lib.hid hv
      dsimp only
      refine hK.out _ _ (hHeld.trans hk) (fun hHeld => ?_)
      clear hK K
      try simp only [Act.put, List.getElem_toArray, List.getElem_cons_succ, List.getElem_cons_zero, List.setIfInBounds_toArray, List.set_cons_zero, List.set_cons_succ]
      refine Ao.wpAnyH_as (S' := fun w' => Keeps (fun _ => False) w14 w') (fun w' k => hHeld.trans k) _ _ _ _ ?_
      replace hHeld : Keeps (fun _ => False) w14 w14 := Keeps.refl _ _
      clear hk HKA HWA HWB; have HKA := HKB; have HWA := HWC; have HWB := HWD; clear HKB HWC HWD
      have HC1 : Hid (∀ w', Keeps (fun _ => False) w14 w' → (convert 24 9 (.slice A1 m1 c1)).run Try.prog w' = .ok (.string sX) w') := fun w' k => by rw [HSX.out]; exact (Lies.of_own (own_keeps HO1.out k (fun _ _ => id))).str_n (P := Try.prog) m1 HM1.out 24 9 5 c1 Try.underlying24 Try.underlying5 Try.underlying9
      refine wpAnyH_take (i := 17) (v := ?vz17) rfl (by kernel_rfl) (by kernel_rfl) (by kernel_rfl) (fun _ _ _ h => h) (Or.inl ⟨by rfl, ?yz17⟩) hHeld ?rz17
      case yz17 => (intro w' hSw; have hcv := HC1.out w' hSw; go_simp; try with_reducible rfl)
      simp only [Act.put, List.getElem_toArray, List.getElem_cons_succ, List.getElem_cons_zero, List.setIfInBounds_toArray, List.set_cons_zero, List.set_cons_succ]
      refine wpAnyH_ready (rs := [21]) (by kernel_rfl) (by simp) ?_
      refine AllReadyH.cons rfl (fun K hK => ?_) AllReadyH.nil
      go_simp
      refine (bytes_n (G + 1) (G + 1) v2 ys m2 _ HM2.out HWB.out).mono ?_
      rintro e w15 ⟨A2, c2, rfl, hv, hk⟩
      have HKB := Lib.hid (HKA.out.trans hk)
      have HWC := Lib.hid (HWA.out.keeps hk (fun _ _ => id))
      have HWD := Lib.hid (HWB.out.keeps hk (fun _ _ => id))
      have HO2 := Lib.hid hv
      dsimp only
      refine hK.out _ _ (hHeld.trans hk) (fun hHeld => ?_)
      clear hK K
      try simp only [Act.put, List.getElem_toArray, List.getElem_cons_succ, List.getElem_cons_zero, List.setIfInBounds_toArray, List.set_cons_zero, List.set_cons_succ]
      refine Ao.wpAnyH_as (S' := fun w' => Keeps (fun _ => False) w15 w') (fun w' k => hHeld.trans k) _ _ _ _ ?_
      replace hHeld : Keeps (fun _ => False) w15 w15 := Keeps.refl _ _
      clear hk HKA HWA HWB; have HKA := HKB; have HWA := HWC; have HWB := HWD; clear HKB HWC HWD
      have HC2 : Hid (∀ w', Keeps (fun _ => False) w15 w' → (convert 24 9 (.slice A2 m2 c2)).run Try.prog w' = .ok (.string sY) w') := fun w' k => by rw [HSY.out]; exact (Lies.of_own (own_keeps HO2.out k (fun _ _ => id))).str_n (P := Try.prog) m2 HM2.out 24 9 5 c2 Try.underlying24 Try.underlying5 Try.underlying9
      refine wpAnyH_take (i := 22) (v := ?vz22) rfl (by kernel_rfl) (by kernel_rfl) (by kernel_rfl) (fun _ _ _ h => h) (Or.inl ⟨by rfl, ?yz22⟩) hHeld ?rz22
      case yz22 => (intro w' hSw; have hcv := HC2.out w' hSw; go_simp; try with_reducible rfl)
      simp only [Act.put, List.getElem_toArray, List.getElem_cons_succ, List.getElem_cons_zero, List.setIfInBounds_toArray, List.set_cons_zero, List.set_cons_succ]
      refine wpAnyH_take (i := 23) (v := ?vz23) rfl (by kernel_rfl) (by kernel_rfl) (by kernel_rfl) (fun _ _ _ h => h) (Or.inl ⟨by rfl, ?yz23⟩) hHeld ?rz23
      case yz23 => (intro w' hSw; go_simp; try with_reducible rfl)
      simp only [Act.put, List.getElem_toArray, List.getElem_cons_succ, List.getElem_cons_zero, List.setIfInBounds_toArray, List.set_cons_zero, List.set_cons_succ]
      refine wpAnyH_take (i := 24) (v := ?vz24) rfl (by kernel_rfl) (by kernel_rfl) (by kernel_rfl) (fun _ _ _ h => h) (Or.inl ⟨by rfl, ?yz24⟩) hHeld ?rz24
      case yz24 => (intro w' hSw; go_simp; try with_reducible rfl)
      simp only [Act.put, List.getElem_toArray, List.getElem_cons_succ, List.getElem_cons_zero, List.setIfInBounds_toArray, List.set_cons_zero, List.set_cons_succ]
      refine wpAnyH_take (i := 25) (v := ?vz25) rfl (by kernel_rfl) (by kernel_rfl) (by kernel_rfl) (fun _ _ _ h => h) (Or.inl ⟨by rfl, ?yz25⟩) hHeld ?rz25
      case yz25 => (intro w' hSw; go_simp; try with_reducible rfl)
      simp only [Act.put, List.getElem_toArray, List.getElem_cons_succ, List.getElem_cons_zero, List.setIfInBounds_toArray, List.set_cons_zero, List.set_cons_succ]
      refine wpAnyH_take (i := 26) (v := ?vz26) rfl (by kernel_rfl) (by kernel_rfl) (by kernel_rfl) (fun _ _ _ h => h) (Or.inl ⟨by rfl, ?yz26⟩) hHeld ?rz26
      case yz26 => (intro w' hSw; go_simp; try with_reducible rfl)
      simp only [Act.put, List.getElem_toArray, List.getElem_cons_succ, List.getElem_cons_zero, List.setIfInBounds_toArray, List.set_cons_zero, List.set_cons_succ]
      refine wpAnyH_take (i := 27) (v := ?vz27) rfl (by kernel_rfl) (by kernel_rfl) (by kernel_rfl) (fun _ _ _ h => h) (Or.inl ⟨by rfl, ?yz27⟩) hHeld ?rz27
      case yz27 => (intro w' hSw; go_simp; try with_reducible rfl)
      simp only [Act.put, List.getElem_toArray, List.getElem_cons_succ, List.getElem_cons_zero, List.setIfInBounds_toArray, List.set_cons_zero, List.set_cons_succ]
      refine wpAnyH_take (i := 28) (v := ?vz28) rfl (by kernel_rfl) (by kernel_rfl) (by kernel_rfl) (fun _ _ _ h => h) (Or.inl ⟨by rfl, ?yz28⟩) hHeld ?rz28
      case yz28 => (intro w' hSw; have hb := (HPB.out.1).keeps (HKA.out.trans hSw) id; have i0 := hb.cell 0; have i1 := hb.cell 1; have i2 := hb.cell 2; have i3 := hb.cell 3; have i4 := hb.cell 4; have i5 := hb.cell 5; have i6 := hb.cell 6; have i7 := hb.cell 7; unfold av at i0 i1 i2 i3 i4 i5 i6 i7; simp only [List.getElem?_toArray, List.getElem?_cons_zero, List.getElem?_cons_succ] at i0 i1 i2 i3 i4 i5 i6 i7; go_simp; try with_reducible rfl)
      simp only [Act.put, List.getElem_toArray, List.getElem_cons_succ, List.getElem_cons_zero, List.setIfInBounds_toArray, List.set_cons_zero, List.set_cons_succ]
      refine wpAnyH_take (i := 29) (v := ?vz29) rfl (by kernel_rfl) (by kernel_rfl) (by kernel_rfl) (fun _ _ _ h => h) (Or.inl ⟨by rfl, ?yz29⟩) hHeld ?rz29
      case yz29 => (intro w' hSw; go_simp; try with_reducible rfl)
      simp only [Act.put, List.getElem_toArray, List.getElem_cons_succ, List.getElem_cons_zero, List.setIfInBounds_toArray, List.set_cons_zero, List.set_cons_succ]
      refine wpAnyH_take (i := 30) (v := ?vz30) rfl (by kernel_rfl) (by kernel_rfl) (by kernel_rfl) (fun _ _ _ h => h) (Or.inl ⟨by rfl, ?yz30⟩) hHeld ?rz30
      case yz30 => (intro w' hSw; have hb := (HPB.out.1).keeps (HKA.out.trans hSw) id; have i0 := hb.cell 0; have i1 := hb.cell 1; have i2 := hb.cell 2; have i3 := hb.cell 3; have i4 := hb.cell 4; have i5 := hb.cell 5; have i6 := hb.cell 6; have i7 := hb.cell 7; unfold av at i0 i1 i2 i3 i4 i5 i6 i7; simp only [List.getElem?_toArray, List.getElem?_cons_zero, List.getElem?_cons_succ] at i0 i1 i2 i3 i4 i5 i6 i7; go_simp; try with_reducible rfl)
      simp only [Act.put, List.getElem_toArray, List.getElem_cons_succ, List.getElem_cons_zero, List.setIfInBounds_toArray, List.set_cons_zero, List.set_cons_succ]
      refine wpAnyH_ready (rs := [31]) (by kernel_rfl) (by simp) ?_
      refine AllReadyH.cons rfl (fun K hK => ?_) AllReadyH.nil
      go_simp
      refine (HSI.out _ (HPB.out.2.2.1.more HKA.out)).mono ?_
      rintro e w16 ⟨rfl, hk⟩
      have HKB := Lib.hid (HKA.out.trans hk)
      have HWC := Lib.hid (HWA.out.keeps hk (fun _ _ => id))
      have HWD := Lib.hid (HWB.out.keeps hk (fun _ _ => id))
      dsimp only
      refine hK.out _ _ (hHeld.trans hk) (fun hHeld => ?_)
      clear hK K
      try simp only [Act.put, List.getElem_toArray, List.getElem_cons_succ, List.getElem_cons_zero, List.setIfInBounds_toArray, List.set_cons_zero, List.set_cons_succ]
      refine Ao.wpAnyH_as (S' := fun w' => Keeps (fun _ => False) w16 w') (fun w' k => hHeld.trans k) _ _ _ _ ?_
      replace hHeld : Keeps (fun _ => False) w16 w16 := Keeps.refl _ _
      clear hk HKA HWA HWB; have HKA := HKB; have HWA := HWC; have HWB := HWD; clear HKB HWC HWD
      refine wpAnyH_take (i := 32) (v := ?vz32) rfl (by kernel_rfl) (by kernel_rfl) (by kernel_rfl) (fun _ _ _ h => h) (Or.inl ⟨by rfl, ?yz32⟩) hHeld ?rz32
      case yz32 => (intro w' hSw; go_simp; try with_reducible rfl)
      simp only [Act.put, List.getElem_toArray, List.getElem_cons_succ, List.getElem_cons_zero, List.setIfInBounds_toArray, List.set_cons_zero, List.set_cons_succ]
      refine wpAnyH_take (i := 33) (v := ?vz33) rfl (by kernel_rfl) (by kernel_rfl) (by kernel_rfl) (fun _ _ _ h => h) (Or.inl ⟨by rfl, ?yz33⟩) hHeld ?rz33
      case yz33 => (intro w' hSw; go_simp; try with_reducible rfl)
      simp only [Act.put, List.getElem_toArray, List.getElem_cons_succ, List.getElem_cons_zero, List.setIfInBounds_toArray, List.set_cons_zero, List.set_cons_succ]
      refine wpAnyH_done (by kernel_rfl) ?_ _
      have HF := Lib.hid (HK5.out.trans HKA.out)
      clear hHeld
      go_wp2
      go_ret
      exact ⟨rfl, HF.out⟩
end Go.Proofs.Ytankkadfaokaoaa.Ds
