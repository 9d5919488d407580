/- Four states out of words (rans.Start). -/
import Derived.Test.YtnanmenoemajfaaRnFour
namespace Go.Proofs.Ytnanmenoemajfaa.Rs
open Go.RowKit Go.Proofs.Ytnanmenoemajfaa.Gen Go.Proofs.Ytnanmenoemajfaa.Wr Go.Proofs.Ytnanmenoemajfaa.It Go.Proofs.Ytnanmenoemajfaa.Ir Go.Proofs.Ytnanmenoemajfaa.Ib Go.Proofs.Ytnanmenoemajfaa.Fq Go.Proofs.Ytnanmenoemajfaa.Fb Go.Proofs.Ytnanmenoemajfaa.Rp

theorem word_ok {s : RS} (h : s.ok) : s.word.2.ok ∧ 0 ≤ s.word.1 ∧ s.word.1 < 4294967296 := by
  obtain ⟨h1, h2, h3⟩ := RS.part_ok h 4
  unfold RS.word
  split
  · exact ⟨h1, h2, by simpa using h3⟩
  · exact ⟨h1, by simp, by simp⟩
theorem wds_ok {s : RS} (h : s.ok) : ∀ n, (wds n s).2.ok ∧ (wds n s).1.length = n ∧ ∀ x ∈ (wds n s).1, x < 4294967296
  | 0 => ⟨h, rfl, by simp [wds]⟩
  | n + 1 => by
    obtain ⟨h1, h2, h3⟩ := wds_ok h n
    obtain ⟨k1, k2, k3⟩ := word_ok h1
    refine ⟨k1, by simp [wds, h2], fun x hx => ?_⟩
    simp only [wds, List.mem_append, List.mem_singleton] at hx
    rcases hx with hx | rfl
    · exact h3 x hx
    · omega
/-- The words so far, noughts behind them. -/
def pad (l : List Nat) : List Nat := l ++ List.replicate (4 - l.length) 0
theorem pad_len {l : List Nat} (h : l.length ≤ 4) : (pad l).length = 4 := by simp [pad]; omega
theorem pad_set {l : List Nat} {d x : Nat} (h : l.length = d) (hd : d < 4) : (pad l).set d x = pad (l ++ [x]) := by
  subst h
  unfold pad
  rw [List.set_append_right _ _ (Nat.le_refl _), Nat.sub_self, show 4 - l.length = (4 - (l ++ [x]).length) + 1 by simp; omega, List.replicate_succ, List.set_cons_zero, List.append_assoc]
  rfl
theorem pad_all {l : List Nat} (h : l.length = 4) : pad l = l := by simp [pad, h]
structure Sta4 (base g B R T : Nat) (s : RS) (l : List Nat) (w wr : World) : Prop where
  rd : IsRd base g s wr
  box : Blk wr B 54 #[.pointer (some ⟨g, 0, none⟩)]
  res : Blk wr R 44 (us no4)
  arr : Blk wr T 44 (us (pad l))
  keeps : Keeps (· = g) w wr
structure StAt (w : World) (g B R T : Nat) : Prop where
  g : g < w.heap.size
  b : w.heap.size ≤ B
  r : w.heap.size ≤ R
  t : w.heap.size ≤ T
  br : B ≠ R
  bt : B ≠ T
  rt : R ≠ T
theorem Sta4.next {base g B R T : Nat} {s s1 : RS} {l : List Nat} {w wr w1 : World} (a : StAt w g B R T) (h : Sta4 base g B R T s l w wr) (hr : IsRd base g s1 w1) (k : Keeps (· = g) wr w1) : Sta4 base g B R T s1 l w w1 := by
  have h1 := a.g; have h2 := a.b; have h3 := a.r; have h4 := a.t
  exact ⟨hr, h.box.keeps k (by omega), h.res.keeps k (by omega), h.arr.keeps k (by omega), h.keeps.trans k⟩
theorem Sta4.set {base g B R T : Nat} {s : RS} {l : List Nat} {w wr : World} {d x : Nat} (a : StAt w g B R T) (h : Sta4 base g B R T s l w wr) (hl : l.length = d) (hd : d < 4) : Sta4 base g B R T s (l ++ [x]) w (wr.setCell ⟨T, d, none⟩ (.int .u32 (x : Int))) := by
  have h1 := a.g; have h2 := a.b; have h3 := a.r; have h4 := a.t
  have hk : Keeps (· = T) wr (wr.setCell ⟨T, d, none⟩ (.int .u32 (x : Int))) := (Keeps.refl _ _).setOwn d _
  refine ⟨h.rd.low hk (fun b _ hb e => by omega), h.box.keeps hk a.bt, h.res.keeps hk a.rt, ?_, h.keeps.setCell (p := ⟨T, d, none⟩) (.inr h4) _⟩
  have := h.arr.setCell d (.int .u32 (x : Int))
  rw [us_set, pad_set hl hd] at this
  exact this

set_option maxHeartbeats 4000000 in
set_option maxRecDepth 100000 in
theorem start (g base : Nat) (s : RS) (w : World) (h : IsRd base g s w) : Calls Try.prog 23 #[rd g] w fun r w' => r = .returned (.agg (us (startF s).1)) ∧ IsRd base g (startF s).2 w' ∧ Keeps (· = g) w w' := by
  have H := Lib.hid h
  have hz : ∀ w, (zeroValue 44).run Try.prog w = .ok (.agg (us no4)) w := four_zero
  have hbu := run_four
  have HZI : Hid ((Try.prog.info? 44).map (·.size) = some (us no4).size) := four_size rfl
  have HZ1 : Hid ((us no4).all (·.oneCell') = true) := us_one _
  generalize hZ : us no4 = Z at hz hbu HZI HZ1
  have HZS := Lib.hid hZ
  have HWK := Lib.hid (wds_ok h.2.1)
  clear h hZ
  unfold rd
  go_enter Try.func23, Try.ntmps23
  go_upto_region 1 with fail
  obtain ⟨B, hB⟩ : ∃ B, w.heap.size = B := ⟨_, rfl⟩
  obtain ⟨R, hR⟩ : ∃ R, w.heap.size + 1 = R := ⟨_, rfl⟩
  generalize hW : (w.alloc (.cells #[.pointer (some ⟨g, 0, none⟩)] 54)).alloc (.cells Z 44) = W
  have HB : Hid (Blk W B 54 #[.pointer (some ⟨g, 0, none⟩)]) := by show Blk _ _ _ _; rw [← hW, ← hB]; exact (Blk.new _ _ _).alloc _
  have HR : Hid (Blk W R 44 Z) := by show Blk _ _ _ _; rw [← hW, ← hR, show w.heap.size + 1 = (w.alloc (.cells #[.pointer (some ⟨g, 0, none⟩)] 54)).heap.size by simp]; exact Blk.new _ _ _
  have HK : Hid (Keeps (fun _ => False) w W) := by show Keeps _ _ _; rw [← hW]; exact ((Keeps.refl _ _).alloc _).alloc _
  have HBe := Lib.hid hB
  have HRe := Lib.hid hR
  rw [hR, hB]
  clear hR hB hW
  go_upto_region 2 with ((with_reducible refine st_row (Blk.new _ 44 Z) HZI.out rfl HZ1.out ?_ ?_ ?_); rfl; rfl)
  obtain ⟨T, hT⟩ : ∃ T, W.heap.size = T := ⟨_, rfl⟩
  generalize hW : (W.alloc (.cells Z 44)).setRow W.heap.size Z = W2
  have HAt : Hid (StAt w g B R T) := by
    have h1 := HB.out.lt
    have h2 := HR.out.lt
    have h3 := HBe.out
    have h4 := HRe.out
    have h5 := HK.out.size
    exact ⟨H.out.lt, by omega, by omega, by omega, by omega, by omega, by omega⟩
  have HK2 : Hid (Keeps (fun _ => False) w W2) := by show Keeps _ _ _; rw [← hW]; exact Keeps.setRow (HK.out.alloc _) (.inr HK.out.size) _
  have HTk : Hid (Sta4 base g B R T s [] w W2) := by
    have h1 := HB.out.lt
    have h2 := HR.out.lt
    refine ⟨H.out.keeps HK2.out (fun _ _ h => h), ?_, ?_, ?_, HK2.out.none_⟩
    · rw [← hW]; exact Blk.setRowFar (HB.out.alloc _) (by omega) _
    · rw [← hW, HZS.out]; exact Blk.setRowFar (HR.out.alloc _) (by omega) _
    · rw [← hW, ← hT]
      show Blk _ _ _ (us no4)
      rw [HZS.out]
      exact Blk.setRow (Blk.new _ _ _) _
  rw [hT]
  clear hT hW HB HR HK HK2 HBe HRe H
  go_wp2_with fail
  go_loopw [4, 8] (fun _ i wr => ∃ d : Nat, i = .int .i64 (d : Int) ∧ d ≤ 4 ∧ Hid (Sta4 base g B R T (wds d s).2 (wds d s).1 w wr)) (fun _ i _ => 4 - (intOf i).toNat)
  case atStart => exact ⟨0, rfl, by omega, HTk⟩
  case round =>
    clear HTk
    obtain ⟨d, rfl, hd, HH⟩ := hrel
    by_cases hlt : d < 4
    · have hd1 : (d : Int) < 4 := by omega
      have hd0 : (0 : Int) ≤ (d : Int) := by omega
      have hb0 : wr.cell? ⟨B, 0, none⟩ = some (.pointer (some ⟨g, 0, none⟩)) := HH.out.box.cell 0
      obtain ⟨hw1, hw2, hw3⟩ := HWK.out d
      obtain ⟨k1, k2, k3⟩ := word_ok hw1
      obtain ⟨n, hn⟩ : ∃ n : Nat, (wds d s).2.word.1 = (n : Int) := ⟨(wds d s).2.word.1.toNat, by omega⟩
      have HWD := Lib.hid (Wr.word g (wds d s).2 base wr HH.out.rd)
      rw [hn] at HWD
      have HNX : Hid (wds (d + 1) s = ((wds d s).1 ++ [n], (wds d s).2.word.2)) := by
        show wds (d + 1) s = _
        rw [wds, hn]
        rfl
      have HLD : Hid ((wds d s).1.length = d) := hw2
      clear hw1 hw2 hw3 k1 k2 k3 hn
      go_wp2_with (
        go_at_call 50
        refine HWD.out.mono ?_
        rintro e w1 ⟨rfl, hr1, hk1⟩
        have HS1 := Lib.hid (HH.out.next HAt.out hr1 hk1)
        have hfz : w1.frozen? ⟨T, d, none⟩ = false := HS1.out.arr.frozen d
        have hcz : w1.cell? ⟨T, d, none⟩ = some (.int .u32 (((pad (wds d s).1).getD d 0 : Nat) : Int)) := by rw [HS1.out.arr.cell, us_get (by rw [pad_len (by rw [HLD.out]; omega)]; exact hlt)]
        clear hr1 hk1)
      exact ⟨⟨d + 1, by go_num, by omega, by rw [HNX.out]; exact HS1.out.set HAt.out HLD.out hlt⟩, by simp [intOf]; omega⟩
    · obtain rfl : d = 4 := by omega
      have hge : ¬ ((4 : Int) < 4) := by omega
      obtain ⟨f, s4, hf4⟩ : ∃ f s4, wds 4 s = (f, s4) := ⟨_, _, rfl⟩
      have hHH := HH.out
      obtain ⟨hw1, hw2, hw3⟩ := HWK.out 4
      rw [hf4] at hHH hw1 hw2 hw3
      simp only at hHH hw1 hw2 hw3
      have HS4 := Lib.hid hHH
      have HFL : Hid (f.length = 4) := hw2
      have HFB : Hid (∀ x ∈ f, x < 4294967296) := hw3
      have HF4 := Lib.hid hf4
      have HAR : Hid (Blk wr T 44 (us f)) := by
        have := hHH.arr
        rw [pad_all hw2] at this
        exact this
      have HUI := Lib.hid (four_size hw2)
      have HU1 := Lib.hid (us_one f)
      obtain ⟨U, hU⟩ : ∃ U, us f = U := ⟨_, rfl⟩
      rw [hU] at HAR HUI HU1
      have HU := Lib.hid hU
      have HZU : Hid (Z.size = U.size) := by show Z.size = U.size; rw [← hU, ← HZS.out, us_size, us_size, hw2]; rfl
      have HRZ : Hid (Blk wr R 44 Z) := by show Blk _ _ _ _; rw [← HZS.out]; exact hHH.res
      have HBX : Hid (wr.cell? ⟨B, 0, none⟩ = some (.pointer (some ⟨g, 0, none⟩))) := hHH.box.cell 0
      clear hHH hw1 hw2 hw3 hf4 hU HH hd hlt HWK
      go_wp2_with ((with_reducible refine ld_row HAR.out Try.underlying44 HUI.out ?_ ?_); rfl)
      obtain ⟨wy, hwy⟩ : ∃ wy, wy = wr := ⟨_, rfl⟩
      subst hwy
      go_loopw [6, 18] (fun _ i wx => ∃ d : Nat, i = .int .i64 (d : Int) ∧ d ≤ 4 ∧ wx = wy ∧ Hid ((f.take d).all Inb = true)) (fun _ i _ => 4 - (intOf i).toNat)
      case atStart => exact ⟨0, rfl, by omega, rfl, by show List.all _ _ = true; simp⟩
      case round =>
        obtain ⟨d, rfl, hd, rfl, HH⟩ := hrel
        by_cases hlt : d < 4
        · obtain ⟨n, hn⟩ : ∃ n, f.getD d 0 = n := ⟨_, rfl⟩
          have hdf : d < f.length := by rw [HFL.out]; exact hlt
          have hix := run_idx4 U .i64 d (.int .u32 (n : Int)) hlt (by rw [← HU.out, us_get hdf, hn])
          have hd1 : (d : Int) < 4 := by omega
          by_cases hI : In n
          · have hd2 : decide ((n : Int) < 8388608) = false := by rw [decide_eq_false_iff_not]; have := hI.1; omega
            have hd3 : decide ((2147483648 : Int) ≤ (n : Int)) = false := by rw [decide_eq_false_iff_not]; have := hI.2; omega
            have HNX : Hid ((f.take (d + 1)).all Inb = true) := by
              show List.all _ _ = true
              rw [take_nat hdf, hn, List.all_append, HH.out]
              simp [inb_iff.2 hI]
            clear hn hdf hI
            go_wp2_with fail
            exact ⟨⟨d + 1, by go_num, by omega, by simp, HNX⟩, by simp [intOf]; omega⟩
          · have HBD : Hid (startF s = (no4, s4.fail 2)) := by
              show startF s = _
              have : ¬ (wds 4 s).1.all Inb = true := by
                rw [HF4.out]
                intro ha
                exact hI (inb_iff.1 (List.all_eq_true.1 ha n (by rw [← hn]; exact memD hdf)))
              rw [startF, if_neg this, HF4.out]
              rfl
            have HFA := Lib.hid (Wr.fail g s4 base 2 _ HS4.out.rd)
            have hb0 := HBX.out
            have HLO : Hid (decide ((n : Int) < 8388608) = true ∨ (decide ((n : Int) < 8388608) = false ∧ decide ((2147483648 : Int) ≤ (n : Int)) = true)) := by
              by_cases h1 : n < 8388608
              · left; rw [decide_eq_true_iff]; omega
              · right
                refine ⟨by rw [decide_eq_false_iff_not]; omega, by rw [decide_eq_true_iff]; unfold In at hI; omega⟩
            clear hn hdf hI
            rcases HLO.out with hd2 | ⟨hd2, hd3⟩
            all_goals
              go_wp2_with (first
                | (go_at_call 43; refine HFA.out.mono ?_; rintro e w5 ⟨rfl, hr5, hk5⟩; have HS5 := Lib.hid (HS4.out.next HAt.out hr5 hk5); have HR5 := Lib.hid (HRZ.out.keeps hk5 (fun e => by have := HAt.out.g; have := HAt.out.r; omega)); clear hr5 hk5 hb0)
                | ((with_reducible refine st_row HR5.out HZI.out rfl HZ1.out ?_ ?_ ?_); rfl; rfl))
              have hk6 : Keeps (· = R) w5 (w5.setRow R Z) := Keeps.setRow (Keeps.refl (· = R) w5) (.inl rfl) _
              refine bodyPost_ret (v := .agg Z) ?_ rfl ⟨by rw [HBD.out, HZS.out], by rw [HBD.out]; exact HS5.out.rd.low hk6 (fun b _ hb e => by have := HAt.out.g; have := HAt.out.r; omega), Keeps.setRow HS5.out.keeps (.inr HAt.out.r) _⟩
              exact ret_four rfl _ _ R Z HZI.out rfl (Blk.setRow HR5.out _)
        · obtain rfl : d = 4 := by omega
          have hge : ¬ ((4 : Int) < 4) := by omega
          have HGD : Hid (startF s = (f, s4)) := by
            show startF s = _
            have h1 := HH.out
            rw [List.take_of_length_le (by rw [HFL.out]; exact Nat.le_refl _)] at h1
            rw [startF, HF4.out, if_pos h1]
          go_wp2_with (first
            | ((with_reducible refine ld_row HAR.out Try.underlying44 HUI.out ?_ ?_); rfl)
            | ((with_reducible refine st_row HRZ.out HUI.out HZU.out HU1.out ?_ ?_ ?_); rfl; rfl))
          have hk6 := fun wq : World => Keeps.setRow (Keeps.refl (· = R) wq) (g := R) (.inl rfl) U
          refine bodyPost_ret (v := .agg U) ?_ rfl ⟨by rw [HGD.out, HU.out], by rw [HGD.out]; exact HS4.out.rd.low (hk6 _) (fun b _ hb e => by have := HAt.out.g; have := HAt.out.r; omega), Keeps.setRow HS4.out.keeps (.inr HAt.out.r) _⟩
          exact ret_four rfl _ _ R U HUI.out rfl (Blk.setRow HRZ.out _)
end Go.Proofs.Ytnanmenoemajfaa.Rs
