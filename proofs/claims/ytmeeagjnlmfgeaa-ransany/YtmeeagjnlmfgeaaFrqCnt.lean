/- How often each byte comes: freq.Of; the answers' own Counts, in different amounts. -/
import Derived.Test.YtmeeagjnlmfgeaaFrqSc
namespace Go.Proofs.Ytmeeagjnlmfgeaa.Fq
open Go.RowKit Go.Proofs.Ytmeeagjnlmfgeaa.Gen

/-- The counts of the first d bytes, of which the i-th counts am i. -/
def cnt (xs : List Int) (am : Nat → Int) : Nat → List Int
  | 0 => zs
  | d + 1 => (cnt xs am d).set (xs.getD d 0).toNat ((cnt xs am d).getD (xs.getD d 0).toNat 0 + am d)
theorem cnt_len (xs : List Int) (am : Nat → Int) : ∀ d, (cnt xs am d).length = 256
  | 0 => zs_len
  | d + 1 => by rw [cnt, List.length_set]; exact cnt_len xs am d
theorem cnt_in (xs : List Int) (am : Nat → Int) (ha : ∀ i, 0 ≤ am i ∧ am i ≤ 1048560) : ∀ d, ∀ x ∈ cnt xs am d, 0 ≤ x ∧ x ≤ 1048560 * (d : Int)
  | 0, x, hx => by
    rw [cnt, zs] at hx
    have := List.eq_of_mem_replicate hx
    omega
  | d + 1, x, hx => by
    have ih := cnt_in xs am ha d
    have h2 := ha d
    rcases mem_set hx with hx | rfl
    · have := ih x hx; omega
    · by_cases hl : (xs.getD d 0).toNat < (cnt xs am d).length
      · have := ih _ (getD_mem hl); omega
      · rw [List.getD, List.getElem?_eq_none (by omega)]
        simp only [Option.getD_none]
        omega
theorem cnt_at (xs : List Int) (am : Nat → Int) (ha : ∀ i, 0 ≤ am i ∧ am i ≤ 1048560) (d j : Nat) : 0 ≤ (cnt xs am d).getD j 0 ∧ (cnt xs am d).getD j 0 ≤ 1048560 * (d : Int) := by
  by_cases hl : j < (cnt xs am d).length
  · exact cnt_in xs am ha d _ (getD_mem hl)
  · rw [List.getD, List.getElem?_eq_none (by omega)]
    simp only [Option.getD_none]
    omega
theorem cnt_inR (xs : List Int) (am : Nat → Int) (ha : ∀ i, 0 ≤ am i ∧ am i ≤ 1048560) (d : Nat) (hd : d ≤ 300) : InR (cnt xs am d) := fun x hx => by
  have := cnt_in xs am ha d x hx
  omega
/-- One more byte is counted. -/
theorem cnt_step {xs : List Int} {am : Nat → Int} {d j : Nat} {y : Int} {w : World} {g : Nat} (hj : (xs.getD d 0).toNat = j) (hy : (cnt xs am d).getD j 0 + am d = y) (hb : Blk w g 36 (vs (cnt xs am d))) : Blk (w.setCell ⟨g, j, none⟩ (.int .i64 y)) g 36 (vs (cnt xs am (d + 1))) := by
  have := hb.setCell j (.int .i64 y)
  rw [vs_set, ← hy, ← hj] at this
  rw [← hy, ← hj]
  exact this

theorem of_ (A : Option Addr) (n cap : Nat) (xs : List Int) (w : World) (hx : xs.length = n) (hl : Lies w A xs) (hn : n ≤ 1000000) (hb : ∀ x ∈ xs, 0 ≤ x ∧ x < 256) :
    Calls Try.prog 23 #[.slice A n cap] w (ScalAns (cnt xs (fun _ => 1) n) w) := by
  have HX := Lib.hid hx
  have HL := Lib.hid hl
  have HBy := Lib.hid hb
  have hz : ∀ w, (zeroValue 62).run Try.prog w = .ok (.agg (vs zs)) w := tab_zero
  have hz2 : ∀ w, (zeroValue 36).run Try.prog w = .ok (.agg (vs zs)) w := arr_zero
  generalize hZ : vs zs = Z at hz hz2
  have HZS := Lib.hid hZ
  clear hx hl hb hZ
  go_enter Try.func23, Try.ntmps23
  go_upto_region 2 with fail
  obtain ⟨C, hC⟩ : ∃ C, w.heap.size + 1 = C := ⟨_, rfl⟩
  obtain ⟨R, hR⟩ : ∃ R, w.heap.size = R := ⟨_, rfl⟩
  generalize hW : (w.alloc (.cells Z 62)).alloc (.cells Z 36) = W
  have hbR : Blk W R 62 Z := by rw [← hW, ← hR]; exact (Blk.new w 62 Z).alloc _
  have hbC : Blk W C 36 Z := by rw [← hW, ← hC, show w.heap.size + 1 = (w.alloc (.cells Z 62)).heap.size by simp]; exact Blk.new _ _ _
  have hk : Keeps (fun _ => False) w W := by rw [← hW]; exact ((Keeps.refl _ _).alloc _).alloc _
  have HC := Lib.hid hC
  have HR := Lib.hid hR
  have HBR := Lib.hid hbR
  have HBC := Lib.hid hbC
  have HK := Lib.hid hk
  rw [hC, hR]
  clear hC hR hbR hbC hk hW hz hz2
  go_wp2_with fail
  go_loopw [9] (fun i wr => ∃ d : Nat, d ≤ n ∧ i = .int .i64 (d : Int) ∧ Hid (Blk wr C 36 (vs (cnt xs (fun _ => 1) d)) ∧ Blk wr R 62 Z ∧ Keeps (fun _ => False) w wr)) (fun i _ => n - (intOf i).toNat)
  case atStart => exact ⟨0, by omega, rfl, Lib.hid ⟨by rw [cnt, HZS.out]; exact HBC.out, HBR.out, HK.out⟩⟩
  case round =>
    obtain ⟨d, hd, rfl, HH⟩ := hrel
    clear HBR HBC HK
    by_cases hlt : d < n
    · obtain ⟨x, hx⟩ : ∃ x, xs.getD d 0 = x := ⟨_, rfl⟩
      have hxb : 0 ≤ x ∧ x < 256 := by rw [← hx]; exact HBy.out _ (getD_mem (by rw [HX.out]; exact hlt))
      obtain ⟨j, hj⟩ : ∃ j : Nat, x = (j : Int) := ⟨x.toNat, by omega⟩
      subst hj
      obtain ⟨b, o, rfl, hcx⟩ : ∃ b o, A = some ⟨b, o, none⟩ ∧ w.cell? ⟨b, o + d, none⟩ = some (.int .u8 (j : Int)) ∧ b < w.heap.size := by
        rcases HL.out with h | ⟨b, o, hA, hbl, hc⟩
        · have := HX.out; rw [h] at this; simp at this; omega
        · exact ⟨b, o, hA, by rw [hc d (by rw [HX.out]; exact hlt), hx], hbl⟩
      have hcw : wr.cell? ⟨b, o + d, none⟩ = some (.int .u8 (j : Int)) := (HH.out.2.2.cell (p := ⟨b, o + d, none⟩) hcx.2 id).trans hcx.1
      obtain ⟨y, hy⟩ : ∃ y, (cnt xs (fun _ => 1) d).getD j 0 = y := ⟨_, rfl⟩
      have hyb := cnt_at xs (fun _ => 1) (fun _ => by omega) d j
      rw [hy] at hyb
      have hcC : wr.cell? ⟨C, j, none⟩ = some (.int .i64 y) := by rw [HH.out.1.cell, vs_get (by rw [cnt_len]; omega), hy]
      have hfC : wr.frozen? ⟨C, j, none⟩ = false := HH.out.1.frozen j
      have hw : IntKind.i64.wrap (y + 1) = y + 1 := IntWalk.i64_in _ (by omega)
      have hd0 : (0 : Int) ≤ (d : Int) := by omega
      have hj0 : (0 : Int) ≤ (j : Int) := by omega
      have hj1 : (j : Int) < 256 := by omega
      have HN : Hid (Blk (wr.setCell ⟨C, j, none⟩ (.int .i64 (y + 1))) C 36 (vs (cnt xs (fun _ => 1) (d + 1))) ∧ Blk (wr.setCell ⟨C, j, none⟩ (.int .i64 (y + 1))) R 62 Z ∧ Keeps (fun _ => False) w (wr.setCell ⟨C, j, none⟩ (.int .i64 (y + 1)))) := by
        have h1 := HC.out
        have h2 := HR.out
        exact Lib.hid ⟨cnt_step (by rw [hx]; simp) (by rw [hy]) HH.out.1, HH.out.2.1.setFar (p := ⟨C, j, none⟩) (by show R ≠ C; omega) _, HH.out.2.2.setCell (p := ⟨C, j, none⟩) (.inr (by show w.heap.size ≤ C; omega)) _⟩
      clear hx hy hcx HH
      go_wp2_with fail
      exact ⟨⟨d + 1, by omega, by go_num, HN⟩, by simp [intOf]; omega⟩
    · obtain rfl : d = n := by omega
      obtain ⟨c, hc⟩ : ∃ c, cnt xs (fun _ => 1) d = c := ⟨_, rfl⟩
      have HCL : Hid (c.length = 256) := by show _ = _; rw [← hc]; exact cnt_len _ _ _
      have hH := HH.out
      rw [hc] at hH
      have HCc := Lib.hid hc
      obtain ⟨hbC, hbR, hk⟩ := hH
      have HBC := Lib.hid hbC
      have HBR := Lib.hid hbR
      have HK := Lib.hid hk
      obtain ⟨v, hv⟩ : ∃ v, vs (if InR c ∧ c.sum ≠ 0 then scal c else zs) = v := ⟨_, rfl⟩
      obtain ⟨b, hb⟩ : ∃ b, decide (InR c ∧ c.sum ≠ 0) = b := ⟨_, rfl⟩
      have HV := Lib.hid hv
      have HB := Lib.hid hb
      have HVL : Hid ((if InR c ∧ c.sum ≠ 0 then scal c else zs).length = 256) := by
        show _ = _
        split
        · next h => exact (scal_ok HCL.out h.1).1
        · exact zs_len
      have HVI : Hid ((Try.prog.info? 62).map (·.size) = some v.size) := by show _ = _; rw [← hv]; exact tab_size HVL.out
      have HV1 : Hid (v.all (·.oneCell') = true) := by show _ = _; rw [← hv]; exact vs_one _
      have HVZ : Hid (Z.size = v.size) := by show _ = _; rw [← hv, ← HZS.out, vs_size, vs_size, zs_len, HVL.out]
      obtain ⟨cs, hcs⟩ : ∃ cs, vs c = cs := ⟨_, rfl⟩
      have HCS := Lib.hid hcs
      have HCI : Hid ((Try.prog.info? 36).map (·.size) = some cs.size) := by show _ = _; rw [← hcs]; exact arr_size HCL.out
      rw [hcs] at HBC
      clear hc hbC hbR hk hv hb hcs HH
      have hsc : ∀ w, Calls Try.prog 42 #[.agg cs] w fun r w' => r = .returned (.tuple #[.agg v, .bool b]) ∧ Keeps (fun _ => False) w w' := by
        intro w
        rw [← HCS.out, ← HV.out, ← HB.out]
        exact scaled c w HCL.out
      have HSC := Lib.hid hsc
      clear hsc
      go_wp2_with (first
        | (go_at_call 42; refine (HSC.out _).mono ?_; rintro e w2 ⟨rfl, hk2⟩; have HBR2 := Lib.hid (HBR.out.keeps hk2 id); have HK2 := Lib.hid (HK.out.trans hk2); clear hk2 HBR HK)
        | ((with_reducible refine ld_row HBC.out Try.underlying36 HCI.out ?_ ?_); rfl)
        | ((with_reducible refine st_row HBR2.out HVI.out HVZ.out HV1.out ?_ ?_ ?_); rfl; rfl))
      refine bodyPost_ret (v := .tuple #[.agg v, .bool b]) ?_ rfl ⟨by rw [HCc.out, HV.out, HB.out], Keeps.setRow HK2.out (.inr (by have := HR.out; omega)) _⟩
      rw [← HV.out]
      exact ret_tab rfl _ _ R _ b HVL.out rfl rfl (by rw [HV.out]; exact Blk.setRow HBR2.out _)

/-- A row of numbers of 16 bits that came in, or none. -/
def More (w : World) (A : Option Addr) (m : Nat) (ms : List Int) : Prop :=
  ∀ i, i < m → ∃ b o, A = some ⟨b, o, none⟩ ∧ b < w.heap.size ∧ w.cell? ⟨b, o + i, none⟩ = some (.int .u16 (ms.getD i 0)) ∧ 0 ≤ ms.getD i 0 ∧ ms.getD i 0 < 65536
theorem More.keeps {w w1 : World} {A : Option Addr} {m : Nat} {ms : List Int} (h : More w A m ms) (k : Keeps (fun _ => False) w w1) : More w1 A m ms := fun i hi => by
  obtain ⟨b, o, h1, h2, h3, h4⟩ := h i hi
  exact ⟨b, o, h1, Nat.lt_of_lt_of_le h2 k.size, (k.cell (p := ⟨b, o + i, none⟩) h2 id).trans h3, h4⟩
theorem More.none_ (w : World) : More w none 0 [] := fun i hi => by omega
theorem row_more {w : World} {a : Option Addr} {len cap : Nat} {zs : List Int}
    (h : (a = none ∧ len = 0 ∧ cap = 0 ∧ zs = []) ∨ ∃ x, a = some x ∧ len ≤ cap ∧ cap ≤ maxLen ∧ zs.length = cap ∧ (∀ i, i < zs.length → w.cell? (x.add i) = some (.int .u16 (zs.getD i 0))) ∧ ∀ n ∈ zs, (Lit.int .u16 n).wf = true) : More w a len zs := by
  intro i hi
  obtain ⟨b, o, x, h1, h2, h3, h4, h5⟩ := (row_at h).2 i hi
  have hx : zs.getD i 0 = x := by rw [List.getD, h4]; rfl
  have hm : IntKind.u16.min = 0 ∧ IntKind.u16.max = 65535 := by decide
  simp only [Lit.wf, hm.1, hm.2, Bool.and_eq_true, decide_eq_true_eq] at h5
  exact ⟨b, o, h1, h2, by rw [hx]; exact h3, by omega, by omega⟩
/-- How much the i-th byte counts. -/
def am (ms : List Int) (m i : Nat) : Int := if i < m then ms.getD i 0 * 16 else 1
theorem am_in {w : World} {A : Option Addr} {m : Nat} {ms : List Int} (h : More w A m ms) (i : Nat) : 0 ≤ am ms m i ∧ am ms m i ≤ 1048560 := by
  unfold am
  split
  · next hi => obtain ⟨_, _, _, _, _, h4, h5⟩ := h i hi; omega
  · omega
theorem am_none : am [] 0 = fun _ => 1 := by funext i; simp [am]
end Go.Proofs.Ytmeeagjnlmfgeaa.Fq
