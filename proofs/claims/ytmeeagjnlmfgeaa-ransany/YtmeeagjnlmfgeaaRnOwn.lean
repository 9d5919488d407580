/- Of each part the byte that has it (rans.owners). -/
import Derived.Test.YtmeeagjnlmfgeaaRnStart
namespace Go.Proofs.Ytmeeagjnlmfgeaa.Rs
open Go.RowKit Go.Proofs.Ytmeeagjnlmfgeaa.Gen Go.Proofs.Ytmeeagjnlmfgeaa.Wr Go.Proofs.Ytmeeagjnlmfgeaa.It Go.Proofs.Ytmeeagjnlmfgeaa.Ir Go.Proofs.Ytmeeagjnlmfgeaa.Ib Go.Proofs.Ytmeeagjnlmfgeaa.Fq Go.Proofs.Ytmeeagjnlmfgeaa.Fb Go.Proofs.Ytmeeagjnlmfgeaa.Rp

/-- Bytes as cells; so many, noughts behind them. -/
def bs (l : List Int) : Array Value := (bv l).toArray
def full (l : List Int) : List Int := l ++ List.replicate (4096 - l.length) 0
theorem bs_size (l : List Int) : (bs l).size = l.length := by simp [bs, bv]
theorem bs_one (l : List Int) : (bs l).all (·.oneCell') = true := by simp [bs, bv, Value.oneCell']
theorem bs_set (l : List Int) (j : Nat) (x : Int) : (bs l).setIfInBounds j (.int .u8 x) = bs (l.set j x) := by simp [bs, bv, List.map_set]
theorem bs_get {l : List Int} {j : Nat} (h : j < l.length) : (bs l)[j]? = some (.int .u8 (l.getD j 0)) := by
  rw [bs, List.getElem?_toArray, bv_at h]
theorem full_len {l : List Int} (h : l.length ≤ 4096) : (full l).length = 4096 := by simp [full]; omega
theorem full_set {l : List Int} {d : Nat} {x : Int} (h : l.length = d) (hd : d < 4096) : (full l).set d x = full (l ++ [x]) := by
  subst h
  unfold full
  rw [List.set_append_right _ _ (Nat.le_refl _), Nat.sub_self, show 4096 - l.length = (4096 - (l ++ [x]).length) + 1 by simp; omega, List.replicate_succ, List.set_cons_zero, List.append_assoc]
  rfl
theorem full_get {l : List Int} {j : Nat} (hj : j < 4096) : (full l).getD j 0 = l.getD j 0 := by
  unfold full
  rw [List.getD, List.getD]
  by_cases h : j < l.length
  · rw [List.getElem?_append_left h]
  · rw [List.getElem?_append_right (by omega), List.getElem?_replicate, List.getElem?_eq_none (by omega)]
    split <;> rfl
theorem bs_rep (n : Nat) : bs (List.replicate n 0) = Array.replicate n (.int .u8 0) := by simp [bs, bv]
theorem full_none : full [] = List.replicate 4096 0 := by unfold full; rw [List.nil_append, List.length_nil, Nat.sub_zero]
theorem bs_none : bs (full []) = Array.replicate 4096 (.int .u8 0) := by rw [full_none, bs_rep]
theorem big_info : (Try.prog.info? 88).map (fun i => (i.zero, i.size)) = some (some (.agg (Array.replicate 4096 (.int .u8 0))), 4096) := by kernel_rfl
theorem big_zero (w : World) : (zeroValue 88).run Try.prog w = .ok (.agg (bs (full []))) w := by
  rw [bs_none]; exact (zero_of_info big_info).1 w
theorem big_size {l : List Int} (h : l.length = 4096) : (Try.prog.info? 88).map (·.size) = some (bs l).size := by
  rw [bs_size, h]; exact (zero_of_info big_info).2
theorem built_big : (Try.prog.built 88 []) = some (Array.replicate 4096 (.int .u8 0)) := by kernel_rfl
theorem run_big (w : World) : (Instr.build 88 #[]).run Try.prog w = .ok (.agg (bs (full []))) w := by
  rw [bs_none]
  exact run_build w 88 #[] _ built_big
theorem ret_big {fn : Func} {j : Nat} (h : fn.results = #[.cell j 88]) (tmps : Array Value) (w : World) (g : Nat) (v : Array Value) (hi : (Try.prog.info? 88).map (·.size) = some v.size)
    (hp : tmps.getD j undef = .pointer (some ⟨g, 0, none⟩)) (hb : Blk w g 88 v) : (results fn tmps).run Try.prog w = .ok (.agg v) w :=
  results_cell_row h tmps w g 88 v (0, 0) _ hp hb Try.underlying88 rfl hi
theorem ow_more (t : List Int) (c j : Nat) : ow t c ++ List.replicate (j + 1) (c : Int) = (ow t c ++ List.replicate j (c : Int)) ++ [(c : Int)] := by
  rw [List.append_assoc, List.replicate_succ']
theorem ow_room {t : List Int} {c j : Nat} (hs : (ow t 256).length ≤ 4096) (hc : c < 256) (hj : j < (t.getD c 0).toNat) : (ow t c).length + j < 4096 := by
  obtain ⟨R, hR⟩ := ow_pre t (d := c + 1) (e := 256) (by omega)
  rw [hR, ow] at hs
  simp only [List.length_append, List.length_replicate] at hs
  omega
/-- While parts are laid. -/
structure Ows (R T : Nat) (Z : Array Value) (l : List Int) (w wr : World) : Prop where
  arr : Blk wr T 88 (bs (full l))
  res : Blk wr R 88 Z
  keeps : Keeps (fun _ => False) w wr
theorem Ows.set {R T d : Nat} {Z : Array Value} {l : List Int} {x : Int} {w wr : World} (hrt : R ≠ T) (hwt : w.heap.size ≤ T) (h : Ows R T Z l w wr) (hl : l.length = d) (hd : d < 4096) : Ows R T Z (l ++ [x]) w (wr.setCell ⟨T, d, none⟩ (.int .u8 x)) := by
  refine ⟨?_, h.res.setFar (p := ⟨T, d, none⟩) hrt _, h.keeps.setCell (p := ⟨T, d, none⟩) (.inr hwt) _⟩
  have := h.arr.setCell d (.int .u8 x)
  rw [bs_set, full_set hl hd] at this
  exact this

set_option maxHeartbeats 4000000 in
set_option maxRecDepth 100000 in
theorem owners (t : List Int) (v u : Array Value) (w : World) (hv : vs t = v) (hu : bs (full (ow t 256)) = u) (hl : t.length = 256) (hf : Fine t) (hs : (ow t 256).length ≤ 4096) :
    Calls Try.prog 47 #[.agg v] w fun r w' => r = .returned (.agg u) ∧ Keeps (fun _ => False) w w' := by
  have HL := Lib.hid hl
  have HV : Hid ((Try.prog.info? 62).map (·.size) = some v.size) := by show _ = _; rw [← hv]; exact tab_size hl
  have HG : Hid (∀ j, j < 256 → v[j]? = some (.int .i64 (t.getD j 0))) := fun j hj => by rw [← hv]; exact vs_get (by omega)
  have HF := Lib.hid hf
  have HU := Lib.hid hu
  have HS := Lib.hid hs
  have hz : ∀ w, (zeroValue 88).run Try.prog w = .ok (.agg (bs (full []))) w := big_zero
  have hbu := run_big
  have HZI := Lib.hid (big_size (l := full []) (full_len (by simp)))
  have HZ1 := Lib.hid (bs_one (full []))
  generalize hZ : bs (full []) = Z at hz hbu HZI HZ1
  have HZS := Lib.hid hZ
  have HUI : Hid ((Try.prog.info? 88).map (·.size) = some u.size) := by show _ = _; rw [← hu]; exact big_size (full_len hs)
  have HU1 : Hid (u.all (·.oneCell') = true) := by show _ = _; rw [← hu]; exact bs_one _
  have HZU : Hid (Z.size = u.size) := by show _ = _; rw [← hu, ← hZ, bs_size, bs_size, full_len hs, full_len (by simp)]
  clear hl hv hf hu hZ hs
  go_enter Try.func47, Try.ntmps47
  go_upto_region 1 with fail
  obtain ⟨R, hR⟩ : ∃ R, w.heap.size + 1 = R := ⟨_, rfl⟩
  obtain ⟨A, hA⟩ : ∃ A, w.heap.size = A := ⟨_, rfl⟩
  generalize hW : (w.alloc (.cells v 62)).alloc (.cells Z 88) = W
  have HBA : Hid (Blk W A 62 v) := by show Blk _ _ _ _; rw [← hW, ← hA]; exact (Blk.new _ _ _).alloc _
  have HBR : Hid (Blk W R 88 Z) := by show Blk _ _ _ _; rw [← hW, ← hR, show w.heap.size + 1 = (w.alloc (.cells v 62)).heap.size by simp]; exact Blk.new _ _ _
  have HK : Hid (Keeps (fun _ => False) w W) := by show Keeps _ _ _; rw [← hW]; exact ((Keeps.refl _ _).alloc _).alloc _
  have HA := Lib.hid hA
  have HR := Lib.hid hR
  rw [hR, hA]
  clear hR hA hW
  go_upto_region 2 with ((with_reducible refine st_row (Blk.new _ 88 Z) HZI.out rfl HZ1.out ?_ ?_ ?_); rfl; rfl)
  obtain ⟨T, hT⟩ : ∃ T, W.heap.size = T := ⟨_, rfl⟩
  generalize hW : (W.alloc (.cells Z 88)).setRow W.heap.size Z = W2
  have hla := HBA.out.lt
  have hlr := HBR.out.lt
  have HBA2 : Hid (Blk W2 A 62 v) := by show Blk _ _ _ _; rw [← hW]; exact Blk.setRowFar (HBA.out.alloc _) (by omega) _
  have HO2 : Hid (Ows R T Z [] w W2) := by
    refine ⟨?_, ?_, ?_⟩
    · rw [← hW, ← hT, HZS.out]; exact Blk.setRow (Blk.new _ _ _) _
    · rw [← hW]; exact Blk.setRowFar (HBR.out.alloc _) (by omega) _
    · rw [← hW]; exact Keeps.setRow (HK.out.alloc _) (.inr HK.out.size) _
  have HTA : Hid (R ≠ T ∧ w.heap.size ≤ T ∧ w.heap.size ≤ R) := by show _ ∧ _; have := HK.out.size; have := HR.out; omega
  rw [hT]
  clear hT hW hla hlr HBA HBR HK
  go_wp2_with ((with_reducible refine ld_row HBA2.out Try.underlying62 HV.out ?_ ?_); rfl)
  go_loopw [4, 5, 6, 9] (fun av _ _ i wr => ∃ d m : Nat, d ≤ 256 ∧ i = .int .i64 (d : Int) ∧ av = .int .i64 (m : Int) ∧ Hid ((ow t d).length = m ∧ Ows R T Z (ow t d) w wr)) (fun _ _ _ i _ => 256 - (intOf i).toNat)
  case atStart => exact ⟨0, 0, by omega, rfl, rfl, Lib.hid ⟨rfl, HO2.out⟩⟩
  case round =>
    clear HBA2 HO2
    obtain ⟨d, m, hd, rfl, rfl, HH⟩ := hrel
    by_cases hlt : d < 256
    · obtain ⟨x, hx⟩ : ∃ x : Nat, t.getD d 0 = (x : Int) := ⟨(t.getD d 0).toNat, by have := HF.out _ (getD_mem (l := t) (d := d) (by rw [HL.out]; exact hlt)); omega⟩
      have hgd : ∀ w, (Instr.index 62 (.agg v) (.int .i64 (d : Int))).run Try.prog w = .ok (.int .i64 (x : Int)) w := run_idx 62 256 Try.underlying62 v .i64 d _ hlt (by rw [HG.out d hlt, hx])
      have HX := Lib.hid hx
      have hd1 : (d : Int) < 256 := by omega
      have HNX : Hid (ow t (d + 1) = ow t d ++ List.replicate x (d : Int)) := by show _ = _; rw [ow, hx]; rfl
      have hwd : IntKind.u8.wrap (d : Int) = (d : Int) := IntWalk.u8_in _ (by omega)
      clear hx
      go_wp2_with fail
      go_loopw [4, 14] (fun av jv wx => ∃ j : Nat, j ≤ x ∧ jv = .int .i64 (j : Int) ∧ av = .int .i64 ((m : Int) + (j : Int)) ∧ Hid (Ows R T Z (ow t d ++ List.replicate j (d : Int)) w wx)) (fun _ jv _ => x - (intOf jv).toNat)
      case atStart => exact ⟨0, by omega, rfl, by simp, by show Ows _ _ _ _ _ _; simpa using HH.out.2⟩
      case round =>
        obtain ⟨j, hj, rfl, rfl, HJ⟩ := hrel
        by_cases hjx : j < x
        · have hrm := ow_room (c := d) (j := j) HS.out hlt (by rw [HX.out]; simpa using hjx)
          have hll := HH.out.1
          have hj1 : (j : Int) < (x : Int) := by omega
          obtain ⟨q, hq⟩ : ∃ q : Nat, m + j = q := ⟨_, rfl⟩
          have hqi : (m : Int) + (j : Int) = (q : Int) := by omega
          have hq0 : (0 : Int) ≤ (q : Int) := by omega
          have hq1 : (q : Int) < 4096 := by omega
          have hqw : IntKind.i64.wrap ((q : Int) + 1) = (q : Int) + 1 := IntWalk.i64_in _ (by omega)
          have HLN : Hid ((ow t d ++ List.replicate j (d : Int)).length = q) := by show _ = _; rw [List.length_append, List.length_replicate]; omega
          have hfz : wr.frozen? ⟨T, q, none⟩ = false := HJ.out.arr.frozen q
          have hcz : wr.cell? ⟨T, q, none⟩ = some (.int .u8 ((full (ow t d ++ List.replicate j (d : Int))).getD q 0)) := by rw [HJ.out.arr.cell, bs_get (by rw [full_len (by rw [HLN.out]; omega)]; omega)]
          have HJ2 := Lib.hid (HJ.out.set (x := (d : Int)) HTA.out.1 HTA.out.2.1 HLN.out (by omega))
          rw [← ow_more] at HJ2
          have HQ := Lib.hid hq
          rw [hqi]
          generalize (full (ow t d ++ List.replicate j (d : Int))).getD q 0 = zz at hcz
          have hxb : x ≤ 4096 := by have h1 := HF.out _ (getD_mem (l := t) (d := d) (by rw [HL.out]; exact hlt)); rw [HX.out] at h1; omega
          have hjw : IntKind.i64.wrap ((j : Int) + 1) = (j : Int) + 1 := IntWalk.i64_in _ (by omega)
          clear hrm hll hq hqi hxb
          go_wp2_with fail
          refine ⟨⟨j + 1, by omega, by go_num, ?_, HJ2⟩, by simp [intOf]; omega⟩
          rw [show (q : Int) + 1 = (m : Int) + ((j + 1 : Nat) : Int) by have := HQ.out; omega]
        · obtain rfl : j = x := by omega
          have hge : ¬ ((j : Int) < (j : Int)) := by omega
          go_wp2_with fail
          refine ⟨⟨d + 1, m + j, by omega, by go_num, by simp, Lib.hid ⟨?_, by rw [HNX.out]; exact HJ.out⟩⟩, by simp [intOf]; omega⟩
          rw [HNX.out, List.length_append, List.length_replicate, HH.out.1]
    · obtain rfl : d = 256 := by omega
      have hge : ¬ ((256 : Int) < 256) := by omega
      have HAR : Hid (Blk wr T 88 u) := by show Blk _ _ _ _; rw [← HU.out]; exact HH.out.2.arr
      have HRS : Hid (Blk wr R 88 Z) := HH.out.2.res
      have HKK : Hid (Keeps (fun _ => False) w wr) := HH.out.2.keeps
      go_wp2_with (first
        | ((with_reducible refine ld_row HAR.out Try.underlying88 HUI.out ?_ ?_); rfl)
        | ((with_reducible refine st_row HRS.out HUI.out HZU.out HU1.out ?_ ?_ ?_); rfl; rfl))
      refine bodyPost_ret (v := .agg u) ?_ rfl ⟨rfl, Keeps.setRow HKK.out (.inr HTA.out.2.2) _⟩
      exact ret_big rfl _ _ R u HUI.out rfl (Blk.setRow HRS.out _)
end Go.Proofs.Ytmeeagjnlmfgeaa.Rs
