/- Where each byte's parts begin; to which byte a part belongs. -/
import Derived.Test.YtnanmenoemajfaaFrqSc
namespace Go.Proofs.Ytnanmenoemajfaa.Fq
open Go.RowKit Go.Proofs.Ytnanmenoemajfaa.Gen
set_option maxRecDepth 100000

theorem Fine.take {l : List Int} (h : Fine l) (d : Nat) : Fine (l.take d) := fun x hx => h x (List.mem_of_mem_take hx)
theorem sum_mono {l : List Int} (h : Fine l) {a b : Nat} (hab : a ≤ b) (hb : b ≤ l.length) : (l.take a).sum ≤ (l.take b).sum := by
  induction hab with
  | refl => exact Int.le_refl _
  | @step m hm ih =>
    have h1 := ih (by omega)
    rw [sum_next (by omega)]
    have := h _ (getD_mem (l := l) (d := m) (by omega))
    omega
theorem sum_bound {l : List Int} (h : Fine l) (hl : l.length = 256) (d : Nat) : 0 ≤ (l.take d).sum ∧ (l.take d).sum ≤ 1048576 := by
  have h1 := (h.take d).sum
  have h2 : (l.take d).length ≤ 256 := by simp [hl]; omega
  omega
theorem place {l : List Int} (h : Fine l) {p : Int} (h0 : 0 ≤ p) : ∀ (d : Nat), d ≤ l.length → p < (l.take d).sum → ∃ i, i < d ∧ (l.take i).sum ≤ p ∧ p < (l.take i).sum + l.getD i 0
  | 0, _, h1 => by simp at h1; omega
  | d + 1, hd, h1 => by
    by_cases h2 : p < (l.take d).sum
    · obtain ⟨i, hi, h3⟩ := place h h0 d (by omega) h2
      exact ⟨i, by omega, h3⟩
    · rw [sum_next (by omega)] at h1
      exact ⟨d, by omega, by omega, h1⟩

/-- Where the first d of them begin. -/
def sta (l : List Int) (d : Nat) : List Int := (List.range 257).map fun j => if j ≤ d then (l.take j).sum else 0
theorem sta_len (l : List Int) (d : Nat) : (sta l d).length = 257 := by simp [sta]
theorem sta_get (l : List Int) (d : Nat) {j : Nat} (h : j < 257) : (sta l d).getD j 0 = if j ≤ d then (l.take j).sum else 0 := by
  simp [sta, List.getD, h]
theorem sta_zero (l : List Int) : sta l 0 = List.replicate 257 0 := by
  apply List.ext_getElem?
  intro j
  by_cases hj : j < 257
  · rw [List.getElem?_replicate, if_pos hj, sta, List.getElem?_map, List.getElem?_range hj]
    simp only [Option.map_some, Option.some.injEq]
    split
    · next h => obtain rfl : j = 0 := by omega
                simp
    · rfl
  · rw [List.getElem?_eq_none (by rw [sta_len]; omega), List.getElem?_eq_none (by rw [List.length_replicate]; omega)]
theorem sta_set (l : List Int) {d : Nat} (h : d < 256) : (sta l d).set (d + 1) ((l.take (d + 1)).sum) = sta l (d + 1) := by
  apply List.ext_getElem?
  intro j
  rw [List.getElem?_set]
  by_cases hj : j < 257
  · simp only [sta, List.getElem?_map, List.getElem?_range hj, List.length_map, List.length_range]
    by_cases he : d + 1 = j
    · subst he
      simp [hj]
    · rw [if_neg he]
      simp [show j ≤ d + 1 ↔ j ≤ d by omega]
  · rw [List.getElem?_eq_none (by rw [sta_len]; omega), List.getElem?_eq_none (by rw [sta_len]; omega), sta_len, if_neg (by omega)]
theorem built_long : (Try.prog.built 86 []) = some (Array.replicate 257 (.int .i64 0)) := by kernel_rfl
theorem run_long (w : World) : (Instr.build 86 #[]).run Try.prog w = .ok (.agg (vs (List.replicate 257 0))) w := by
  rw [← vs_rep]
  exact run_build w 86 #[] _ built_long
theorem starts (l : List Int) (v u : Array Value) (w : World) (hv : vs l = v) (hu : vs (sta l 256) = u) (hl : l.length = 256) (hf : Fine l) :
    Calls Try.prog 34 #[.agg v] w fun r w' => r = .returned (.agg u) ∧ Keeps (fun _ => False) w w' := by
  have HL := Lib.hid hl
  have HV : Hid ((Try.prog.info? 65).map (·.size) = some v.size) := by show _ = _; rw [← hv]; exact tab_size hl
  have HG : Hid (∀ j, j < 256 → v[j]? = some (.int .i64 (l.getD j 0))) := fun j hj => by rw [← hv]; exact vs_get (by omega)
  have HF := Lib.hid hf
  have HU := Lib.hid hu
  have hz : ∀ w, (zeroValue 86).run Try.prog w = .ok (.agg (vs (List.replicate 257 0))) w := long_zero
  have hbu := run_long
  have HZI := Lib.hid (long_size (l := List.replicate 257 0) List.length_replicate)
  have HZ1 := Lib.hid (vs_one (List.replicate 257 0))
  generalize hZ : vs (List.replicate 257 0) = Z at hz hbu HZI HZ1
  have HZS := Lib.hid hZ
  clear hl hv hf hu hZ
  go_enter Try.func34, Try.ntmps34
  go_upto_region 1 with fail
  obtain ⟨R, hR⟩ : ∃ R, w.heap.size + 1 = R := ⟨_, rfl⟩
  obtain ⟨A, hA⟩ : ∃ A, w.heap.size = A := ⟨_, rfl⟩
  generalize hW : (w.alloc (.cells v 65)).alloc (.cells Z 86) = W
  have HBA : Hid (Blk W A 65 v) := by show Blk _ _ _ _; rw [← hW, ← hA]; exact (Blk.new _ _ _).alloc _
  have HBR : Hid (Blk W R 86 Z) := by show Blk _ _ _ _; rw [← hW, ← hR, show w.heap.size + 1 = (w.alloc (.cells v 65)).heap.size by simp]; exact Blk.new _ _ _
  have HK : Hid (Keeps (fun _ => False) w W) := by show Keeps _ _ _; rw [← hW]; exact ((Keeps.refl _ _).alloc _).alloc _
  have HA := Lib.hid hA
  have HR := Lib.hid hR
  rw [hR, hA]
  clear hR hA hW
  go_upto_region 2 with ((with_reducible refine st_row (Blk.new _ 86 Z) HZI.out rfl HZ1.out ?_ ?_ ?_); rfl; rfl)
  obtain ⟨T, hT⟩ : ∃ T, W.heap.size = T := ⟨_, rfl⟩
  generalize hW : (W.alloc (.cells Z 86)).setRow W.heap.size Z = W2
  have hla := HBA.out.lt
  have hlr := HBR.out.lt
  have HBA2 : Hid (Blk W2 A 65 v) := by show Blk _ _ _ _; rw [← hW]; exact Blk.setRowFar (HBA.out.alloc _) (by omega) _
  have HBR2 : Hid (Blk W2 R 86 Z) := by show Blk _ _ _ _; rw [← hW]; exact Blk.setRowFar (HBR.out.alloc _) (by omega) _
  have HBT2 : Hid (Blk W2 T 86 (vs (sta l 0))) := by show Blk _ _ _ _; rw [← hW, ← hT, sta_zero, HZS.out]; exact Blk.setRow (Blk.new _ _ _) _
  have HK2 : Hid (Keeps (fun _ => False) w W2) := by show Keeps _ _ _; rw [← hW]; exact Keeps.setRow (HK.out.alloc _) (.inr HK.out.size) _
  have HTA : Hid (R ≠ T ∧ w.heap.size ≤ T) := by show _ ∧ _; have := HK.out.size; omega
  rw [hT]
  clear hT hW hla hlr HBA HBR HK
  go_wp2_with ((with_reducible refine ld_row HBA2.out Try.underlying65 HV.out ?_ ?_); rfl)
  go_loopw [8] (fun i wr => ∃ d : Nat, d ≤ 256 ∧ i = .int .i64 (d : Int) ∧ Hid (Blk wr T 86 (vs (sta l d)) ∧ Blk wr R 86 Z ∧ Keeps (fun _ => False) w wr)) (fun i _ => 256 - (intOf i).toNat)
  case atStart => exact ⟨0, by omega, rfl, Lib.hid ⟨HBT2.out, HBR2.out, HK2.out⟩⟩
  case round =>
    obtain ⟨d, hd, rfl, HH⟩ := hrel
    clear HBA2 HBR2 HBT2 HK2
    by_cases hlt : d < 256
    · obtain ⟨s, hs⟩ : ∃ s, (l.take d).sum = s := ⟨_, rfl⟩
      obtain ⟨x, hx⟩ : ∃ x, l.getD d 0 = x := ⟨_, rfl⟩
      have hsb := sum_bound HF.out HL.out d
      rw [hs] at hsb
      have hxb : 0 ≤ x ∧ x ≤ 4096 := by rw [← hx]; exact HF.out _ (getD_mem (by rw [HL.out]; exact hlt))
      have hgd : ∀ w, (Instr.index 65 (.agg v) (.int .i64 (d : Int))).run Try.prog w = .ok (.int .i64 x) w := run_idx 65 256 Try.underlying65 v .i64 d _ hlt (by rw [HG.out d hlt, hx])
      have HS : Hid ((l.take (d + 1)).sum = s + x) := by show _ = _; rw [sum_next (by rw [HL.out]; exact hlt), hs, hx]
      have hc0 : wr.cell? ⟨T, d, none⟩ = some (.int .i64 s) := by rw [HH.out.1.cell, vs_get (by rw [sta_len]; omega), sta_get _ _ (by omega), if_pos (by omega), hs]
      have hc1 : wr.cell? ⟨T, d + 1, none⟩ = some (.int .i64 0) := by rw [HH.out.1.cell, vs_get (by rw [sta_len]; omega), sta_get _ _ (by omega), if_neg (by omega)]
      have hf1 : wr.frozen? ⟨T, d + 1, none⟩ = false := HH.out.1.frozen _
      have hw : IntKind.i64.wrap (s + x) = s + x := IntWalk.i64_in _ (by omega)
      have hd0 : (0 : Int) ≤ (d : Int) := by omega
      have hd1 : (d : Int) < 256 := by omega
      have hd2 : (d : Int) < 257 := by omega
      have hd3 : (d : Int) + 1 < 257 := by omega
      have hd4 : ((d : Int) + 1).toNat = d + 1 := by omega
      have HN : Hid (Blk (wr.setCell ⟨T, d + 1, none⟩ (.int .i64 (s + x))) T 86 (vs (sta l (d + 1))) ∧ Blk (wr.setCell ⟨T, d + 1, none⟩ (.int .i64 (s + x))) R 86 Z ∧ Keeps (fun _ => False) w (wr.setCell ⟨T, d + 1, none⟩ (.int .i64 (s + x)))) := by
        refine Lib.hid ⟨?_, HH.out.2.1.setFar (p := ⟨T, d + 1, none⟩) HTA.out.1 _, HH.out.2.2.setCell (p := ⟨T, d + 1, none⟩) (.inr HTA.out.2) _⟩
        have := HH.out.1.setCell (d + 1) (.int .i64 (s + x))
        rwa [vs_set, ← HS.out, sta_set l hlt, HS.out] at this
      clear hs hx HH
      go_wp2_with fail
      exact ⟨⟨d + 1, by omega, by go_num, HN⟩, by simp [intOf]; omega⟩
    · obtain rfl : d = 256 := by omega
      have hH := HH.out
      rw [HU.out] at hH
      obtain ⟨hbT, hbR, hk⟩ := hH
      have HBT := Lib.hid hbT
      have HBR := Lib.hid hbR
      have HK := Lib.hid hk
      have HUI : Hid ((Try.prog.info? 86).map (·.size) = some u.size) := by show _ = _; rw [← HU.out]; exact long_size (sta_len _ _)
      have HU1 : Hid (u.all (·.oneCell') = true) := by show _ = _; rw [← HU.out]; exact vs_one _
      have HZU : Hid (Z.size = u.size) := by show _ = _; rw [← HU.out, ← HZS.out, vs_size, vs_size, sta_len, List.length_replicate]
      clear hbT hbR hk HH
      go_wp2_with (first
        | ((with_reducible refine ld_row HBT.out Try.underlying86 HUI.out ?_ ?_); rfl)
        | ((with_reducible refine st_row HBR.out HUI.out HZU.out HU1.out ?_ ?_ ?_); rfl; rfl))
      refine bodyPost_ret (v := .agg u) ?_ rfl ⟨rfl, Keeps.setRow HK.out (.inr (by have := HR.out; omega)) _⟩
      exact results_cell_row rfl _ _ R 86 u (0, 0) _ rfl (Blk.setRow HBR.out _) Try.underlying86 rfl HUI.out
end Go.Proofs.Ytnanmenoemajfaa.Fq
