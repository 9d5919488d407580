/- Whether a table may be one. -/
import Derived.Test.YtnanmenoemajfaaFrqRow
namespace Go.Proofs.Ytnanmenoemajfaa.Fq
open Go.RowKit Go.Proofs.Ytnanmenoemajfaa.Gen

/-- No part out of range. -/
def Fine (l : List Int) : Prop := ∀ x ∈ l, 0 ≤ x ∧ x ≤ 4096
instance (l : List Int) : Decidable (Fine l) := List.decidableBAll _ l
def chk (l : List Int) : Int := if Fine l then (if l.sum = 4096 then 0 else 8) else 2
theorem take_next {l : List Int} {d : Nat} (h : d < l.length) : l.take (d + 1) = l.take d ++ [l.getD d 0] := by
  rw [List.take_add_one, List.getElem?_eq_getElem h, List.getD, List.getElem?_eq_getElem h]
  simp
theorem sum_snoc (l : List Int) (x : Int) : (l ++ [x]).sum = l.sum + x := by simp
theorem sum_next {l : List Int} {d : Nat} (h : d < l.length) : (l.take (d + 1)).sum = (l.take d).sum + l.getD d 0 := by rw [take_next h, sum_snoc]
theorem Fine.next {l : List Int} {d : Nat} (h : d < l.length) (hf : Fine (l.take d)) (hx : 0 ≤ l.getD d 0 ∧ l.getD d 0 ≤ 4096) : Fine (l.take (d + 1)) := by
  rw [take_next h]
  intro x hm
  rcases List.mem_append.1 hm with hm | hm
  · exact hf x hm
  · simp only [List.mem_singleton] at hm; rw [hm]; exact hx
theorem Fine.sum : ∀ {l : List Int}, Fine l → 0 ≤ l.sum ∧ l.sum ≤ 4096 * l.length
  | [], _ => by simp
  | a :: r, h => by
    have h1 := h a (by simp)
    have h2 := Fine.sum (l := r) fun x hx => h x (by simp [hx])
    simp only [List.sum_cons, List.length_cons]
    omega
theorem not_fine {l : List Int} {d : Nat} (h : d < l.length) (hx : ¬ (0 ≤ l.getD d 0 ∧ l.getD d 0 ≤ 4096)) : ¬ Fine l := by
  intro hf
  apply hx
  rw [List.getD, List.getElem?_eq_getElem h]
  exact hf _ (List.getElem_mem h)

set_option maxRecDepth 100000 in
theorem check (l : List Int) (w : World) (hl : l.length = 256) : Calls Try.prog 54 #[.agg (vs l)] w fun r w' => r = .returned (.int .i64 (chk l)) ∧ w' = w.alloc (.cells (vs l) 65) := by
  have HL := Lib.hid hl
  have HZ := Lib.hid (tab_size hl)
  have HG := Lib.hid (fun j (hj : j < 256) => vs_get (l := l) (j := j) (by omega))
  generalize hcs : vs l = cs at *
  clear hl hcs
  go_enter Try.func54, Try.ntmps54
  go_wp2_with ((with_reducible refine ld_row (Blk.new w 65 cs) Try.underlying65 HZ.out ?_ ?_); rfl)
  generalize hW : w.alloc (.cells cs 65) = W
  have HW := Lib.hid hW
  clear hW
  go_loopw [3, 7] (fun s i wr => ∃ d : Nat, d ≤ 256 ∧ s = .int .i64 ((l.take d).sum) ∧ i = .int .i64 (d : Int) ∧ wr = W ∧ Hid (Fine (l.take d))) (fun _ i _ => 256 - (intOf i).toNat)
  case atStart => exact ⟨0, by omega, rfl, rfl, rfl, Lib.hid (by simp [Fine])⟩
  case round =>
    obtain ⟨d, hd, rfl, rfl, rfl, HF⟩ := hrel
    obtain ⟨s, hs⟩ : ∃ s, (l.take d).sum = s := ⟨_, rfl⟩
    have hsb : 0 ≤ s ∧ s ≤ 1048576 := by
      have h := HF.out.sum
      have h2 : (l.take d).length ≤ 256 := by simp [HL.out]; omega
      omega
    rw [hs]
    by_cases hlt : d < 256
    · obtain ⟨x, hx⟩ : ∃ x, l.getD d 0 = x := ⟨_, rfl⟩
      have hgd : ∀ w, (Instr.index 65 (.agg cs) (.int .i64 (d : Int))).run Try.prog w = .ok (.int .i64 x) w := run_idx 65 256 Try.underlying65 cs .i64 d _ hlt (by rw [HG.out d hlt, hx])
      have HS : Hid ((l.take (d + 1)).sum = s + x) := by show (l.take (d + 1)).sum = s + x; rw [sum_next (by rw [HL.out]; exact hlt), hs, hx]
      have HX := Lib.hid hx
      clear hx hs
      have hd1 : (d : Int) < 256 := by omega
      by_cases h0 : x < 0
      · have HN : Hid (chk l = 2) := by show chk l = 2; rw [chk, if_neg (not_fine (d := d) (by rw [HL.out]; exact hlt) (by rw [HX.out]; omega))]
        go_wp2
        go_ret
        exact ⟨by rw [HN.out]; rfl, HW.out.symm⟩
      · by_cases h1 : 4096 < x
        · have HN : Hid (chk l = 2) := by show chk l = 2; rw [chk, if_neg (not_fine (d := d) (by rw [HL.out]; exact hlt) (by rw [HX.out]; omega))]
          go_wp2
          go_ret
          exact ⟨by rw [HN.out]; rfl, HW.out.symm⟩
        · have HF1 : Hid (Fine (l.take (d + 1))) := HF.out.next (by rw [HL.out]; exact hlt) (by rw [HX.out]; omega)
          have hw : IntKind.i64.wrap (s + x) = s + x := IntWalk.i64_in _ (by omega)
          go_wp2
          exact ⟨⟨d + 1, by omega, by rw [HS.out], by go_num, trivial, HF1⟩, by simp [intOf]; omega⟩
    · obtain rfl : d = 256 := by omega
      have HT : Hid (l.take 256 = l) := List.take_of_length_le (by rw [HL.out]; omega)
      have HS := Lib.hid hs
      clear hs
      by_cases he : s = 4096
      · have HN : Hid (chk l = 0) := by
          show chk l = 0
          have h1 := HF.out
          have h2 := HS.out
          rw [HT.out] at h1 h2
          rw [chk, if_pos h1, if_pos (by omega)]
        go_wp2
        go_ret
        exact ⟨by rw [HN.out]; rfl, HW.out.symm⟩
      · have HN : Hid (chk l = 8) := by
          show chk l = 8
          have h1 := HF.out
          have h2 := HS.out
          rw [HT.out] at h1 h2
          rw [chk, if_pos h1, if_neg (by omega)]
        go_wp2
        go_ret
        exact ⟨by rw [HN.out]; rfl, HW.out.symm⟩
end Go.Proofs.Ytnanmenoemajfaa.Fq
