/- The statement FreqScales (P6.1: any counts, as parts of 4096) holds for every input: the Go function answers true, and its arguments read as before. No conditions beyond the row's own. -/
import Derived.Test.YtjidgiobnlolpaaRows
import Derived.WalkKit
import Derived.ProofKit
import Derived.OpenShut
import Derived.ShutString
import Derived.ChangeOld
import Derived.Below
import Derived.Test.YtjidgiobnlolpaaAwake6
import Derived.Test.YtjidgiobnlolpaaFrqRef
import Derived.Test.YtjidgiobnlolpaaFrqEq
import Derived.Outline
import Derived.RegionTactic
import Derived.Deep.Slices
import Derived.Deep.SlicePairs
namespace Go.Proofs.Ytjidgiobnlolpaa.freqScales
open Go.ChangeShapes Go.WideShapes Go.ChangeAt Go.RowKit Go.Deep
open Go.Proofs.Ytjidgiobnlolpaa.Gen Go.Proofs.Ytjidgiobnlolpaa.Fq Go.Proofs.Ytjidgiobnlolpaa.Aw
set_option linter.unusedVariables false

theorem own : ownKnob Try.prog.godebug = none := by kernel_rfl
theorem laidOut : laidOutB Try.prog = true := by kernel_rfl

/-- What the walk is told of a slice of integers that came in: it is nil, or a row of cells that hold zs, each of which fits. -/
def IsRow (k : IntKind) (w : World) (a : Option Addr) (len cap : Nat) (zs : List Int) : Prop :=
  (a = none ∧ len = 0 ∧ cap = 0 ∧ zs = []) ∨
  ∃ x, a = some x ∧ len ≤ cap ∧ cap ≤ maxLen ∧ zs.length = cap ∧ (∀ i, i < zs.length → w.cell? (x.add i) = some (.int k (zs.getD i 0))) ∧ ∀ n ∈ zs, (Lit.int k n).wf = true
/-- And of a slice of such slices: it is nil, or each of its cells holds one. -/
def IsRows (k : IntKind) (w : World) (a : Option Addr) (len cap : Nat) : Prop :=
  (a = none ∧ len = 0 ∧ cap = 0) ∨
  ∃ x, a = some x ∧ len ≤ cap ∧ cap ≤ maxLen ∧ ∀ i, i < len → ∃ b n c zs, w.cell? (x.add i) = some (.slice b n c) ∧ IsRow k w b n c zs
/-- And of a slice of structs of two integers. -/
def IsPairs (k0 k1 : IntKind) (w : World) (a : Option Addr) (len cap : Nat) (zs : List (Int × Int)) : Prop :=
  (a = none ∧ len = 0 ∧ cap = 0 ∧ zs = []) ∨
  ∃ x, a = some x ∧ len ≤ cap ∧ cap ≤ maxLen ∧ zs.length = cap ∧ ∀ i, i < zs.length → w.cell? (x.add (i * 2)) = some (.int k0 (zs.getD i (0, 0)).1) ∧ w.cell? (x.add (i * 2 + 1)) = some (.int k1 (zs.getD i (0, 0)).2) ∧ (Lit.int k0 (zs.getD i (0, 0)).1).wf = true ∧ (Lit.int k1 (zs.getD i (0, 0)).2).wf = true
section
variable {H : Type} {enc : TypeId × Value → H} {W : World}
theorem open_pairs {t e : TypeId} {k0 k1 : IntKind} {f0 f1 : Field} {fuel : Nat} {a : Option Addr} {len cap : Nat} {x : DataW H × List MemPlace} (ht : Try.prog.underlying t = some (.slice e)) (he : Try.prog.underlying e = some (.struct #[f0, f1])) (h0 : Try.prog.underlying f0.type = some (.int k0)) (h1 : Try.prog.underlying f1.type = some (.int k1))
    (ce : Try.prog.cellsOf e = 2) (o0 : f0.offset = 0) (o1 : f1.offset = 1) (c0 : Try.prog.cellsOf f0.type = 1) (c1 : Try.prog.cellsOf f1.type = 1)
    (hf : DataW.trod enc Try.prog W 0 (fun _ => true) true fuel t (Value.slice a len cap).cells.toList = some x) : ∃ zs, IsPairs k0 k1 W a len cap zs := by
  rcases open_slice_pairs ht he ce o0 o1 c0 c1 hf with ⟨hcs, _⟩ | ⟨y, l, c, m, n, V0, V1, D0, D1, P0, P1, hcs, _, hl, hm, hmm, _, hi⟩
  · simp [Value.cells] at hcs
    obtain ⟨rfl, rfl, rfl⟩ := hcs
    exact ⟨[], .inl ⟨rfl, rfl, rfl, rfl⟩⟩
  · simp [Value.cells] at hcs
    obtain ⟨rfl, rfl, rfl⟩ := hcs
    simp only [if_true] at hmm
    refine ⟨(List.range cap).map fun i => (intOf (V0 i), intOf (V1 i)), .inr ⟨y, rfl, hl, hm, by simp, fun i hil => ?_⟩⟩
    have hic : i < cap := by simpa using hil
    obtain ⟨g0, g1, g2, g3⟩ := hi i (by omega)
    obtain ⟨n0, e0, _, w0⟩ := DataW.trod_int h0 g2
    obtain ⟨n1, e1, _, w1⟩ := DataW.trod_int h1 g3
    injection e0 with e0
    injection e1 with e1
    rw [e0] at g0
    rw [e1] at g1
    have hz : ((List.range cap).map fun i => (intOf (V0 i), intOf (V1 i))).getD i (0, 0) = (n0, n1) := by
      simp [List.getD_eq_getElem?_getD, hic, e0, e1, intOf]
    rw [hz]
    exact ⟨g0, g1, w0, w1⟩
theorem okw_arr {t e : TypeId} {n : Nat} {r : Reach} {base : Nat} {v : Value} (ht : Try.prog.underlying t = some (.array n e)) (hc : Try.prog.cellsOf t = n) (h : Value.okWide Try.prog W r base t v) : ∃ cs : Array Value, v = .agg cs ∧ cs.size = n := by
  simp only [Value.okWide, ht] at h
  obtain ⟨cs, h1, h2, _⟩ := h
  exact ⟨cs, h1, by rw [h2, hc]⟩
theorem open_arr {t e : TypeId} {k : IntKind} {n fuel : Nat} {cs : Array Value} {x : DataW H × List MemPlace} (ht : Try.prog.underlying t = some (.array n e)) (he : Try.prog.underlying e = some (.int k)) (ce : Try.prog.cellsOf e = 1) (hn : cs.size = n)
    (hf : DataW.trod enc Try.prog W 0 (fun _ => true) true fuel t (Value.agg cs).cells.toList = some x) : ∃ zs : List Int, (zs.length = n ∧ ∀ z ∈ zs, (Lit.int k z).wf = true) ∧ cs = (zs.map (Value.int k)).toArray := by
  obtain ⟨xs, m, _, _, _, hx, hi⟩ := DataW.trod_array ht hf
  have hall : ∀ i, i < n → ∃ z, cs[i]? = some (.int k z) ∧ (Lit.int k z).wf = true := by
    intro i hin
    have h1 := hi i hin
    rw [List.getElem?_eq_getElem (by omega), ce, Nat.mul_one] at h1
    obtain ⟨z, e1, _, wz⟩ := DataW.trod_int he h1
    refine ⟨z, ?_, wz⟩
    have h2 : (((Value.agg cs).cells.toList.drop i).take 1)[0]? = some (Value.int k z) := by rw [e1]; rfl
    simpa [List.getElem?_take, List.getElem?_drop, Value.cells] using h2
  refine ⟨cs.toList.map intOf, ⟨by simpa using hn, fun z hz => ?_⟩, ?_⟩
  · simp only [List.mem_map] at hz
    obtain ⟨u, hu, rfl⟩ := hz
    obtain ⟨i, hil, rfl⟩ := List.getElem_of_mem hu
    obtain ⟨z, hz, wz⟩ := hall i (by simpa [hn] using hil)
    have : cs.toList[i] = .int k z := by
      have h3 : cs.toList[i]? = some (.int k z) := by simpa using hz
      rw [List.getElem?_eq_getElem hil] at h3
      exact Option.some.inj h3
    rw [this]
    exact wz
  · apply Array.ext_getElem?
    intro i
    by_cases hin : i < n
    · obtain ⟨z, hz, _⟩ := hall i hin
      rw [hz]
      simp [hz, intOf]
    · rw [Array.getElem?_eq_none (by omega), Array.getElem?_eq_none (by simp; omega)]
theorem open_row {t e : TypeId} {k : IntKind} {fuel : Nat} {a : Option Addr} {len cap : Nat} {x : DataW H × List MemPlace} (ht : Try.prog.underlying t = some (.slice e)) (he : Try.prog.underlying e = some (.int k)) (h1 : Try.prog.cellsOf e = 1)
    (hf : DataW.trod enc Try.prog W 0 (fun _ => true) true fuel t (Value.slice a len cap).cells.toList = some x) : ∃ zs, IsRow k W a len cap zs := by
  rcases open_ints ht he h1 hf with ⟨hcs, _⟩ | ⟨x, l, c, zs, hcs, _, hl, hm, hz, _, hcell, hwz⟩
  · simp [Value.cells] at hcs
    obtain ⟨rfl, rfl, rfl⟩ := hcs
    exact ⟨[], .inl ⟨rfl, rfl, rfl, rfl⟩⟩
  · simp [Value.cells] at hcs
    obtain ⟨rfl, rfl, rfl⟩ := hcs
    exact ⟨zs, .inr ⟨_, rfl, hl, hm, by simpa using hz, hcell, hwz⟩⟩
theorem open_rows {t e g : TypeId} {k : IntKind} {fuel : Nat} {a : Option Addr} {len cap : Nat} {x : DataW H × List MemPlace} (ht : Try.prog.underlying t = some (.slice e)) (he : Try.prog.underlying e = some (.slice g)) (hg : Try.prog.underlying g = some (.int k)) (h1 : Try.prog.cellsOf e = 1) (h2 : Try.prog.cellsOf g = 1)
    (hf : DataW.trod enc Try.prog W 0 (fun _ => true) true fuel t (Value.slice a len cap).cells.toList = some x) : IsRows k W a len cap := by
  rcases open_slice ht hf with ⟨hcs, _⟩ | ⟨x, l, c, m, n, D, Pl, hcs, _, hl, hm, hmm, _, hi⟩
  · simp [Value.cells] at hcs
    obtain ⟨rfl, rfl, rfl⟩ := hcs
    exact .inl ⟨rfl, rfl, rfl⟩
  · simp [Value.cells] at hcs
    obtain ⟨rfl, rfl, rfl⟩ := hcs
    refine .inr ⟨x, rfl, hl, hm, fun i hil => ?_⟩
    simp only [if_true] at hmm
    obtain ⟨cs, hc, htr⟩ := hi i (by omega)
    rw [h1, Nat.mul_one] at hc
    obtain ⟨_, hlen, hat⟩ := World.cells?_some hc
    have h0 := hat 0 (by omega)
    have ha0 : (x.add i).add 0 = x.add i := by rw [Go.Deep.add_add]; rfl
    rw [ha0] at h0
    rcases open_ints he hg h2 htr with ⟨hcs, _⟩ | ⟨y, l', c', zs, hcs, _, hl', hm', hz, _, hcell, hwz⟩
    · subst hcs
      exact ⟨none, 0, 0, [], by simpa using h0, .inl ⟨rfl, rfl, rfl, rfl⟩⟩
    · subst hcs
      exact ⟨some y, l', c', zs, by simpa using h0, .inr ⟨y, rfl, hl', hm', by simpa using hz, hcell, hwz⟩⟩
end
theorem built_arr : (Try.prog.built 24 []) = some (Array.replicate 256 (.int .i64 0)) := by kernel_rfl
theorem run_arr (w : World) : (Instr.build 24 #[]).run Try.prog w = .ok (.agg (vs zs)) w := by
  rw [zs, ← vs_rep]
  exact run_build w 24 #[] _ built_arr
/-- What both answer of counts that may be. -/
def res (c : List Int) : List Int := if c.sum ≠ 0 then scal c else zs
theorem res_len {c : List Int} (hc : c.length = 256) (hr : InR c) : (res c).length = 256 := by
  unfold res
  split
  · exact (scal_ok hc hr).1
  · exact zs_len
theorem scaled_res {c : List Int} {cs v : Array Value} {b : Bool} (hc : c.length = 256) (hr : InR c) (hcs : vs c = cs) (hv : vs (res c) = v) (hb : decide (c.sum ≠ 0) = b) (w : World) :
    Calls Try.prog 10 #[.agg cs] w fun r w' => r = .returned (.tuple #[.agg v, .bool b]) ∧ Keeps (fun _ => False) w w' := by
  rw [← hcs]
  refine (scaled c w hc).mono fun r w' ⟨h1, h2⟩ => ⟨?_, h2⟩
  rw [h1, ← hv, ← hb, res]
  simp only [hr, true_and]
theorem rscaled_res {c : List Int} {cs v : Array Value} {b : Bool} (hc : c.length = 256) (hr : InR c) (hcs : vs c = cs) (hv : vs (res c) = v) (hb : decide (c.sum ≠ 0) = b) (w : World) :
    Calls Try.prog 11 #[.agg cs] w fun r w' => r = .returned (.tuple #[.agg v, .bool b]) ∧ Keeps (fun _ => False) w w' := by
  rw [← hcs]
  refine (rscaled c w hc hr).mono fun r w' ⟨h1, h2⟩ => ⟨?_, h2⟩
  rw [h1, ← hv, ← hb, res]
theorem inR_take {l : List Int} {d : Nat} (h : InR (l.take (d + 1))) : InR (l.take d) := fun x hx => by
  apply h
  rw [List.take_add_one]
  exact List.mem_append_left _ hx
theorem inR_last {l : List Int} {d : Nat} (hd : d < l.length) (h : InR (l.take (d + 1))) : 0 ≤ l.getD d 0 ∧ l.getD d 0 ≤ 2147483647 := by
  apply h
  rw [take_next hd]
  simp
set_option maxRecDepth 20000 in
set_option maxHeartbeats 1000000 in
theorem walk (a0 : Option Addr) (len0 cap0 : Nat) (z0 : List Int) (a1 : Option Addr) (len1 cap1 : Nat) (z1 : List Int) (z2 : List Int) (w : World) (w0 : IsRow .u8 w a0 len0 cap0 z0) (w1 : IsRow .u16 w a1 len1 cap1 z1) (w2 : z2.length = 256 ∧ ∀ x ∈ z2, (Lit.int .i64 x).wf = true) :
    Calls Try.prog 3 #[.slice a0 len0 cap0, .slice a1 len1 cap1, .agg (z2.map (Value.int .i64)).toArray] w fun e w' => e = .returned (.bool true) ∧ Below w.heap.size w w' := by
  obtain ⟨hxl, hlc, hl0, hbx⟩ := row_lies w0
  have hmo := row_more w1
  obtain ⟨hraw, hrawb⟩ := w2
  obtain ⟨xs, hxs⟩ : ∃ xs, z0.take len0 = xs := ⟨_, rfl⟩
  rw [hxs] at hxl hl0 hbx
  have HXL := Lib.hid hxl
  have HL0 := Lib.hid hl0
  have HBX := Lib.hid hbx
  have HMO := Lib.hid hmo
  change Calls Try.prog 3 #[.slice a0 len0 cap0, .slice a1 len1 cap1, .agg (vs z2)] w _
  obtain ⟨rv, hrv⟩ : ∃ rv, vs z2 = rv := ⟨_, rfl⟩
  rw [hrv]
  have HRL := Lib.hid hraw
  have HRV := Lib.hid hrv
  have HRI : Hid ((Try.prog.info? 24).map (·.size) = some rv.size) := by show _ = _; rw [← hrv]; exact arr_size hraw
  have HRG : Hid (∀ j, j < 256 → rv[j]? = some (.int .i64 (z2.getD j 0))) := fun j hj => by rw [← HRV.out]; exact vs_get (by rw [HRL.out]; exact hj)
  clear w0 w1 hxs hxl hl0 hbx hmo hlc hraw hrawb hrv
  have hz2 : ∀ w, (zeroValue 24).run Try.prog w = .ok (.agg (vs zs)) w := arr_zero
  have hz3 : ∀ w, (zeroValue 27).run Try.prog w = .ok (.agg (vs zs)) w := tab_zero
  have hbu := run_arr
  generalize hZ : vs zs = Z at hz2 hz3 hbu
  have HZS := Lib.hid hZ
  clear hZ
  by_cases h300 : 300 < len0
  · go_enter Try.func3, Try.ntmps3
    go_wp2_with (go_at_call 8; refine (awake _).mono ?_; rintro e w1 ⟨rfl, hb1⟩; have HK1 : Hid (Keeps (fun _ => False) w w1) := (((Keeps.refl _ _).alloc _).trans (Keeps.of_below hb1)); clear hb1)
    go_ret
    exact ⟨rfl, HK1.out.below (Nat.le_refl _) (fun _ h => h.elim)⟩
  · obtain ⟨c, hc⟩ : ∃ c, cnt xs (am z1 len1) len0 = c := ⟨_, rfl⟩
    have HCL : Hid (c.length = 256) := by show _ = _; rw [← hc]; exact cnt_len _ _ _
    have HCR : Hid (InR c) := by show InR c; rw [← hc]; exact cnt_inR _ _ (am_in HMO.out) _ (by omega)
    obtain ⟨cs, hcs⟩ : ∃ cs, vs c = cs := ⟨_, rfl⟩
    have HCN : Hid (∀ w1, Keeps (fun _ => False) w w1 → Calls Try.prog 9 #[.slice a0 len0 cap0, .slice a1 len1 cap1] w1 fun r w' => r = .returned (.agg cs) ∧ Keeps (fun _ => False) w1 w') := by
      refine Lib.hid fun w1 hk => ?_
      rw [← hcs, ← hc]
      exact counts a0 len0 cap0 xs a1 len1 cap1 z1 w1 HXL.out (HL0.out.keeps hk fun _ _ _ => id) (by omega) HBX.out (HMO.out.keeps hk)
    obtain ⟨v, hv⟩ : ∃ v, vs (res c) = v := ⟨_, rfl⟩
    obtain ⟨b, hb⟩ : ∃ b, decide (c.sum ≠ 0) = b := ⟨_, rfl⟩
    have HSC := Lib.hid (scaled_res HCL.out HCR.out hcs hv hb)
    have HRS := Lib.hid (rscaled_res HCL.out HCR.out hcs hv hb)
    have HCSI : Hid ((Try.prog.info? 24).map (·.size) = some cs.size) := by show _ = _; rw [← hcs]; exact arr_size HCL.out
    have HCS1 : Hid (cs.all (·.oneCell') = true) := by show _ = _; rw [← hcs]; exact vs_one _
    have HZC : Hid (Z.size = cs.size) := by show _ = _; rw [← hcs, ← HZS.out, vs_size, vs_size, zs_len, HCL.out]
    have hrl := res_len HCL.out HCR.out
    have HVT : Hid ((Try.prog.info? 27).map (·.size) = some v.size) := by show _ = _; rw [← hv]; exact tab_size hrl
    have HVA : Hid ((Try.prog.info? 24).map (·.size) = some v.size) := by show _ = _; rw [← hv]; exact arr_size hrl
    have HV1 : Hid (v.all (·.oneCell') = true) := by show _ = _; rw [← hv]; exact vs_one _
    have HZV : Hid (Z.size = v.size) := by show _ = _; rw [← hv, ← HZS.out, vs_size, vs_size, zs_len, hrl]
    have HEQ : Hid (∀ w, (Op.equalIn 10000 27 (.agg v) (.agg v)).run Try.prog w = .ok true w) := fun w => run_eq 27 Try.underlying27 (res c) (res c) v v true hv hv hrl hrl (by simp) w
    have HCH : Hid (b = true → ∀ w, Calls Try.prog 12 #[.agg v] w fun r w' => r = .returned (.int .i64 0) ∧ w' = w.alloc (.cells v 27)) := fun hbt w => by
      have hs : c.sum ≠ 0 := by rw [← hb] at hbt; exact of_decide_eq_true hbt
      have := check (res c) w hrl
      rw [hv, show chk (res c) = 0 by rw [res, if_pos hs]; exact chk_scal HCL.out HCR.out] at this
      exact this
    have HVZ : Hid (b = false → v = Z) := fun hbf => by
      have hs : ¬ c.sum ≠ 0 := by rw [← hb] at hbf; exact of_decide_eq_false hbf
      rw [← hv, res, if_neg hs, HZS.out]
    clear hc hcs hv hb hrl
    go_enter Try.func3, Try.ntmps3
    go_upto_region 5 with (go_at_call 8; refine (awake _).mono ?_; rintro e w1 ⟨rfl, hb1⟩; have HB1 := Lib.hid hb1; clear hb1)
    obtain ⟨B, hB⟩ : ∃ B, w.heap.size = B := ⟨_, rfl⟩
    have hk0 : Keeps (fun _ => False) (w.alloc (.cells rv 24)) w1 := Keeps.of_below HB1.out
    have HBB1 : Hid (Blk w1 B 24 rv) := by show Blk _ _ _ _; rw [← hB]; exact (Blk.new _ _ _).keeps hk0 id
    have HK1 : Hid (Keeps (fun _ => False) w w1) := (((Keeps.refl _ _).alloc _).trans hk0)
    rw [hB]
    clear hB hk0 HB1
    go_upto_region 6 with (first
      | (go_at_call 9; refine (HCN.out _ HK1.out).mono ?_; rintro e w2 ⟨rfl, hk2⟩; have HBB2 := Lib.hid (HBB1.out.keeps hk2 id); have HK2 := Lib.hid (HK1.out.trans hk2); clear hk2 HBB1 HK1)
      | ((with_reducible refine st_row (Blk.new _ 24 Z) HCSI.out HZC.out HCS1.out ?_ ?_ ?_); rfl; rfl))
    obtain ⟨C, hC⟩ : ∃ C, w2.heap.size = C := ⟨_, rfl⟩
    have h1 : Blk ((w2.alloc (.cells Z 24)).setRow w2.heap.size cs) w2.heap.size 24 cs := new_put
    have h2 := Blk.put_new (old := Z) (t := 24) (cs := cs) HBB2.out
    have h3 := Keeps.put_new (old := Z) (t := 24) (cs := cs) HK2.out
    generalize (w2.alloc (.cells Z 24)).setRow w2.heap.size cs = W3 at h1 h2 h3 ⊢
    rw [hC] at h1 ⊢
    have HBC3 := Lib.hid h1
    have HBB3 := Lib.hid h2
    have HK3 := Lib.hid h3
    clear hC h1 h2 h3 HBB2 HK2
    go_upto_region 7 with (first
      | (go_at_call 10; refine (HSC.out _).mono ?_; rintro e w4 ⟨rfl, hk2⟩; have HBB4 := Lib.hid (HBB3.out.keeps hk2 id); have HBC4 := Lib.hid (HBC3.out.keeps hk2 id); have HK4 := Lib.hid (HK3.out.trans hk2); clear hk2 HBB3 HBC3 HK3)
      | ((with_reducible refine ld_row HBC3.out Try.underlying24 HCSI.out ?_ ?_); rfl)
      | ((with_reducible refine st_row (Blk.new _ 27 Z) HVT.out HZV.out HV1.out ?_ ?_ ?_); rfl; rfl))
    obtain ⟨T, hT⟩ : ∃ T, w4.heap.size = T := ⟨_, rfl⟩
    have h1 : Blk ((w4.alloc (.cells Z 27)).setRow w4.heap.size v) w4.heap.size 27 v := new_put
    have h2 := Blk.put_new (old := Z) (t := 27) (cs := v) HBB4.out
    have h2c := Blk.put_new (old := Z) (t := 27) (cs := v) HBC4.out
    have h3 := Keeps.put_new (old := Z) (t := 27) (cs := v) HK4.out
    generalize (w4.alloc (.cells Z 27)).setRow w4.heap.size v = W5 at h1 h2 h2c h3 ⊢
    rw [hT] at h1 ⊢
    have HBT5 := Lib.hid h1
    have HBB5 := Lib.hid h2
    have HBC5 := Lib.hid h2c
    have HK5 := Lib.hid h3
    clear hT h1 h2 h2c h3 HBB4 HBC4 HK4
    go_upto_region 8 with (first
      | (go_at_call 11; refine (HRS.out _).mono ?_; rintro e w6 ⟨rfl, hk2⟩; have HBB6 := Lib.hid (HBB5.out.keeps hk2 id); have HBT6 := Lib.hid (HBT5.out.keeps hk2 id); have HK6 := Lib.hid (HK5.out.trans hk2); clear hk2 HBB5 HBC5 HBT5 HK5)
      | ((with_reducible refine ld_row HBC5.out Try.underlying24 HCSI.out ?_ ?_); rfl)
      | ((with_reducible refine st_row (Blk.new _ 24 Z) HVA.out HZV.out HV1.out ?_ ?_ ?_); rfl; rfl))
    obtain ⟨U, hU⟩ : ∃ U, w6.heap.size = U := ⟨_, rfl⟩
    have h1 : Blk ((w6.alloc (.cells Z 24)).setRow w6.heap.size v) w6.heap.size 24 v := new_put
    have h2 := Blk.put_new (old := Z) (t := 24) (cs := v) HBB6.out
    have h2c := Blk.put_new (old := Z) (t := 24) (cs := v) HBT6.out
    have h3 := Keeps.put_new (old := Z) (t := 24) (cs := v) HK6.out
    generalize (w6.alloc (.cells Z 24)).setRow w6.heap.size v = W7 at h1 h2 h2c h3 ⊢
    rw [hU] at h1 ⊢
    have HBU7 := Lib.hid h1
    have HBB7 := Lib.hid h2
    have HBT7 := Lib.hid h2c
    have HK7 := Lib.hid h3
    clear hU h1 h2 h2c h3 HBB6 HBT6 HK6
    have heq := HEQ.out
    go_cut [63] from 39 to 63 (fun x wx => x = .bool false ∧ Hid (Blk wx B 24 rv ∧ Keeps (fun _ => False) w wx))
    case first =>
      cases b with
      | true =>
        have HC1 := Lib.hid (HCH.out rfl)
        go_wp2_with (first
          | (go_at_call 12; refine (HC1.out _).mono ?_; rintro e w8 ⟨rfl, hw8⟩; have HK8 : Hid (Keeps (fun _ => False) W7 w8) := (by show Keeps _ _ _; rw [hw8]; exact (Keeps.refl _ _).alloc _); clear hw8)
          | ((with_reducible refine ld_row_g HBT7.out Try.underlying27 HVT.out ?_ ?_ ?_); rfl; rfl)
          | ((with_reducible refine ld_row_g HBU7.out Try.underlying24 HVA.out ?_ ?_ ?_); rfl; rfl))
        go_meet
        case rel => exact ⟨rfl, Lib.hid ⟨HBB7.out.keeps HK8.out id, HK7.out.trans HK8.out⟩⟩
      | false =>
        have hvz := HVZ.out rfl
        subst hvz
        go_wp2_with (first
          | ((with_reducible refine ld_row_g HBT7.out Try.underlying27 HVT.out ?_ ?_ ?_); rfl; rfl)
          | ((with_reducible refine ld_row_g HBU7.out Try.underlying24 HVA.out ?_ ?_ ?_); rfl; rfl))
        go_meet
        case rel => exact ⟨rfl, Lib.hid ⟨HBB7.out, HK7.out⟩⟩
    case rest =>
      obtain ⟨rfl, HH⟩ := hcut
      have HBB := Lib.hid HH.out.1
      have HK := Lib.hid HH.out.2
      clear HH HBU7 HBB7 HBT7 HK7 heq HSC HRS HCN HEQ HCH HVZ HCSI HCS1 HZC HVT HVA HV1 HZV
      go_wp2_with ((with_reducible refine ld_row HBB.out Try.underlying24 HRI.out ?_ ?_); rfl)
      go_loopw [12, 65] (fun s i wr => ∃ (d : Nat) (bd : Bool), d ≤ 256 ∧ s = .bool bd ∧ i = .int .i64 (d : Int) ∧ wr = wc ∧ Hid (bd = true ↔ ¬ InR (z2.take d))) (fun _ i _ => 256 - (intOf i).toNat)
      case atStart => exact ⟨0, false, by omega, rfl, rfl, rfl, Lib.hid (by simp [InR])⟩
      case round =>
        obtain ⟨d, bd, hd, rfl, rfl, rfl, HBD⟩ := hrel
        by_cases hlt : d < 256
        · obtain ⟨x, hx⟩ : ∃ x, z2.getD d 0 = x := ⟨_, rfl⟩
          have hgd : ∀ w, (Instr.index 24 (.agg rv) (.int .i64 (d : Int))).run Try.prog w = .ok (.int .i64 x) w := run_idx 24 256 Try.underlying24 rv .i64 d _ hlt (by rw [HRG.out d hlt, hx])
          have hd1 : (d : Int) < 256 := by omega
          have HX := Lib.hid hx
          have HDL : Hid (d < z2.length) := by show _ < _; rw [HRL.out]; exact hlt
          clear hx
          cases bd with
          | true =>
            have HN : Hid (¬ InR (z2.take (d + 1))) := fun h => (HBD.out.1 rfl) (inR_take h)
            go_wp2_with fail
            exact ⟨⟨d + 1, true, by omega, rfl, by go_num, trivial, Lib.hid ⟨fun _ => HN.out, fun _ => rfl⟩⟩, by simp [intOf]; omega⟩
          | false =>
            have HI : Hid (InR (z2.take d)) := by
              show InR _
              by_cases h : InR (z2.take d)
              · exact h
              · exact absurd (HBD.out.2 h) (by simp)
            by_cases h0 : x < 0
            · have HN : Hid (¬ InR (z2.take (d + 1))) := fun h => by have := inR_last HDL.out h; rw [HX.out] at this; omega
              go_wp2_with fail
              exact ⟨⟨d + 1, true, by omega, rfl, by go_num, trivial, Lib.hid ⟨fun _ => HN.out, fun _ => rfl⟩⟩, by simp [intOf]; omega⟩
            · by_cases h1 : 2147483647 < x
              · have HN : Hid (¬ InR (z2.take (d + 1))) := fun h => by have := inR_last HDL.out h; rw [HX.out] at this; omega
                go_wp2_with fail
                exact ⟨⟨d + 1, true, by omega, rfl, by go_num, trivial, Lib.hid ⟨fun _ => HN.out, fun _ => rfl⟩⟩, by simp [intOf]; omega⟩
              · have HN : Hid (InR (z2.take (d + 1))) := HI.out.next HDL.out (by rw [HX.out]; omega)
                go_wp2_with fail
                exact ⟨⟨d + 1, false, by omega, rfl, by go_num, trivial, Lib.hid ⟨fun h => absurd h (by simp), fun h => absurd HN.out h⟩⟩, by simp [intOf]; omega⟩
        · obtain rfl : d = 256 := by omega
          have HBI : Hid (bd = true ↔ ¬ InR z2) := by have := HBD.out; rwa [List.take_of_length_le (by rw [HRL.out]; omega)] at this
          obtain ⟨v3, hv3⟩ : ∃ v3, vs (if InR z2 ∧ z2.sum ≠ 0 then scal z2 else zs) = v3 := ⟨_, rfl⟩
          obtain ⟨b3, hb3⟩ : ∃ b3, decide (InR z2 ∧ z2.sum ≠ 0) = b3 := ⟨_, rfl⟩
          have HS3 : Hid (∀ w, Calls Try.prog 10 #[.agg rv] w fun r w' => r = .returned (.tuple #[.agg v3, .bool b3]) ∧ Keeps (fun _ => False) w w') := by
            refine Lib.hid fun w => ?_
            rw [← HRV.out, ← hv3, ← hb3]
            exact scaled z2 w HRL.out
          have HB3 : Hid (bd = true → b3 = false) := fun h => by rw [← hb3]; exact decide_eq_false fun h2 => HBI.out.1 h h2.1
          have hl3 : (if InR z2 ∧ z2.sum ≠ 0 then scal z2 else zs).length = 256 := by
            split
            · next h => exact (scal_ok HRL.out h.1).1
            · exact zs_len
          have HVT : Hid ((Try.prog.info? 27).map (·.size) = some v3.size) := by show _ = _; rw [← hv3]; exact tab_size hl3
          have HV1 : Hid (v3.all (·.oneCell') = true) := by show _ = _; rw [← hv3]; exact vs_one _
          have HZV : Hid (Z.size = v3.size) := by show _ = _; rw [← hv3, ← HZS.out, vs_size, vs_size, zs_len, hl3]
          clear hv3 hb3 hl3 HBD hlt HBI
          go_upto_region 17 with (first
            | (go_at_call 10; refine (HS3.out _).mono ?_; rintro e w8 ⟨rfl, hk2⟩; have HK8 := Lib.hid (HK.out.trans hk2); clear hk2 HK)
            | ((with_reducible refine ld_row HBB.out Try.underlying24 HRI.out ?_ ?_); rfl)
            | ((with_reducible refine st_row (Blk.new _ 27 Z) HVT.out HZV.out HV1.out ?_ ?_ ?_); rfl; rfl))
          have h3 := Keeps.put_new (old := Z) (t := 27) (cs := v3) HK8.out
          generalize (w8.alloc (.cells Z 27)).setRow w8.heap.size v3 = W9 at h3 ⊢
          have HK9 := Lib.hid h3
          clear h3 HK8 HVT HV1 HZV
          go_cut [86] from 83 to 86 (fun x wx => x = .bool false ∧ wx = W9)
          case first =>
            cases bd with
            | true =>
              have hb3 := HB3.out rfl
              subst hb3
              go_wp2_with fail
              go_meet
              case rel => exact ⟨rfl, rfl⟩
            | false =>
              go_wp2_with fail
              go_meet
              case rel => exact ⟨rfl, rfl⟩
          case rest =>
            obtain ⟨rfl, rfl⟩ := hcut
            obtain ⟨c2, hc2⟩ : ∃ c2, cnt xs (fun _ => 1) len0 = c2 := ⟨_, rfl⟩
            have HCL2 : Hid (c2.length = 256) := by show _ = _; rw [← hc2]; exact cnt_len _ _ _
            have HCR2 : Hid (InR c2) := by show InR c2; rw [← hc2]; exact cnt_inR _ _ (fun _ => by omega) _ (by omega)
            obtain ⟨cs2, hcs2⟩ : ∃ cs2, vs c2 = cs2 := ⟨_, rfl⟩
            obtain ⟨v2, hv2⟩ : ∃ v2, vs (res c2) = v2 := ⟨_, rfl⟩
            obtain ⟨b2, hb2⟩ : ∃ b2, decide (c2.sum ≠ 0) = b2 := ⟨_, rfl⟩
            have HRS := Lib.hid (rscaled_res HCL2.out HCR2.out hcs2 hv2 hb2)
            have HOF : Hid (∀ w1, Keeps (fun _ => False) w w1 → Calls Try.prog 13 #[.slice a0 len0 cap0] w1 fun r w' => r = .returned (.tuple #[.agg v2, .bool b2]) ∧ Keeps (fun _ => False) w1 w') := by
              refine Lib.hid fun w1 hk => ?_
              refine (of_ a0 len0 cap0 xs w1 HXL.out (HL0.out.keeps hk fun _ _ _ => id) (by omega) HBX.out).mono fun r w' ⟨h1, h2⟩ => ⟨?_, h2⟩
              rw [h1, hc2, ← hv2, ← hb2, res]
              simp only [HCR2.out, true_and]
            have HCN2 : Hid (∀ w1, Keeps (fun _ => False) w w1 → Calls Try.prog 9 #[.slice a0 len0 cap0, .slice none 0 0] w1 fun r w' => r = .returned (.agg cs2) ∧ Keeps (fun _ => False) w1 w') := by
              refine Lib.hid fun w1 hk => ?_
              rw [← hcs2, ← hc2, ← am_none]
              exact counts a0 len0 cap0 xs none 0 0 [] w1 HXL.out (HL0.out.keeps hk fun _ _ _ => id) (by omega) HBX.out (More.none_ _)
            have hrl := res_len HCL2.out HCR2.out
            have HVT : Hid ((Try.prog.info? 27).map (·.size) = some v2.size) := by show _ = _; rw [← hv2]; exact tab_size hrl
            have HVA : Hid ((Try.prog.info? 24).map (·.size) = some v2.size) := by show _ = _; rw [← hv2]; exact arr_size hrl
            have HV1 : Hid (v2.all (·.oneCell') = true) := by show _ = _; rw [← hv2]; exact vs_one _
            have HZV : Hid (Z.size = v2.size) := by show _ = _; rw [← hv2, ← HZS.out, vs_size, vs_size, zs_len, hrl]
            have HEQ : Hid (∀ w, (Op.equalIn 10000 27 (.agg v2) (.agg v2)).run Try.prog w = .ok true w) := fun w => run_eq 27 Try.underlying27 (res c2) (res c2) v2 v2 true hv2 hv2 hrl hrl (by simp) w
            clear hc2 hcs2 hv2 hb2 hrl HS3 HB3
            go_upto_region 20 with (first
              | (go_at_call 13; refine (HOF.out _ HK9.out).mono ?_; rintro e w10 ⟨rfl, hk2⟩; have HK10 := Lib.hid (HK9.out.trans hk2); clear hk2 HK9)
              | ((with_reducible refine st_row (Blk.new _ 27 Z) HVT.out HZV.out HV1.out ?_ ?_ ?_); rfl; rfl))
            obtain ⟨T2, hT2⟩ : ∃ T2, w10.heap.size = T2 := ⟨_, rfl⟩
            have h1 : Blk ((w10.alloc (.cells Z 27)).setRow w10.heap.size v2) w10.heap.size 27 v2 := new_put
            have h3 := Keeps.put_new (old := Z) (t := 27) (cs := v2) HK10.out
            generalize (w10.alloc (.cells Z 27)).setRow w10.heap.size v2 = W11 at h1 h3 ⊢
            rw [hT2] at h1 ⊢
            have HB11 := Lib.hid h1
            have HK11 := Lib.hid h3
            clear hT2 h1 h3 HK10
            go_upto_region 21 with (first
              | (go_at_call 9; refine (HCN2.out _ HK11.out).mono ?_; rintro e w12 ⟨rfl, hk2⟩; have HK12 := Lib.hid (HK11.out.trans hk2); have HB12 := Lib.hid (HB11.out.keeps hk2 id); clear hk2 HK11 HB11)
              | (go_at_call 11; refine (HRS.out _).mono ?_; rintro e w13 ⟨rfl, hk2⟩; have HK13 := Lib.hid (HK12.out.trans hk2); have HB13 := Lib.hid (HB12.out.keeps hk2 id); clear hk2 HK12 HB12)
              | ((with_reducible refine st_row (Blk.new _ 24 Z) HVA.out HZV.out HV1.out ?_ ?_ ?_); rfl; rfl))
            obtain ⟨U2, hU2⟩ : ∃ U2, w13.heap.size = U2 := ⟨_, rfl⟩
            have h1 : Blk ((w13.alloc (.cells Z 24)).setRow w13.heap.size v2) w13.heap.size 24 v2 := new_put
            have h2 := Blk.put_new (old := Z) (t := 24) (cs := v2) HB13.out
            have h3 := Keeps.put_new (old := Z) (t := 24) (cs := v2) HK13.out
            generalize (w13.alloc (.cells Z 24)).setRow w13.heap.size v2 = W14 at h1 h2 h3 ⊢
            rw [hU2] at h1 ⊢
            have HU14 := Lib.hid h1
            have HT14 := Lib.hid h2
            have HK14 := Lib.hid h3
            have heq := HEQ.out
            clear hU2 h1 h2 h3 HB13 HK13
            cases b2 with
            | true =>
              go_wp2_with (first
                | ((with_reducible refine ld_row_g HT14.out Try.underlying27 HVT.out ?_ ?_ ?_); rfl; rfl)
                | ((with_reducible refine ld_row_g HU14.out Try.underlying24 HVA.out ?_ ?_ ?_); rfl; rfl))
              go_ret
              exact ⟨rfl, HK14.out.below (Nat.le_refl _) (fun _ h => h.elim)⟩
            | false =>
              go_wp2_with fail
              go_ret
              exact ⟨rfl, HK14.out.below (Nat.le_refl _) (fun _ h => h.elim)⟩

set_option maxRecDepth 100000 in
theorem lifted (os : Os) (started : os.Started) (H : Type) (enc : TypeId × Value → H) :
    ReturnsInHanded {} Try.checked os 3 .any (Rows.freqScalesSpec.pre6 enc Try.prog Try.f3 Rows.freqScalesRow.domain false) (Rows.freqScalesSpec.post enc Try.prog Try.f3 false true false false) := by
  refine returnsInHanded_of_change (C := Try.checked) own started (by kernel_rfl) Try.func3
    (ChangeSpec.witness6 (enc := enc) (C := Try.checked) false ⟨#[], #[.slice none 0 0, .slice none 0 0, .agg (Array.replicate 256 (.int .i64 0))], []⟩ 8 (by kernel_rfl) (by kernel_rfl) (by kernel_rfl) (by kernel_rfl)) ?_
  intro W base args ds gs before hval0 hW hcnd _
  have hval : ∀ (j : Nat) t v, Try.f3.params[j]? = some t → args[j]? = some v → Value.okWide Try.prog W .any base t v := hval0
  have hW' := hW
  obtain ⟨p, q, hA0, hV, rfl, hfz, hnd⟩ := hW
  have hA : DataW.TrodAll enc Try.prog W 0 (fun _ => true) true Try.f3.params.toList args.toList ds p := hA0
  rw [Try.params3] at hA hval
  obtain ⟨v0, vs0, d0, ds0, p0, q0, hargs, rfl, rfl, h0, r0⟩ := trodAll_cons hA
  obtain ⟨v1, vs1, d1, ds1, p1, q1, rfl, rfl, rfl, h1, r1⟩ := trodAll_cons r0
  obtain ⟨v2, vs2, d2, ds2, p2, q2, rfl, rfl, rfl, h2, r2⟩ := trodAll_cons r1
  obtain ⟨rfl, rfl, rfl⟩ := trodAll_nil r2
  obtain rfl : args = #[v0, v1, v2] := by cases args; simp_all
  obtain ⟨rfl, rfl⟩ := trodVars_none hV
  obtain ⟨a0, len0, cap0, rfl⟩ := okWide_slice Try.underlying22 (hval 0 22 v0 rfl rfl)
  have k0 := h0
  have lt0 : ∀ x ∈ p0, x.block < W.heap.size := by obtain ⟨m, hm⟩ := k0; exact DataW.trod_lt m _ _ _ hm
  obtain ⟨z0, w0⟩ : ∃ zs, IsRow .u8 W a0 len0 cap0 zs := by
    obtain ⟨fuel, hf⟩ := h0
    exact open_row Try.underlying22 Try.underlying5 (by kernel_rfl) hf
  obtain ⟨a1, len1, cap1, rfl⟩ := okWide_slice Try.underlying23 (hval 1 23 v1 rfl rfl)
  have k1 := h1
  have lt1 : ∀ x ∈ p1, x.block < W.heap.size := by obtain ⟨m, hm⟩ := k1; exact DataW.trod_lt m _ _ _ hm
  obtain ⟨z1, w1⟩ : ∃ zs, IsRow .u16 W a1 len1 cap1 zs := by
    obtain ⟨fuel, hf⟩ := h1
    exact open_row Try.underlying23 Try.underlying52 (by kernel_rfl) hf
  obtain ⟨cs2, rfl, hs2⟩ := okw_arr Try.underlying24 (by kernel_rfl) (hval 2 24 v2 rfl rfl)
  have k2 := h2
  have lt2 : ∀ x ∈ p2, x.block < W.heap.size := by obtain ⟨m, hm⟩ := k2; exact DataW.trod_lt m _ _ _ hm
  obtain ⟨z2, w2, hz2⟩ : ∃ zs : List Int, (zs.length = 256 ∧ ∀ x ∈ zs, (Lit.int .i64 x).wf = true) ∧ cs2 = (zs.map (Value.int .i64)).toArray := by
    obtain ⟨fuel, hf⟩ := h2
    exact open_arr Try.underlying24 Try.underlying3 (by kernel_rfl) hs2 hf
  subst hz2
  clear hA0 hval0
  refine (walk a0 len0 cap0 z0 a1 len1 cap1 z1 z2 W w0 w1 w2).mono fun e W' ⟨he, bel⟩ => ?_
  subst he
  exact ⟨_, rfl, _, _, _, [], _, [], hW', trodAll_mk1 (shut_bool Try.underlying4 _), (trodAll_cons_mk (Below.trod laidOut (by kernel_rfl) (of_decide_eq_true (by kernel_rfl)) k0 bel lt0) (trodAll_cons_mk (Below.trod laidOut (by kernel_rfl) (of_decide_eq_true (by kernel_rfl)) k1 bel lt1) (trodAll_cons_mk (Below.trod laidOut (by kernel_rfl) (of_decide_eq_true (by kernel_rfl)) k2 bel lt2) trodAll_mk0))), rfl, bel.frame _, fun h => by cases h⟩

theorem over : Rows.freqScalesRow.holds Try.pinned (OpenSpec.ofChange Rows.freqScalesSpec) :=
  OpenClaim.holds_of_wide 3 Try.f3 rfl rfl rfl rfl rfl rfl rfl ⟨rfl, rfl, rfl, rfl, rfl⟩ rfl rfl rfl rfl rfl (by kernel_rfl) Try.func3 (by kernel_rfl)
    (of_decide_eq_true (by kernel_rfl)) (by unfold Func.isWrapper; first | (rw [if_pos (by decide +kernel)]; kernel_rfl) | (rw [if_neg (by decide +kernel)]; exact ⟨rfl, rfl⟩))
    (fun os started H enc _ => lifted os started H enc)

/-- The statement, as given. -/
theorem proved : Rows.FreqScalesSaid :=
  over
end Go.Proofs.Ytjidgiobnlolpaa.freqScales
namespace Go.Proofs.Ytjidgiobnlolpaa
/-- The statement, as given. -/
theorem freqScales_holds : Rows.FreqScalesSaid := freqScales.proved
#print axioms freqScales_holds
end Go.Proofs.Ytjidgiobnlolpaa
