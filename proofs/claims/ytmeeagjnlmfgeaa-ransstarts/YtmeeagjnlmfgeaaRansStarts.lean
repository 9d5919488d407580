/- The statement RansStarts (P7.1: four states as words, and back; those that may not be; bytes the other way round) holds for every input: the Go function answers true, and its arguments read as before. No conditions beyond the row's own. -/
import Derived.Test.YtmeeagjnlmfgeaaRows
import Derived.WalkKit
import Derived.ProofKit
import Derived.OpenShut
import Derived.ShutString
import Derived.ChangeOld
import Derived.Below
import Derived.Test.YtmeeagjnlmfgeaaAwake7
import Derived.Test.YtmeeagjnlmfgeaaRnWord
import Derived.Outline
import Derived.RegionTactic
import Derived.BigQuiet
import Derived.Lib.Strings
import Derived.Laws.Concat
import Derived.Deep.Slices
import Derived.Deep.SlicePairs
namespace Go.Proofs.Ytmeeagjnlmfgeaa.ransStarts
open Go.ChangeShapes Go.WideShapes Go.ChangeAt Go.RowKit Go.Deep
open Go.Proofs.Ytmeeagjnlmfgeaa.Gen Go.Proofs.Ytmeeagjnlmfgeaa.Wr Go.Proofs.Ytmeeagjnlmfgeaa.Ir Go.Proofs.Ytmeeagjnlmfgeaa.Fq Go.Proofs.Ytmeeagjnlmfgeaa.Rp Go.Proofs.Ytmeeagjnlmfgeaa.Rs Go.Proofs.Ytmeeagjnlmfgeaa.Aw7
set_option linter.unusedVariables false

theorem own : ownKnob Try.prog.godebug = none := by kernel_rfl
theorem laidOut : laidOutB Try.prog = true := by kernel_rfl

/-- What the walk is told of a slice of integers that came in: it is nil, or a row of cells that hold zs, each of which fits. -/
def IsRow (k : IntKind) (w : World) (a : Option Addr) (len cap : Nat) (zs : List Int) : Prop :=
  (a = none ∧ len = 0 ∧ cap = 0 ∧ zs = []) ∨
  ∃ x, a = some x ∧ len ≤ cap ∧ cap ≤ maxLen ∧ zs.length = cap ∧ (∀ i, i < zs.length → w.cell? (x.add i) = some (.int k (zs.getD i 0))) ∧ ∀ n ∈ zs, (Lit.int k n).wf = true
/-- And of a slice of such slices: it is nil, or each of its cells holds one. -/
def IsRows (k : IntKind) (w : World) (a : Option Addr) (len cap : Nat) : Prop :=
  (a = none ∧ len = 0 ∧ cap = 0) ∨
  ∃ x, a = some x ∧ len ≤ cap ∧ cap ≤ maxLen ∧ ∀ i, i < len → ∃ b n c zs, w.cell? (x.add i) = some (.slice b n c) ∧ IsRow k w b n c zs
/-- And of a slice of structs of two integers. -/
def IsPairs (k0 k1 : IntKind) (w : World) (a : Option Addr) (len cap : Nat) (zs : List (Int × Int)) : Prop :=
  (a = none ∧ len = 0 ∧ cap = 0 ∧ zs = []) ∨
  ∃ x, a = some x ∧ len ≤ cap ∧ cap ≤ maxLen ∧ zs.length = cap ∧ ∀ i, i < zs.length → w.cell? (x.add (i * 2)) = some (.int k0 (zs.getD i (0, 0)).1) ∧ w.cell? (x.add (i * 2 + 1)) = some (.int k1 (zs.getD i (0, 0)).2) ∧ (Lit.int k0 (zs.getD i (0, 0)).1).wf = true ∧ (Lit.int k1 (zs.getD i (0, 0)).2).wf = true
section
variable {H : Type} {enc : TypeId × Value → H} {W : World}
theorem open_pairs {t e : TypeId} {k0 k1 : IntKind} {f0 f1 : Field} {fuel : Nat} {a : Option Addr} {len cap : Nat} {x : DataW H × List MemPlace} (ht : Try.prog.underlying t = some (.slice e)) (he : Try.prog.underlying e = some (.struct #[f0, f1])) (h0 : Try.prog.underlying f0.type = some (.int k0)) (h1 : Try.prog.underlying f1.type = some (.int k1))
    (ce : Try.prog.cellsOf e = 2) (o0 : f0.offset = 0) (o1 : f1.offset = 1) (c0 : Try.prog.cellsOf f0.type = 1) (c1 : Try.prog.cellsOf f1.type = 1)
    (hf : DataW.trod enc Try.prog W 0 (fun _ => true) true fuel t (Value.slice a len cap).cells.toList = some x) : ∃ zs, IsPairs k0 k1 W a len cap zs := by
  rcases open_slice_pairs ht he ce o0 o1 c0 c1 hf with ⟨hcs, _⟩ | ⟨y, l, c, m, n, V0, V1, D0, D1, P0, P1, hcs, _, hl, hm, hmm, _, hi⟩
  · simp [Value.cells] at hcs
    obtain ⟨rfl, rfl, rfl⟩ := hcs
    exact ⟨[], .inl ⟨rfl, rfl, rfl, rfl⟩⟩
  · simp [Value.cells] at hcs
    obtain ⟨rfl, rfl, rfl⟩ := hcs
    simp only [if_true] at hmm
    refine ⟨(List.range cap).map fun i => (intOf (V0 i), intOf (V1 i)), .inr ⟨y, rfl, hl, hm, by simp, fun i hil => ?_⟩⟩
    have hic : i < cap := by simpa using hil
    obtain ⟨g0, g1, g2, g3⟩ := hi i (by omega)
    obtain ⟨n0, e0, _, w0⟩ := DataW.trod_int h0 g2
    obtain ⟨n1, e1, _, w1⟩ := DataW.trod_int h1 g3
    injection e0 with e0
    injection e1 with e1
    rw [e0] at g0
    rw [e1] at g1
    have hz : ((List.range cap).map fun i => (intOf (V0 i), intOf (V1 i))).getD i (0, 0) = (n0, n1) := by
      simp [List.getD_eq_getElem?_getD, hic, e0, e1, intOf]
    rw [hz]
    exact ⟨g0, g1, w0, w1⟩
theorem okw_arr {t e : TypeId} {n : Nat} {r : Reach} {base : Nat} {v : Value} (ht : Try.prog.underlying t = some (.array n e)) (hc : Try.prog.cellsOf t = n) (h : Value.okWide Try.prog W r base t v) : ∃ cs : Array Value, v = .agg cs ∧ cs.size = n := by
  simp only [Value.okWide, ht] at h
  obtain ⟨cs, h1, h2, _⟩ := h
  exact ⟨cs, h1, by rw [h2, hc]⟩
theorem open_arr {t e : TypeId} {k : IntKind} {n fuel : Nat} {cs : Array Value} {x : DataW H × List MemPlace} (ht : Try.prog.underlying t = some (.array n e)) (he : Try.prog.underlying e = some (.int k)) (ce : Try.prog.cellsOf e = 1) (hn : cs.size = n)
    (hf : DataW.trod enc Try.prog W 0 (fun _ => true) true fuel t (Value.agg cs).cells.toList = some x) : ∃ zs : List Int, (zs.length = n ∧ ∀ z ∈ zs, (Lit.int k z).wf = true) ∧ cs = (zs.map (Value.int k)).toArray := by
  obtain ⟨xs, m, _, _, _, hx, hi⟩ := DataW.trod_array ht hf
  have hall : ∀ i, i < n → ∃ z, cs[i]? = some (.int k z) ∧ (Lit.int k z).wf = true := by
    intro i hin
    have h1 := hi i hin
    rw [List.getElem?_eq_getElem (by omega), ce, Nat.mul_one] at h1
    obtain ⟨z, e1, _, wz⟩ := DataW.trod_int he h1
    refine ⟨z, ?_, wz⟩
    have h2 : (((Value.agg cs).cells.toList.drop i).take 1)[0]? = some (Value.int k z) := by rw [e1]; rfl
    simpa [List.getElem?_take, List.getElem?_drop, Value.cells] using h2
  refine ⟨cs.toList.map intOf, ⟨by simpa using hn, fun z hz => ?_⟩, ?_⟩
  · simp only [List.mem_map] at hz
    obtain ⟨u, hu, rfl⟩ := hz
    obtain ⟨i, hil, rfl⟩ := List.getElem_of_mem hu
    obtain ⟨z, hz, wz⟩ := hall i (by simpa [hn] using hil)
    have : cs.toList[i] = .int k z := by
      have h3 : cs.toList[i]? = some (.int k z) := by simpa using hz
      rw [List.getElem?_eq_getElem hil] at h3
      exact Option.some.inj h3
    rw [this]
    exact wz
  · apply Array.ext_getElem?
    intro i
    by_cases hin : i < n
    · obtain ⟨z, hz, _⟩ := hall i hin
      rw [hz]
      simp [hz, intOf]
    · rw [Array.getElem?_eq_none (by omega), Array.getElem?_eq_none (by simp; omega)]
theorem open_row {t e : TypeId} {k : IntKind} {fuel : Nat} {a : Option Addr} {len cap : Nat} {x : DataW H × List MemPlace} (ht : Try.prog.underlying t = some (.slice e)) (he : Try.prog.underlying e = some (.int k)) (h1 : Try.prog.cellsOf e = 1)
    (hf : DataW.trod enc Try.prog W 0 (fun _ => true) true fuel t (Value.slice a len cap).cells.toList = some x) : ∃ zs, IsRow k W a len cap zs := by
  rcases open_ints ht he h1 hf with ⟨hcs, _⟩ | ⟨x, l, c, zs, hcs, _, hl, hm, hz, _, hcell, hwz⟩
  · simp [Value.cells] at hcs
    obtain ⟨rfl, rfl, rfl⟩ := hcs
    exact ⟨[], .inl ⟨rfl, rfl, rfl, rfl⟩⟩
  · simp [Value.cells] at hcs
    obtain ⟨rfl, rfl, rfl⟩ := hcs
    exact ⟨zs, .inr ⟨_, rfl, hl, hm, by simpa using hz, hcell, hwz⟩⟩
theorem open_rows {t e g : TypeId} {k : IntKind} {fuel : Nat} {a : Option Addr} {len cap : Nat} {x : DataW H × List MemPlace} (ht : Try.prog.underlying t = some (.slice e)) (he : Try.prog.underlying e = some (.slice g)) (hg : Try.prog.underlying g = some (.int k)) (h1 : Try.prog.cellsOf e = 1) (h2 : Try.prog.cellsOf g = 1)
    (hf : DataW.trod enc Try.prog W 0 (fun _ => true) true fuel t (Value.slice a len cap).cells.toList = some x) : IsRows k W a len cap := by
  rcases open_slice ht hf with ⟨hcs, _⟩ | ⟨x, l, c, m, n, D, Pl, hcs, _, hl, hm, hmm, _, hi⟩
  · simp [Value.cells] at hcs
    obtain ⟨rfl, rfl, rfl⟩ := hcs
    exact .inl ⟨rfl, rfl, rfl⟩
  · simp [Value.cells] at hcs
    obtain ⟨rfl, rfl, rfl⟩ := hcs
    refine .inr ⟨x, rfl, hl, hm, fun i hil => ?_⟩
    simp only [if_true] at hmm
    obtain ⟨cs, hc, htr⟩ := hi i (by omega)
    rw [h1, Nat.mul_one] at hc
    obtain ⟨_, hlen, hat⟩ := World.cells?_some hc
    have h0 := hat 0 (by omega)
    have ha0 : (x.add i).add 0 = x.add i := by rw [Go.Deep.add_add]; rfl
    rw [ha0] at h0
    rcases open_ints he hg h2 htr with ⟨hcs, _⟩ | ⟨y, l', c', zs, hcs, _, hl', hm', hz, _, hcell, hwz⟩
    · subst hcs
      exact ⟨none, 0, 0, [], by simpa using h0, .inl ⟨rfl, rfl, rfl, rfl⟩⟩
    · subst hcs
      exact ⟨some y, l', c', zs, by simpa using h0, .inr ⟨y, rfl, hl', hm', by simpa using hz, hcell, hwz⟩⟩
end
theorem raw_size {l : List Nat} (h : l.length = 4) : (Try.prog.info? 46).map (·.size) = some (us l).size := by
  rw [us_size, h]
  kernel_rfl
theorem run_idxr (cs : Array Value) (k : IntKind) (j : Nat) (v : Value) (hj : j < 4) (hv : cs[j]? = some v) (w : World) :
    (Instr.index 46 (.agg cs) (.int k (j : Int))).run Try.prog w = .ok v w := by
  have ht : Try.prog.underlying 46 = some (.array 4 31) := Try.underlying46
  have h1 : (0 : Int) ≤ (j : Int) ∧ (j : Int) < ((4 : Nat) : Int) := ⟨by omega, by omega⟩
  have hag : (isAgg 31).run Try.prog w = .ok false w := by simp [isAgg, Try.underlying31, go_sem]
  have hsz : (sizeOf 31).run Try.prog w = .ok 1 w := by simp [go_sem]
  simp [Instr.index, asIntOf, run_underlying ht, h1.1, part, hag, hsz, hv, Result.andThen]
  intro h; omega
theorem str_size (xs : List Int) : (strOfNums xs).size = xs.length := by simp [strOfNums, ByteArray.size]
theorem raw_us {z : List Int} (h : ∀ x ∈ z, 0 ≤ x ∧ x < 4294967296) : (z.map (Value.int .u32)).toArray = us (z.map Int.toNat) := by
  unfold us
  rw [List.map_map]
  congr 1
  refine List.map_congr_left fun x hx => ?_
  have := h x hx
  simp only [Function.comp_apply]
  congr 1
  omega
set_option maxHeartbeats 8000000 in
set_option maxRecDepth 100000 in
theorem walk (z0 : List Int) (a1 : Option Addr) (len1 cap1 : Nat) (z1 : List Int) (w : World) (w0 : z0.length = 4 ∧ ∀ x ∈ z0, (Lit.int .u32 x).wf = true) (w1 : IsRow .u8 w a1 len1 cap1 z1) :
    Calls Try.prog 5 #[.agg (z0.map (Value.int .u32)).toArray, .slice a1 len1 cap1] w fun e w' => e = .returned (.bool true) ∧ Below w.heap.size w w' := by
  obtain ⟨hzl, hzw⟩ := w0
  have hzb : ∀ x ∈ z0, 0 ≤ x ∧ x < 4294967296 := fun x hx => by
    have hm : IntKind.u32.min = 0 ∧ IntKind.u32.max = 4294967295 := by decide
    have := hzw x hx
    simp only [Lit.wf, hm.1, hm.2, Bool.and_eq_true, decide_eq_true_eq] at this
    omega
  rw [raw_us hzb]
  obtain ⟨ns, hns⟩ : ∃ ns, z0.map Int.toNat = ns := ⟨_, rfl⟩
  have hnl : ns.length = 4 := by rw [← hns, List.length_map]; exact hzl
  have hnb : ∀ x ∈ ns, x < 4294967296 := by
    intro x hx
    rw [← hns, List.mem_map] at hx
    obtain ⟨y, hy, rfl⟩ := hx
    have := hzb y hy
    omega
  rw [hns]
  have HNL := Lib.hid hnl
  have HNB := Lib.hid hnb
  have HR := Lib.hid (row_lies w1)
  have HRI := Lib.hid (raw_size hnl)
  obtain ⟨U, hU⟩ : ∃ U, us ns = U := ⟨_, rfl⟩
  rw [hU] at HRI ⊢
  have HU := Lib.hid hU
  have hz4 : ∀ w, (zeroValue 48).run Try.prog w = .ok (.agg (us no4)) w := four_zero
  generalize hZ4 : us no4 = Z4 at hz4
  have HZ4 := Lib.hid hZ4
  clear hzl hzw hzb hns hnl hnb w1 hU hZ4
  go_enter Try.func5, Try.ntmps5
  go_upto_region 1 with fail
  have HB0 := Lib.hid (Blk.new w 46 U)
  have HK0 : Hid (Keeps (fun _ => False) w (w.alloc (.cells U 46))) := (Keeps.refl _ _).alloc _
  obtain ⟨RR, hRR⟩ : ∃ RR, w.heap.size = RR := ⟨_, rfl⟩
  generalize w.alloc (.cells U 46) = W0 at HB0 HK0 ⊢
  rw [hRR] at HB0 ⊢
  clear hRR
  go_wp2_with fail
  refine (awake_ _).mono ?_
  rintro e w2 ⟨rfl, hk2⟩
  have HB2 := Lib.hid (HB0.out.keeps hk2 id)
  have HK2 := Lib.hid (HK0.out.trans hk2)
  clear hk2 HB0 HK0
  by_cases hb1 : 100 < len1
  · have hbd : decide ((100 : Int) < (len1 : Int)) = true := by rw [decide_eq_true_iff]; omega
    clear hb1
    go_wp2
    go_ret
    exact ⟨rfl, HK2.out.below (Nat.le_refl _) (fun _ h => h.elim)⟩
  have hbd : decide ((100 : Int) < (len1 : Int)) = false := by rw [decide_eq_false_iff_not]; omega
  have hle1 : len1 ≤ 100 := by omega
  clear hb1
  go_upto_region 8 with fail
  obtain ⟨FF, hFF⟩ : ∃ FF, w2.heap.size = FF := ⟨_, rfl⟩
  have HF3 := Lib.hid (Blk.new w2 48 Z4)
  have HKa : Hid (Keeps (fun _ => False) w2 (w2.alloc (.cells Z4 48))) := (Keeps.refl _ _).alloc _
  generalize w2.alloc (.cells Z4 48) = w3 at HF3 HKa ⊢
  have HFW : Hid (w.heap.size ≤ FF) := by show _ ≤ FF; rw [← hFF]; exact HK2.out.size
  rw [hFF] at HF3 ⊢
  have HB3 := Lib.hid (HB2.out.keeps HKa.out id)
  have HK3 := Lib.hid (HK2.out.trans HKa.out)
  clear hFF HB2 HK2 HKa
  go_wp2_with ((with_reducible refine ld_row HB3.out Try.underlying46 HRI.out ?_ ?_); rfl)
  go_loopw [6, 7, 8, 9, 22] (fun sv bv' _ _ iv' wr => ∃ (d : Nat) (bd : Bool) (sx : ByteArray), sv = .string sx ∧ bv' = .bool bd ∧ iv' = .int .i64 (d : Int) ∧ d ≤ 4 ∧ Hid (sx = strOfNums (wb (ns.take d)) ∧ bd = !((ns.take d).all Inb) ∧ Blk wr FF 48 (us (pad (ns.take d))) ∧ Keeps (fun _ => False) w wr)) (fun _ _ _ _ iv' _ => 4 - (intOf iv').toNat)
  case atStart =>
    refine ⟨0, false, _, rfl, rfl, rfl, by omega, Lib.hid ⟨rfl, by simp, ?_, HK3.out⟩⟩
    show Blk _ _ _ (us no4)
    rw [HZ4.out]
    exact HF3.out
  case round =>
    clear HF3 HB3 HK3
    obtain ⟨d, bd, sx, rfl, rfl, rfl, hd, HH⟩ := hrel
    by_cases hlt : d < 4
    · obtain ⟨n, hn⟩ : ∃ n, ns.getD d 0 = n := ⟨_, rfl⟩
      have hdn : d < ns.length := by rw [HNL.out]; exact hlt
      have hnb : n < 4294967296 := by rw [← hn]; exact HNB.out _ (memD hdn)
      have hix := run_idxr U .i64 d (.int .u32 (n : Int)) hlt (by rw [← HU.out, us_get hdn, hn])
      have htl : (ns.take d).length = d := by simp; omega
      have hcz : wr.cell? ⟨FF, d, none⟩ = some (.int .u32 (((pad (ns.take d)).getD d 0 : Nat) : Int)) := by rw [HH.out.2.2.1.cell, us_get (by rw [pad_len (by omega)]; exact hlt)]
      have hfz := HH.out.2.2.1.frozen d
      have HNX : Hid (Blk (wr.setCell ⟨FF, d, none⟩ (.int .u32 (n : Int))) FF 48 (us (pad (ns.take (d + 1))))) := by
        have := HH.out.2.2.1.setCell d (.int .u32 (n : Int))
        rw [us_set, pad_set htl hlt] at this
        show Blk _ _ _ _
        rw [take_nat hdn, hn]
        exact this
      have HKX : Hid (Keeps (fun _ => False) w (wr.setCell ⟨FF, d, none⟩ (.int .u32 (n : Int)))) := HH.out.2.2.2.setCell (p := ⟨FF, d, none⟩) (.inr HFW.out) _
      have HSX : Hid (sx ++ strOfNums (Ww.lows (n : Int) 4) = strOfNums (wb (ns.take (d + 1)))) := by
        show _ = _
        rw [HH.out.1, take_nat hdn, hn, wb_snoc, str_append]
      have HBX : Hid ((!((ns.take (d + 1)).all Inb)) = (bd || !(Inb n))) := by
        show _ = _
        rw [take_nat hdn, hn, List.all_append, HH.out.2.1]
        simp
      have hadd : ∀ w, (Op.stringOp .add sx (strOfNums (Ww.lows (n : Int) 4))).run Try.prog w = .ok (.string (sx ++ strOfNums (Ww.lows (n : Int) 4))) w := fun w => run_string_add w _ _ (by rw [HH.out.1, str_size, wb_len, htl]; omega) (by rw [str_size, Ww.lows_len]; omega)
      rw [HSX.out] at hadd
      have HWD := Lib.hid (fun W => rword n W hnb)
      have hd0 : (0 : Int) ≤ (d : Int) := by omega
      have hd1 : (d : Int) < 4 := by omega
      generalize ((pad (ns.take d)).getD d 0 : Nat) = zz at hcz
      obtain ⟨sy, hsy⟩ : ∃ sy, strOfNums (wb (ns.take (d + 1))) = sy := ⟨_, rfl⟩
      rw [hsy] at hadd
      have HSY := Lib.hid hsy.symm
      clear hsy
      obtain ⟨W4, hW4⟩ : ∃ W4, wr.setCell ⟨FF, d, none⟩ (.int .u32 (n : Int)) = W4 := ⟨_, rfl⟩
      clear hn hdn hnb htl
      go_upto_region 12 with fail
      rw [hW4] at HNX HKX
      clear hW4 hcz hfz
      go_upto_region 13 with (
        go_at_call 16
        refine (HWD.out _).mono ?_
        rintro e w5 ⟨A5, c5, rfl, ho5, hk5⟩
        have hcv := (Lies.of_own ho5).str_n (P := Try.prog) 4 (Ww.lows_len _ _) 22 9 5 c5 Try.underlying22 Try.underlying5 Try.underlying9
        have HN5 := Lib.hid (HNX.out.keeps hk5 id)
        have HK5 := Lib.hid (HKX.out.trans hk5)
        clear ho5 hk5)
      clear hcv hadd HSX HNX HKX HWD
      cases bd with
      | true =>
        go_wp2_with fail
        exact ⟨⟨d + 1, true, sy, rfl, rfl, by go_num, by omega, Lib.hid ⟨HSY.out, by rw [HBX.out]; rfl, HN5.out, HK5.out⟩⟩, by simp [intOf]; omega⟩
      | false =>
        by_cases hI : In n
        · have e1 : ¬ ((n : Int) < 8388608) := by have := hI.1; omega
          have e2 : ¬ ((2147483648 : Int) ≤ (n : Int)) := by have := hI.2; omega
          have HI : Hid (Inb n = true) := inb_iff.2 hI
          clear hI
          go_wp2_with fail
          exact ⟨⟨d + 1, _, sy, rfl, rfl, by go_num, by omega, Lib.hid ⟨HSY.out, by rw [HBX.out, HI.out]; simp, HN5.out, HK5.out⟩⟩, by simp [intOf]; omega⟩
        · have HI : Hid (Inb n = false) := by
            show Inb n = false
            rw [Bool.eq_false_iff]
            exact fun h => hI (inb_iff.1 h)
          by_cases h1 : n < 8388608
          · have e1 : (n : Int) < 8388608 := by omega
            clear hI h1
            go_wp2_with fail
            exact ⟨⟨d + 1, _, sy, rfl, rfl, by go_num, by omega, Lib.hid ⟨HSY.out, by rw [HBX.out, HI.out]; simp, HN5.out, HK5.out⟩⟩, by simp [intOf]; omega⟩
          · have e1 : ¬ ((n : Int) < 8388608) := by omega
            have e2 : (2147483648 : Int) ≤ (n : Int) := by unfold In at hI; omega
            clear hI h1
            go_wp2_with fail
            exact ⟨⟨d + 1, _, sy, rfl, rfl, by go_num, by omega, Lib.hid ⟨HSY.out, by rw [HBX.out, HI.out]; simp, HN5.out, HK5.out⟩⟩, by simp [intOf]; omega⟩
    · obtain rfl : d = 4 := by omega
      have hge : ¬ ((4 : Int) < 4) := by omega
      have HF4 : Hid (Blk wr FF 48 U) := by
        have := HH.out.2.2.1
        rw [List.take_of_length_le (by rw [HNL.out]; exact Nat.le_refl _), pad_all HNL.out, HU.out] at this
        exact this
      have HS4 : Hid (sx = strOfNums (wb ns)) := by
        have := HH.out.1
        rw [List.take_of_length_le (by rw [HNL.out]; exact Nat.le_refl _)] at this
        exact this
      have HB4 : Hid (bd = !(ns.all Inb)) := by
        have := HH.out.2.1
        rw [List.take_of_length_le (by rw [HNL.out]; exact Nat.le_refl _)] at this
        exact this
      have HK4 := Lib.hid HH.out.2.2.2
      clear HH hlt hd
      obtain ⟨OO, hOO⟩ : ∃ OO, wr.heap.size = OO := ⟨_, rfl⟩
      have HW5 : Hid (Ww.Has OO OO [] wr (wr.alloc (.cells #[.slice none 0 0] 54))) := by
        show Ww.Has _ _ _ _ _
        rw [← hOO]
        exact ⟨_, Ww.new_of 54 (by decide) wr, (Keeps.refl _ _).alloc _⟩
      have HFO : Hid (FF < OO) := by show FF < OO; rw [← hOO]; exact HF4.out.lt
      have HWO : Hid (w.heap.size ≤ OO) := by show _ ≤ OO; rw [← hOO]; exact HK4.out.size
      have hkf : ∀ W, Keeps (OO ≤ ·) wr W → Keeps (fun _ => False) wr W := fun W k => k.mono (fun b hb h => by omega)
      have HKF := Lib.hid hkf
      have HUF : Hid ((Try.prog.info? 48).map (·.size) = some U.size) := by show _ = _; rw [← HU.out]; exact four_size HNL.out
      have HU1 : Hid (U.all (·.oneCell') = true) := by show _ = _; rw [← HU.out]; exact us_one _
      have HUZ : Hid (Z4.size = U.size) := by show _ = _; rw [← HU.out, ← HZ4.out, us_size, us_size, HNL.out]; rfl
      clear hkf
      go_upto_region 16 with fail
      generalize wr.alloc (.cells #[.slice none 0 0] 54) = W5 at HW5 ⊢
      have HF5 : Hid (Blk W5 FF 48 U) := by
        obtain ⟨_, _, k⟩ := HW5.out
        exact HF4.out.keeps k (by have := HFO.out; omega)
      have HFP := Lib.hid (fput OO OO [] ns wr W5 HW5.out (by simp) HNL.out HNB.out)
      rw [HU.out, List.nil_append] at HFP
      clear hOO hge
      go_upto_region 17 with (first
        | ((with_reducible refine ld_row HF5.out Try.underlying48 HUF.out ?_ ?_); rfl)
        | (go_at_call 17
           refine HFP.out.mono ?_
           rintro e w6 ⟨rfl, hh6⟩
           have HH6 := Lib.hid hh6
           clear hh6))
      have HK6 : Hid (Keeps (fun _ => False) w w6) := by
        obtain ⟨_, _, k⟩ := HH6.out
        exact HK4.out.trans (HKF.out _ k)
      have HF6 : Hid (Blk w6 FF 48 U) := by
        obtain ⟨_, _, k⟩ := HH6.out
        exact HF4.out.keeps k (by have := HFO.out; omega)
      obtain ⟨v6, hw6, _⟩ := HH6.out
      have HW6 := Lib.hid hw6
      have HWL : Hid ((wb ns).length = 16) := by show _ = _; rw [wb_len, HNL.out]
      have HBC := Lib.hid (fun W (h : Ww.IsWr OO OO v6 (wb ns) W) => Ww.bytes_n OO OO v6 (wb ns) 16 W HWL.out h)
      clear hw6 HFP HF5 HW5 HH6
      go_upto_region 18 with (first
        | (have H1 := HW6
           go_at_call 18
           refine (HBC.out _ HW6.out).mono ?_
           rintro e w7 ⟨A7, c7, rfl, ho7, hk7⟩
           have HL7 := Lib.hid (Lies.of_own ho7)
           have HK7 := Lib.hid (HK6.out.trans hk7)
           have HF7 := Lib.hid (HF6.out.keeps hk7 id)
           have HW7 := Lib.hid (HW6.out.keeps hk7 (fun _ _ => id))
           clear ho7 hk7 HW6 H1)
        | (have H1 := HL7
           go_at_call 12
           refine (iread A7 16 c7 (wb ns) w7 HWL.out HL7.out (by omega) (wb_byte ns)).mono ?_
           rintro e w8 ⟨g, rfl, hr8, hk8⟩
           have HR8 := Lib.hid hr8
           have HK8 := Lib.hid (HK7.out.trans hk8)
           have HF8 := Lib.hid (HF7.out.keeps hk8 id)
           have HW8 := Lib.hid (HW7.out.keeps hk8 (fun _ _ => id))
           have HGW : Hid (w7.heap.size ≤ g) := hr8.1
           have HG7 : Hid (w.heap.size ≤ w7.heap.size) := HK7.out.size
           have HO7 : Hid (OO < w7.heap.size) := HW7.out.lt
           have HI7 : Hid (∀ b, Ww.Its OO v6 b → b < w7.heap.size) := by
             rintro b (rfl | hb)
             · exact HW7.out.lt
             · exact (HW7.out.2.2.2.2.2.lt b hb).2
           unfold rd
           clear hr8 hk8 HL7 H1))
      obtain ⟨R, hR⟩ : ∃ R, w8.heap.size = R := ⟨_, rfl⟩
      obtain ⟨bs7, hbs7⟩ : ∃ bs7, w7.heap.size = bs7 := ⟨_, rfl⟩
      have HB9 : Hid (Blk (w8.alloc (.cells #[.pointer (some ⟨g, 0, none⟩)] 41)) w8.heap.size 41 #[.pointer (some ⟨g, 0, none⟩)]) := Blk.new _ _ _
      have HKa : Hid (Keeps (fun _ => False) w8 (w8.alloc (.cells #[.pointer (some ⟨g, 0, none⟩)] 41))) := (Keeps.refl _ _).alloc _
      generalize w8.alloc (.cells #[.pointer (some ⟨g, 0, none⟩)] 41) = W9 at HB9 HKa ⊢
      have HGR : Hid (g < R) := by show g < R; rw [← hR]; exact HR8.out.lt
      have HR9 := Lib.hid (HR8.out.keeps HKa.out (fun _ _ => id))
      rw [hbs7] at HR9 HGW HG7 HO7 HI7
      have HK9 := Lib.hid (HK8.out.trans HKa.out)
      have HF9 := Lib.hid (HF8.out.keeps HKa.out id)
      have HW9 := Lib.hid (HW8.out.keeps HKa.out (fun _ _ => id))
      rw [hR] at HB9 ⊢
      have hwb := words_back HNL.out HNB.out
      have HST : Hid ((bd = false ∧ startF ⟨wb ns, 0, 0⟩ = (ns, ⟨wb ns, 16, 0⟩)) ∨ (bd = true ∧ startF ⟨wb ns, 0, 0⟩ = (no4, (⟨wb ns, 16, 0⟩ : RS).fail 2))) := by
        show _ ∨ _
        rw [startF, hwb]
        by_cases hI : ns.all Inb = true
        · left
          exact ⟨by rw [HB4.out, hI]; rfl, by rw [if_pos hI]⟩
        · right
          have hI2 : ns.all Inb = false := by simpa using hI
          exact ⟨by rw [HB4.out, hI2]; rfl, by rw [if_neg hI]; rfl⟩
      have hsta := Rs.start g bs7 ⟨wb ns, 0, 0⟩ W9 HR9.out
      unfold rd at hsta
      obtain ⟨V, sE, e0, ef, hV, hE, hEf, hbx⟩ : ∃ (V : Array Value) (sE : RS) (e0 ef : Int), us (startF ⟨wb ns, 0, 0⟩).1 = V ∧ (startF ⟨wb ns, 0, 0⟩).2 = sE ∧ sE.fin = ef ∧ ((bd = false ∧ V = U ∧ sE.e = 0 ∧ ef = 0) ∨ (bd = true ∧ V = Z4 ∧ sE.e = 2)) := by
        refine ⟨_, _, 0, _, rfl, rfl, rfl, ?_⟩
        rcases HST.out with ⟨h1, h2⟩ | ⟨h1, h2⟩
        · left
          rw [h2]
          refine ⟨h1, HU.out, rfl, ?_⟩
          unfold RS.fin
          simp only
          rw [if_neg (by rw [HWL.out]; omega)]
        · right
          rw [h2]
          exact ⟨h1, HZ4.out, rfl⟩
      rw [hV, hE] at hsta
      have HSTA := Lib.hid hsta
      have HVI : Hid ((Try.prog.info? 48).map (·.size) = some V.size) := by
        show _ = _
        rcases hbx with ⟨_, h, _⟩ | ⟨_, h, _⟩
        · rw [h]; exact HUF.out
        · rw [h, HUZ.out]; exact HUF.out
      have HV1 : Hid (V.all (·.oneCell') = true) := by
        show _ = _
        rcases hbx with ⟨_, h, _⟩ | ⟨_, h, _⟩
        · rw [h]; exact HU1.out
        · rw [h, ← HZ4.out]; exact us_one _
      have HVZ : Hid (Z4.size = V.size) := by
        show _ = _
        rcases hbx with ⟨_, h, _⟩ | ⟨_, h, _⟩
        · rw [h]; exact HUZ.out
        · rw [h]
      have HEN := Lib.hid (fun W (h : IsRd bs7 g sE W) => Wr.end_ g sE bs7 W h)
      rw [hEf] at HEN
      have HBX := Lib.hid hbx
      have HQ4 := Lib.hid (fun w => run_eq4 ns ns U U true HU.out HU.out HNL.out HNL.out (by simp) w)
      have hb9 : W9.cell? ⟨R, 0, none⟩ = some (.pointer (some ⟨g, 0, none⟩)) := HB9.out.cell 0
      clear hR hbs7 hwb hsta hV hE hEf hbx HST HR8 HKa HK8 HF8 HW8 HR9 HF6 HF7 HW7 HK7
      go_upto_region 19 with (first
        | (go_at_call 19
           refine HSTA.out.mono ?_
           rintro e w10 ⟨rfl, hr10, hk10⟩
           have HR10 := Lib.hid hr10
           have HGO : Hid (FF ≠ g ∧ OO ≠ g) := by
             have h1 := HGW.out; have h2 := HO7.out; have h3 := HFO.out
             exact ⟨by omega, by omega⟩
           have HB10 := Lib.hid (HB9.out.keeps hk10 (fun e => by have := HGR.out; omega))
           have HF10 := Lib.hid (HF9.out.keeps hk10 HGO.out.1)
           have HW10 := Lib.hid (HW9.out.keeps hk10 (fun b hb e => by have h1 := HGW.out; have h2 := HI7.out b hb; omega))
           have HK10 := Lib.hid (Rt.keeps_low HK9.out hk10 (fun y hy => by rw [hy]; have h1 := HGW.out; have h2 := HG7.out; omega))
           clear hr10 hk10 hb9 HSTA)
        | ((with_reducible refine st_row (Blk.new _ 48 Z4) HVI.out HVZ.out HV1.out ?_ ?_ ?_); rfl; rfl))
      obtain ⟨TT, hTT⟩ : ∃ TT, w10.heap.size = TT := ⟨_, rfl⟩
      have HT11 : Hid (Blk ((w10.alloc (.cells Z4 48)).setRow w10.heap.size V) w10.heap.size 48 V) := new_put
      have HKb : Hid (Keeps (fun _ => False) w10 ((w10.alloc (.cells Z4 48)).setRow w10.heap.size V)) := Keeps.put_new (Keeps.refl _ _)
      generalize (w10.alloc (.cells Z4 48)).setRow w10.heap.size V = W11 at HT11 HKb ⊢
      rw [hTT] at HT11 ⊢
      have HR11 := Lib.hid (HR10.out.keeps HKb.out (fun _ _ => id))
      have HB11 := Lib.hid (HB10.out.keeps HKb.out id)
      have HF11 := Lib.hid (HF10.out.keeps HKb.out id)
      have HW11 := Lib.hid (HW10.out.keeps HKb.out (fun _ _ => id))
      have HK11 := Lib.hid (HK10.out.trans HKb.out)
      clear hTT HKb HR10 HB10 HF10 HW10 HK10 hz4
      have hcv0 := fun (W : World) (A : Option Addr) (c : Nat) (h : Lies W A (wb ns)) => h.str_n (P := Try.prog) 16 HWL.out 22 9 5 c Try.underlying22 Try.underlying5 Try.underlying9
      rw [← HS4.out] at hcv0
      have HCV0 := Lib.hid hcv0
      obtain ⟨hn1, hn2, hn3, hn4⟩ := HR.out
      obtain ⟨xs, hxs⟩ : ∃ xs, z1.take len1 = xs := ⟨_, rfl⟩
      rw [hxs] at hn1 hn3
      have HXL := Lib.hid hn1
      have HXS := Lib.hid hn3
      clear hcv0 hn1 hn2 hn3 hn4 hxs
      rcases HBX.out with ⟨rfl, hVU, hE0, rfl⟩ | ⟨rfl, hVU, hE0⟩
      all_goals
        have HE0 := Lib.hid hE0
        have HRA := Lib.hid (fun W (h : IsRd bs7 g sE W) => err_q g sE _ bs7 W h HE0.out)
        have hb11 : W11.cell? ⟨R, 0, none⟩ = some (.pointer (some ⟨g, 0, none⟩)) := HB11.out.cell 0
        have hq4 := HQ4.out
        clear hE0 HBX
        subst hVU
        go_upto_region 21 with (first
          | (have H1 := HW11
             go_at_call 18
             refine (HBC.out _ HW11.out).mono ?_
             rintro e w12 ⟨A12, c12, rfl, ho12, hk12⟩
             have hcvA := HCV0.out _ _ c12 (Lies.of_own ho12)
             have hb12 : w12.cell? ⟨R, 0, none⟩ = some (.pointer (some ⟨g, 0, none⟩)) := (HB11.out.keeps hk12 id).cell 0
             have HR12 := Lib.hid (HR11.out.keeps hk12 (fun _ _ => id))
             have HT12 := Lib.hid (HT11.out.keeps hk12 id)
             have HF12 := Lib.hid (HF11.out.keeps hk12 id)
             have HK12 := Lib.hid (HK11.out.trans hk12)
             clear ho12 hk12 HW11 H1 hb11)
          | (go_at_call 20
             refine (HRA.out _ HR12.out).mono ?_
             rintro e w13 ⟨rfl, rfl⟩)
          | ((with_reducible refine ld_row_g HT12.out Try.underlying48 HVI.out ?_ ?_ ?_); rfl; rfl)
          | ((with_reducible refine ld_row_g HF12.out Try.underlying48 HUF.out ?_ ?_ ?_); rfl; rfl)
          | (go_at_call 15
             refine (HEN.out _ HR12.out).mono ?_
             rintro e w14 ⟨rfl, q14, rfl⟩))
        first
          | have HKZ := Lib.hid (HK12.out.drewN q14)
          | have HKZ := HK12
        clear HK12 HT12 HF12 HR12 hb12 hcvA hq4 HRA HEN HQ4 HCV0 HBC
        go_upto_region 22 with (
          go_at_call 13
          refine (Rt.turned a1 len1 cap1 xs _ HXL.out (HXS.out.keeps HKZ.out (fun _ _ _ => id)) (by have := HXL.out; omega)).mono ?_
          rintro e w15 ⟨A15, c15, rfl, ho15, hk15⟩
          have HO15 := Lib.hid ho15
          have HK15 := Lib.hid (HKZ.out.trans hk15)
          clear ho15 hk15 HKZ)
        go_wp2_with fail
        go_loopw [14, 15, 90] (fun _ _ iv wr => ∃ d : Nat, iv = .int .i64 (d : Int) ∧ d ≤ len1 ∧ Hid (Keeps (fun _ => False) w15 wr)) (fun _ _ iv _ => len1 - (intOf iv).toNat)
        case atStart => exact ⟨0, rfl, by omega, Lib.hid (Keeps.refl _ _)⟩
        case round =>
          obtain ⟨d, rfl, hd, HH⟩ := hrel
          by_cases hlt : d < len1
          · obtain ⟨jj, hjj⟩ : ∃ jj, len1 - 1 - d = jj := ⟨_, rfl⟩
            have hxl := HXL.out
            have hls : Lies wr a1 xs := HXS.out.keeps (HK15.out.trans HH.out) (fun _ _ _ => id)
            have hlt15 : Lies wr A15 xs.reverse := (Lies.of_own HO15.out).keeps HH.out (fun _ _ _ => id)
            rcases hls with h0 | ⟨b1, o1, rfl, _, hc1⟩
            · rw [h0] at hxl; simp at hxl; omega
            rcases hlt15 with h0 | ⟨b2, o2, rfl, _, hc2⟩
            · rw [List.reverse_eq_nil_iff.1 h0] at hxl; simp at hxl; omega
            obtain ⟨y, hy⟩ : ∃ y, xs.getD d 0 = y := ⟨_, rfl⟩
            have hyb : xs.reverse.getD jj 0 = y := by
              rw [← hy, List.getD, List.getD, List.getElem?_reverse (by omega)]
              congr 2
              omega
            have hca := hc1 d (by omega)
            have hcb := hc2 jj (by simp; omega)
            rw [hy] at hca
            rw [hyb] at hcb
            have hd0 : (0 : Int) ≤ (d : Int) := by omega
            have hd1 : (d : Int) < (len1 : Int) := by omega
            have hj0 : (0 : Int) ≤ (jj : Int) := by omega
            have hj1 : (jj : Int) < (len1 : Int) := by omega
            have hw1 : IntKind.i64.wrap ((len1 : Int) - 1) = (len1 : Int) - 1 := IntWalk.i64_in _ (by omega)
            have hw2 : IntKind.i64.wrap ((len1 : Int) - 1 - (d : Int)) = (jj : Int) := by rw [IntWalk.i64_in _ (by omega)]; omega
            have hw3 : (len1 : Int) - 1 - (d : Int) = (jj : Int) := by omega
            have hw4 : IntKind.i64.wrap (jj : Int) = (jj : Int) := IntWalk.i64_in _ (by omega)
            clear hxl hc1 hc2 hy hyb hjj
            go_wp2_with fail
            exact ⟨⟨d + 1, by go_num, by omega, HH⟩, by simp [intOf]; omega⟩
          · obtain rfl : d = len1 := by omega
            have hge : ¬ ((d : Int) < (d : Int)) := by omega
            have HKE := Lib.hid (HK15.out.trans HH.out)
            obtain ⟨L4, hL4⟩ : ∃ L4, us low4 = L4 := ⟨_, rfl⟩
            have hql := fun w => run_eq4 low4 low4 L4 #[.int .u32 8388608, .int .u32 8388608, .int .u32 8388608, .int .u32 8388608] true hL4 rfl rfl rfl (by simp) w
            have HNW := Lib.hid new4
            rw [hL4] at HNW
            clear hlt hd
            go_wp2_with (
              go_at_call 21
              refine (HNW.out _).mono ?_
              rintro e w16 ⟨rfl, hk16⟩
              have HK16 := Lib.hid (HKE.out.trans hk16)
              clear hk16)
            go_ret
            exact ⟨rfl, HK16.out.below (Nat.le_refl _) (fun _ h => h.elim)⟩

set_option maxRecDepth 100000 in
theorem lifted (os : Os) (started : os.Started) (H : Type) (enc : TypeId × Value → H) :
    ReturnsInHanded {} Try.checked os 5 .any (Rows.ransStartsSpec.pre6 enc Try.prog Try.f5 Rows.ransStartsRow.domain false) (Rows.ransStartsSpec.post enc Try.prog Try.f5 false true false false) := by
  refine returnsInHanded_of_change (C := Try.checked) own started (by kernel_rfl) Try.func5
    (ChangeSpec.witness6 (enc := enc) (C := Try.checked) false ⟨#[], #[.agg (Array.replicate 4 (.int .u32 0)), .slice none 0 0], []⟩ 8 (by kernel_rfl) (by kernel_rfl) (by kernel_rfl) (by kernel_rfl)) ?_
  intro W base args ds gs before hval0 hW hcnd _
  have hval : ∀ (j : Nat) t v, Try.f5.params[j]? = some t → args[j]? = some v → Value.okWide Try.prog W .any base t v := hval0
  have hW' := hW
  obtain ⟨p, q, hA0, hV, rfl, hfz, hnd⟩ := hW
  have hA : DataW.TrodAll enc Try.prog W 0 (fun _ => true) true Try.f5.params.toList args.toList ds p := hA0
  rw [Try.params5] at hA hval
  obtain ⟨v0, vs0, d0, ds0, p0, q0, hargs, rfl, rfl, h0, r0⟩ := trodAll_cons hA
  obtain ⟨v1, vs1, d1, ds1, p1, q1, rfl, rfl, rfl, h1, r1⟩ := trodAll_cons r0
  obtain ⟨rfl, rfl, rfl⟩ := trodAll_nil r1
  obtain rfl : args = #[v0, v1] := by cases args; simp_all
  obtain ⟨rfl, rfl⟩ := trodVars_none hV
  obtain ⟨cs0, rfl, hs0⟩ := okw_arr Try.underlying46 (by kernel_rfl) (hval 0 46 v0 rfl rfl)
  have k0 := h0
  have lt0 : ∀ x ∈ p0, x.block < W.heap.size := by obtain ⟨m, hm⟩ := k0; exact DataW.trod_lt m _ _ _ hm
  obtain ⟨z0, w0, hz0⟩ : ∃ zs : List Int, (zs.length = 4 ∧ ∀ x ∈ zs, (Lit.int .u32 x).wf = true) ∧ cs0 = (zs.map (Value.int .u32)).toArray := by
    obtain ⟨fuel, hf⟩ := h0
    exact open_arr Try.underlying46 Try.underlying31 (by kernel_rfl) hs0 hf
  subst hz0
  obtain ⟨a1, len1, cap1, rfl⟩ := okWide_slice Try.underlying22 (hval 1 22 v1 rfl rfl)
  have k1 := h1
  have lt1 : ∀ x ∈ p1, x.block < W.heap.size := by obtain ⟨m, hm⟩ := k1; exact DataW.trod_lt m _ _ _ hm
  obtain ⟨z1, w1⟩ : ∃ zs, IsRow .u8 W a1 len1 cap1 zs := by
    obtain ⟨fuel, hf⟩ := h1
    exact open_row Try.underlying22 Try.underlying5 (by kernel_rfl) hf
  clear hA0 hval0
  refine (walk z0 a1 len1 cap1 z1 W w0 w1).mono fun e W' ⟨he, bel⟩ => ?_
  subst he
  exact ⟨_, rfl, _, _, _, [], _, [], hW', trodAll_mk1 (shut_bool Try.underlying4 _), (trodAll_cons_mk (Below.trod laidOut (by kernel_rfl) (of_decide_eq_true (by kernel_rfl)) k0 bel lt0) (trodAll_cons_mk (Below.trod laidOut (by kernel_rfl) (of_decide_eq_true (by kernel_rfl)) k1 bel lt1) trodAll_mk0)), rfl, bel.frame _, fun h => by cases h⟩

theorem over : Rows.ransStartsRow.holds Try.pinned (OpenSpec.ofChange Rows.ransStartsSpec) :=
  OpenClaim.holds_of_wide 5 Try.f5 rfl rfl rfl rfl rfl rfl rfl ⟨rfl, rfl, rfl, rfl, rfl⟩ rfl rfl rfl rfl rfl (by kernel_rfl) Try.func5 (by kernel_rfl)
    (of_decide_eq_true (by kernel_rfl)) (by unfold Func.isWrapper; first | (rw [if_pos (by decide +kernel)]; kernel_rfl) | (rw [if_neg (by decide +kernel)]; exact ⟨rfl, rfl⟩))
    (fun os started H enc _ => lifted os started H enc)

/-- The statement, as given. -/
theorem proved : Rows.RansStartsSaid :=
  over
end Go.Proofs.Ytmeeagjnlmfgeaa.ransStarts
namespace Go.Proofs.Ytmeeagjnlmfgeaa
/-- The statement, as given. -/
theorem ransStarts_holds : Rows.RansStartsSaid := ransStarts.proved
#print axioms ransStarts_holds
end Go.Proofs.Ytmeeagjnlmfgeaa
