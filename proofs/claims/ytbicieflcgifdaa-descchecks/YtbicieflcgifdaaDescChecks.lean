/- The statement DescChecks (P9.1: any ways: whether they may be) holds for every input: the Go function answers true, and its arguments read as before. No conditions beyond the row's own. -/
import Derived.Test.YtbicieflcgifdaaRows
import Derived.WalkKit
import Derived.ProofKit
import Derived.OpenShut
import Derived.ShutString
import Derived.ChangeOld
import Derived.Below
import Derived.Test.YtbicieflcgifdaaAwake9
import Derived.Test.YtbicieflcgifdaaDsRight
import Derived.Test.YtbicieflcgifdaaDsPutA
import Derived.Outline
import Derived.Deep.RegionHeld3
import Derived.Deep.CutRange
import Derived.Deep.CutBlock
import Derived.RegionTactic
import Derived.BigQuiet
import Derived.Deep.Slices
import Derived.Deep.SlicePairs
namespace Go.Proofs.Ytbicieflcgifdaa.descChecks
open Go.ChangeShapes Go.WideShapes Go.ChangeAt Go.RowKit Go.Deep
open Go.Proofs.Ytbicieflcgifdaa.Gen Go.Proofs.Ytbicieflcgifdaa.Wr Go.Proofs.Ytbicieflcgifdaa.Ww Go.Proofs.Ytbicieflcgifdaa.It Go.Proofs.Ytbicieflcgifdaa.Hr Go.Proofs.Ytbicieflcgifdaa.Hn Go.Proofs.Ytbicieflcgifdaa.Ds
set_option linter.unusedVariables false

theorem own : ownKnob Try.prog.godebug = none := by kernel_rfl
theorem laidOut : laidOutB Try.prog = true := by kernel_rfl

/-- What the walk is told of a slice of integers that came in: it is nil, or a row of cells that hold zs, each of which fits. -/
def IsRow (k : IntKind) (w : World) (a : Option Addr) (len cap : Nat) (zs : List Int) : Prop :=
  (a = none ∧ len = 0 ∧ cap = 0 ∧ zs = []) ∨
  ∃ x, a = some x ∧ len ≤ cap ∧ cap ≤ maxLen ∧ zs.length = cap ∧ (∀ i, i < zs.length → w.cell? (x.add i) = some (.int k (zs.getD i 0))) ∧ ∀ n ∈ zs, (Lit.int k n).wf = true
/-- And of a slice of such slices: it is nil, or each of its cells holds one. -/
def IsRows (k : IntKind) (w : World) (a : Option Addr) (len cap : Nat) : Prop :=
  (a = none ∧ len = 0 ∧ cap = 0) ∨
  ∃ x, a = some x ∧ len ≤ cap ∧ cap ≤ maxLen ∧ ∀ i, i < len → ∃ b n c zs, w.cell? (x.add i) = some (.slice b n c) ∧ IsRow k w b n c zs
/-- And of a slice of structs of two integers. -/
def IsPairs (k0 k1 : IntKind) (w : World) (a : Option Addr) (len cap : Nat) (zs : List (Int × Int)) : Prop :=
  (a = none ∧ len = 0 ∧ cap = 0 ∧ zs = []) ∨
  ∃ x, a = some x ∧ len ≤ cap ∧ cap ≤ maxLen ∧ zs.length = cap ∧ ∀ i, i < zs.length → w.cell? (x.add (i * 2)) = some (.int k0 (zs.getD i (0, 0)).1) ∧ w.cell? (x.add (i * 2 + 1)) = some (.int k1 (zs.getD i (0, 0)).2) ∧ (Lit.int k0 (zs.getD i (0, 0)).1).wf = true ∧ (Lit.int k1 (zs.getD i (0, 0)).2).wf = true
section
variable {H : Type} {enc : TypeId × Value → H} {W : World}
theorem open_pairs {t e : TypeId} {k0 k1 : IntKind} {f0 f1 : Field} {fuel : Nat} {a : Option Addr} {len cap : Nat} {x : DataW H × List MemPlace} (ht : Try.prog.underlying t = some (.slice e)) (he : Try.prog.underlying e = some (.struct #[f0, f1])) (h0 : Try.prog.underlying f0.type = some (.int k0)) (h1 : Try.prog.underlying f1.type = some (.int k1))
    (ce : Try.prog.cellsOf e = 2) (o0 : f0.offset = 0) (o1 : f1.offset = 1) (c0 : Try.prog.cellsOf f0.type = 1) (c1 : Try.prog.cellsOf f1.type = 1)
    (hf : DataW.trod enc Try.prog W 0 (fun _ => true) true fuel t (Value.slice a len cap).cells.toList = some x) : ∃ zs, IsPairs k0 k1 W a len cap zs := by
  rcases open_slice_pairs ht he ce o0 o1 c0 c1 hf with ⟨hcs, _⟩ | ⟨y, l, c, m, n, V0, V1, D0, D1, P0, P1, hcs, _, hl, hm, hmm, _, hi⟩
  · simp [Value.cells] at hcs
    obtain ⟨rfl, rfl, rfl⟩ := hcs
    exact ⟨[], .inl ⟨rfl, rfl, rfl, rfl⟩⟩
  · simp [Value.cells] at hcs
    obtain ⟨rfl, rfl, rfl⟩ := hcs
    simp only [if_true] at hmm
    refine ⟨(List.range cap).map fun i => (intOf (V0 i), intOf (V1 i)), .inr ⟨y, rfl, hl, hm, by simp, fun i hil => ?_⟩⟩
    have hic : i < cap := by simpa using hil
    obtain ⟨g0, g1, g2, g3⟩ := hi i (by omega)
    obtain ⟨n0, e0, _, w0⟩ := DataW.trod_int h0 g2
    obtain ⟨n1, e1, _, w1⟩ := DataW.trod_int h1 g3
    injection e0 with e0
    injection e1 with e1
    rw [e0] at g0
    rw [e1] at g1
    have hz : ((List.range cap).map fun i => (intOf (V0 i), intOf (V1 i))).getD i (0, 0) = (n0, n1) := by
      simp [List.getD_eq_getElem?_getD, hic, e0, e1, intOf]
    rw [hz]
    exact ⟨g0, g1, w0, w1⟩
theorem open_row {t e : TypeId} {k : IntKind} {fuel : Nat} {a : Option Addr} {len cap : Nat} {x : DataW H × List MemPlace} (ht : Try.prog.underlying t = some (.slice e)) (he : Try.prog.underlying e = some (.int k)) (h1 : Try.prog.cellsOf e = 1)
    (hf : DataW.trod enc Try.prog W 0 (fun _ => true) true fuel t (Value.slice a len cap).cells.toList = some x) : ∃ zs, IsRow k W a len cap zs := by
  rcases open_ints ht he h1 hf with ⟨hcs, _⟩ | ⟨x, l, c, zs, hcs, _, hl, hm, hz, _, hcell, hwz⟩
  · simp [Value.cells] at hcs
    obtain ⟨rfl, rfl, rfl⟩ := hcs
    exact ⟨[], .inl ⟨rfl, rfl, rfl, rfl⟩⟩
  · simp [Value.cells] at hcs
    obtain ⟨rfl, rfl, rfl⟩ := hcs
    exact ⟨zs, .inr ⟨_, rfl, hl, hm, by simpa using hz, hcell, hwz⟩⟩
theorem open_rows {t e g : TypeId} {k : IntKind} {fuel : Nat} {a : Option Addr} {len cap : Nat} {x : DataW H × List MemPlace} (ht : Try.prog.underlying t = some (.slice e)) (he : Try.prog.underlying e = some (.slice g)) (hg : Try.prog.underlying g = some (.int k)) (h1 : Try.prog.cellsOf e = 1) (h2 : Try.prog.cellsOf g = 1)
    (hf : DataW.trod enc Try.prog W 0 (fun _ => true) true fuel t (Value.slice a len cap).cells.toList = some x) : IsRows k W a len cap := by
  rcases open_slice ht hf with ⟨hcs, _⟩ | ⟨x, l, c, m, n, D, Pl, hcs, _, hl, hm, hmm, _, hi⟩
  · simp [Value.cells] at hcs
    obtain ⟨rfl, rfl, rfl⟩ := hcs
    exact .inl ⟨rfl, rfl, rfl⟩
  · simp [Value.cells] at hcs
    obtain ⟨rfl, rfl, rfl⟩ := hcs
    refine .inr ⟨x, rfl, hl, hm, fun i hil => ?_⟩
    simp only [if_true] at hmm
    obtain ⟨cs, hc, htr⟩ := hi i (by omega)
    rw [h1, Nat.mul_one] at hc
    obtain ⟨_, hlen, hat⟩ := World.cells?_some hc
    have h0 := hat 0 (by omega)
    have ha0 : (x.add i).add 0 = x.add i := by rw [Go.Deep.add_add]; rfl
    rw [ha0] at h0
    rcases open_ints he hg h2 htr with ⟨hcs, _⟩ | ⟨y, l', c', zs, hcs, _, hl', hm', hz, _, hcell, hwz⟩
    · subst hcs
      exact ⟨none, 0, 0, [], by simpa using h0, .inl ⟨rfl, rfl, rfl, rfl⟩⟩
    · subst hcs
      exact ⟨some y, l', c', zs, by simpa using h0, .inr ⟨y, rfl, hl', hm', by simpa using hz, hcell, hwz⟩⟩
end
theorem len5 {l : List Value} (h : l.length = 5) : ∃ c0 c1 c2 c3 c4, l = [c0, c1, c2, c3, c4] := by
  match l, h with
  | [c0, c1, c2, c3, c4], _ => exact ⟨_, _, _, _, _, rfl⟩
theorem len8 {l : List Value} (h : l.length = 8) : ∃ c0 c1 c2 c3 c4 c5 c6 c7, l = [c0, c1, c2, c3, c4, c5, c6, c7] := by
  match l, h with
  | [c0, c1, c2, c3, c4, c5, c6, c7], _ => exact ⟨_, _, _, _, _, _, _, _, rfl⟩
section
variable {H : Type} {enc : TypeId × Value → H} {W : World}
/-- What is told of a field's cells. -/
theorem open_field {t : TypeId} {fs : Array Field} {cs : List Value} (ht : Try.prog.underlying t = some (.struct fs)) (h : ∃ fuel x, DataW.trod enc Try.prog W 0 (fun _ => true) true fuel t cs = some x) (j : Nat) (f : Field) (hj : fs[j]? = some f) (k m : Nat) (ho : f.offset = k) (hc : Try.prog.cellsOf f.type = m) :
    ∃ fuel x, DataW.trod enc Try.prog W 0 (fun _ => true) true fuel f.type ((cs.drop k).take m) = some x := by
  obtain ⟨fuel, x, h⟩ := h
  obtain ⟨xs, n, _, _, _, hl, hg⟩ := DataW.trod_struct ht h
  have h1 := hg j f hj
  rw [ho, hc] at h1
  have hjl : j < xs.length := by rw [hl]; exact (Array.getElem?_eq_some_iff.1 hj).1
  rw [List.getElem?_eq_getElem hjl] at h1
  exact ⟨n, _, h1⟩
theorem leaf_int {t : TypeId} {k : IntKind} {v : Value} (ht : Try.prog.underlying t = some (.int k)) (h : ∃ fuel x, DataW.trod enc Try.prog W 0 (fun _ => true) true fuel t [v] = some x) : ∃ z, v = .int k z ∧ (Lit.int k z).wf = true := by
  obtain ⟨fuel, x, h⟩ := h
  obtain ⟨z, e1, _, wz⟩ := DataW.trod_int ht h
  exact ⟨z, by injection e1, wz⟩
theorem leaf_bool {t : TypeId} {v : Value} (ht : Try.prog.underlying t = some .bool) (h : ∃ fuel x, DataW.trod enc Try.prog W 0 (fun _ => true) true fuel t [v] = some x) : ∃ z, v = .bool z := by
  obtain ⟨fuel, x, h⟩ := h
  obtain ⟨z, e1, _⟩ := DataW.trod_bool ht h
  exact ⟨z, by injection e1⟩
theorem leaf_slice {t e : TypeId} {v : Value} (ht : Try.prog.underlying t = some (.slice e)) (h : ∃ fuel x, DataW.trod enc Try.prog W 0 (fun _ => true) true fuel t [v] = some x) : ∃ a n c, v = .slice a n c := by
  obtain ⟨fuel, x, h⟩ := h
  rcases DataW.trod_slice ht h with ⟨e1, _⟩ | ⟨a, l, c, _, _, _, _, e1, _⟩
  · exact ⟨none, 0, 0, by injection e1⟩
  · exact ⟨some a, l, c, by injection e1⟩
end
theorem neq_true (e : Int) (h : e ≠ 0) (w : World) : (binOp .neq 27 (.int .i64 e) (.int .i64 0)).run Try.prog w = .ok (.bool true) w := by
  have hz : (e != 0) = true := by simpa using h
  simp [go_sem, hz]
theorem neq_same (e : Int) (w : World) : (binOp .neq 27 (.int .i64 e) (.int .i64 e)).run Try.prog w = .ok (.bool false) w := by
  simp [go_sem]
/-- Entries that came in lie there. -/
theorem pairs_ents {w : World} {a : Option Addr} {len cap : Nat} {zs : List (Int × Int)} (h : IsPairs .i64 .i64 w a len cap zs) (hl : len ≤ 1000) : Ents w a len (zs.take len) := by
  rcases h with ⟨rfl, rfl, rfl, rfl⟩ | ⟨x, rfl, hlc, _, hz, hc⟩
  · exact ⟨.inl rfl, rfl, by omega⟩
  · have hlen : (zs.take len).length = len := by simp; omega
    refine ⟨?_, hlen, hl⟩
    rcases Nat.eq_zero_or_pos len with h0 | h0
    · subst h0
      exact .inl (by simp [gvs])
    · obtain ⟨b, o, sp⟩ := x
      obtain ⟨h1, _⟩ := hc 0 (by omega)
      have hsp : sp = none := by simpa [Addr.add] using World.cell?_spot h1
      subst hsp
      refine .inr ⟨b, o, rfl, ?_, fun i hi => ?_⟩
      · rw [add_none] at h1
        rcases Nat.lt_or_ge b w.heap.size with hlt | hge
        · exact hlt
        · simp [World.cell?, Array.getElem?_eq_none hge] at h1
      · rw [gvs_len, hlen] at hi
        have hi2 : i / 2 < len := by omega
        obtain ⟨g0, g1, _, _⟩ := hc (i / 2) (by omega)
        rw [add_none] at g0 g1
        have hgt : (zs.take len).getD (i / 2) (0, 0) = zs.getD (i / 2) (0, 0) := by
          simp only [List.getD_eq_getElem?_getD]
          rw [List.getElem?_take_of_lt hi2]
        rcases Nat.mod_two_eq_zero_or_one i with hm | hm
        · have e : i / 2 * 2 = i := by omega
          rw [e] at g0
          have := gvs_get0 (zs.take len) (i / 2) (by rw [hlen]; exact hi2)
          rw [e, hgt] at this
          rw [g0, this]
        · have e : i / 2 * 2 + 1 = i := by omega
          rw [e] at g1
          have := gvs_get1 (zs.take len) (i / 2) (by rw [hlen]; exact hi2)
          rw [e, hgt] at this
          rw [g1, this]
set_option maxHeartbeats 16000000 in
set_option maxRecDepth 100000 in
theorem walk (a0_0 : Int) (a0_1 : Int) (a0_2 : Option Addr) (len0_2 cap0_2 : Nat) (z0_2 : List (Int × Int)) (a0_3 : Int) (a0_4 : Int) (a1_0 : Int) (a1_1 : Int) (a1_2 : Option Addr) (len1_2 cap1_2 : Nat) (z1_2 : List (Int × Int)) (a1_3 : Int) (a1_4 : Int) (a1_5 : Int) (a1_6 : Int) (a1_7 : Int) (w : World) (w0_0 : (Lit.int .u8 a0_0).wf = true) (w0_1 : (Lit.int .i64 a0_1).wf = true) (w0_2 : IsPairs .i64 .i64 w a0_2 len0_2 cap0_2 z0_2) (w0_3 : (Lit.int .i64 a0_3).wf = true) (w0_4 : (Lit.int .i64 a0_4).wf = true) (w1_0 : (Lit.int .u8 a1_0).wf = true) (w1_1 : (Lit.int .i64 a1_1).wf = true) (w1_2 : IsPairs .i64 .i64 w a1_2 len1_2 cap1_2 z1_2) (w1_3 : (Lit.int .i64 a1_3).wf = true) (w1_4 : (Lit.int .i64 a1_4).wf = true) (w1_5 : (Lit.int .u8 a1_5).wf = true) (w1_6 : (Lit.int .i64 a1_6).wf = true) (w1_7 : (Lit.int .u8 a1_7).wf = true) :
    Calls Try.prog 7 #[.agg #[.int .u8 a0_0, .int .i64 a0_1, .slice a0_2 len0_2 cap0_2, .int .i64 a0_3, .int .i64 a0_4], .agg #[.int .u8 a1_0, .int .i64 a1_1, .slice a1_2 len1_2 cap1_2, .int .i64 a1_3, .int .i64 a1_4, .int .u8 a1_5, .int .i64 a1_6, .int .u8 a1_7]] w fun e w' => e = .returned (.bool true) ∧ Below w.heap.size w w' := by
  clear w0_0 w0_1 w0_3 w0_4 w1_0 w1_1 w1_3 w1_4 w1_5 w1_6 w1_7
  have HW0 := Lib.hid w0_2
  have HW1 := Lib.hid w1_2
  clear w0_2 w1_2
  go_enter Try.func7, Try.ntmps7
  go_upto_region 1 with fail
  obtain ⟨P, hP⟩ : ∃ P, w.heap.size = P := ⟨_, rfl⟩
  have HB2 : Hid (Blk ((w.alloc (.cells #[.int .u8 a0_0, .int .i64 a0_1, .slice a0_2 len0_2 cap0_2, .int .i64 a0_3, .int .i64 a0_4] 38)).alloc (.cells #[.int .u8 a1_0, .int .i64 a1_1, .slice a1_2 len1_2 cap1_2, .int .i64 a1_3, .int .i64 a1_4, .int .u8 a1_5, .int .i64 a1_6, .int .u8 a1_7] 41)) P 38 #[.int .u8 a0_0, .int .i64 a0_1, .slice a0_2 len0_2 cap0_2, .int .i64 a0_3, .int .i64 a0_4]) := by show Blk _ _ _ _; rw [← hP]; exact (Blk.new _ _ _).alloc _
  have HB3 : Hid (Blk ((w.alloc (.cells #[.int .u8 a0_0, .int .i64 a0_1, .slice a0_2 len0_2 cap0_2, .int .i64 a0_3, .int .i64 a0_4] 38)).alloc (.cells #[.int .u8 a1_0, .int .i64 a1_1, .slice a1_2 len1_2 cap1_2, .int .i64 a1_3, .int .i64 a1_4, .int .u8 a1_5, .int .i64 a1_6, .int .u8 a1_7] 41)) (P + 1) 41 #[.int .u8 a1_0, .int .i64 a1_1, .slice a1_2 len1_2 cap1_2, .int .i64 a1_3, .int .i64 a1_4, .int .u8 a1_5, .int .i64 a1_6, .int .u8 a1_7]) := by
    have h1 := Blk.new (w.alloc (.cells #[.int .u8 a0_0, .int .i64 a0_1, .slice a0_2 len0_2 cap0_2, .int .i64 a0_3, .int .i64 a0_4] 38)) 41 #[.int .u8 a1_0, .int .i64 a1_1, .slice a1_2 len1_2 cap1_2, .int .i64 a1_3, .int .i64 a1_4, .int .u8 a1_5, .int .i64 a1_6, .int .u8 a1_7]
    have h2 : (w.alloc (.cells #[.int .u8 a0_0, .int .i64 a0_1, .slice a0_2 len0_2 cap0_2, .int .i64 a0_3, .int .i64 a0_4] 38)).heap.size = P + 1 := by rw [← hP]; simp
    rw [h2] at h1
    exact h1
  have HK0 : Hid (Keeps (fun _ => False) w ((w.alloc (.cells #[.int .u8 a0_0, .int .i64 a0_1, .slice a0_2 len0_2 cap0_2, .int .i64 a0_3, .int .i64 a0_4] 38)).alloc (.cells #[.int .u8 a1_0, .int .i64 a1_1, .slice a1_2 len1_2 cap1_2, .int .i64 a1_3, .int .i64 a1_4, .int .u8 a1_5, .int .i64 a1_6, .int .u8 a1_7] 41))) := ((Keeps.refl _ _).alloc _).alloc _
  generalize (w.alloc (.cells #[.int .u8 a0_0, .int .i64 a0_1, .slice a0_2 len0_2 cap0_2, .int .i64 a0_3, .int .i64 a0_4] 38)).alloc (.cells #[.int .u8 a1_0, .int .i64 a1_1, .slice a1_2 len1_2 cap1_2, .int .i64 a1_3, .int .i64 a1_4, .int .u8 a1_5, .int .i64 a1_6, .int .u8 a1_7] 41) = W0 at HB2 HB3 HK0 ⊢
  rw [hP]
  clear hP
  go_upto_region 3 with (
    go_at_call 14
    refine (awake _).mono ?_
    rintro e w1 ⟨rfl, hk1⟩
    have HK1 := Lib.hid (HK0.out.trans hk1)
    have HC2 := Lib.hid (HB2.out.keeps hk1 id)
    have HC3 := Lib.hid (HB3.out.keeps hk1 id)
    clear hk1 HB2 HB3 HK0)
  have x2 : w1.cell? ⟨P, 2, none⟩ = some (.slice a0_2 len0_2 cap0_2) := HC2.out.cell 2
  have y2 : w1.cell? ⟨P + 1, 2, none⟩ = some (.slice a1_2 len1_2 cap1_2) := HC3.out.cell 2
  by_cases hg0 : 300 < len0_2
  · have hd0 : decide ((300 : Int) < (len0_2 : Int)) = true := by rw [decide_eq_true_iff]; omega
    clear hg0
    go_wp2
    go_ret
    exact ⟨rfl, HK1.out.below (Nat.le_refl _) (fun _ h => h.elim)⟩
  have hd0 : decide ((300 : Int) < (len0_2 : Int)) = false := by rw [decide_eq_false_iff_not]; omega
  have HE0 := Lib.hid ((pairs_ents HW0.out (by omega)).more HK1.out)
  clear hg0 HW0
  by_cases hg1 : 300 < len1_2
  · have hd1 : decide ((300 : Int) < (len1_2 : Int)) = true := by rw [decide_eq_true_iff]; omega
    clear hg1
    go_wp2
    go_ret
    exact ⟨rfl, HK1.out.below (Nat.le_refl _) (fun _ h => h.elim)⟩
  have hd1 : decide ((300 : Int) < (len1_2 : Int)) = false := by rw [decide_eq_false_iff_not]; omega
  have HE1 := Lib.hid ((pairs_ents HW1.out (by omega)).more HK1.out)
  clear hg1 HW1
  -- what the calls answer
  have HCC := Lib.hid (fun W (k : Keeps (fun _ => False) w1 W) => check_i a0_2 len0_2 cap0_2 ⟨a0_0, a0_1, z0_2.take len0_2, a0_3, a0_4⟩ W (HE0.out.more k))
  have HCR := Lib.hid (fun W (k : Keeps (fun _ => False) w1 W) => right_ a0_2 len0_2 cap0_2 ⟨a0_0, a0_1, z0_2.take len0_2, a0_3, a0_4⟩ W (HE0.out.more k))
  have HCA := Lib.hid (fun W (k : Keeps (fun _ => False) w1 W) => check_a a1_2 len1_2 cap1_2 ⟨⟨a1_0, a1_1, z1_2.take len1_2, a1_3, a1_4⟩, a1_5, a1_6, a1_7⟩ W (HE1.out.more k))
  have HCI := Lib.hid (fun W (k : Keeps (fun _ => False) w1 W) => right_ a1_2 len1_2 cap1_2 ⟨a1_0, a1_1, z1_2.take len1_2, a1_3, a1_4⟩ W (HE1.out.more k))
  have HPB := Lib.hid (fun g W (k : Keeps (fun _ => False) w1 W) he => put_i_bad g a0_2 len0_2 cap0_2 ⟨a0_0, a0_1, z0_2.take len0_2, a0_3, a0_4⟩ W (HE0.out.more k) he)
  have HPC := Lib.hid (fun g W (k : Keeps (fun _ => False) w1 W) he => put_a_bad g a1_2 len1_2 cap1_2 ⟨⟨a1_0, a1_1, z1_2.take len1_2, a1_3, a1_4⟩, a1_5, a1_6, a1_7⟩ W (HE1.out.more k) he)
  have HPN := Lib.hid (fun W => put_i_none a0_2 len0_2 cap0_2 ⟨a0_0, a0_1, z0_2.take len0_2, a0_3, a0_4⟩ W)
  have HAN := Lib.hid (fun W => put_a_none a1_2 len1_2 cap1_2 ⟨⟨a1_0, a1_1, z1_2.take len1_2, a1_3, a1_4⟩, a1_5, a1_6, a1_7⟩ W)
  have HCH : Hid (chkA ⟨⟨a1_0, a1_1, z1_2.take len1_2, a1_3, a1_4⟩, a1_5, a1_6, a1_7⟩ = if blkE a1_6 ≠ 0 then blkE a1_6 else if a1_5 = 4 then chkI ⟨a1_0, a1_1, z1_2.take len1_2, a1_3, a1_4⟩ else if a1_5 = 5 then 0 else 5) := rfl
  obtain ⟨e0, he0⟩ : ∃ e0, chkI ⟨a0_0, a0_1, z0_2.take len0_2, a0_3, a0_4⟩ = e0 := ⟨_, rfl⟩
  obtain ⟨e1, he1⟩ : ∃ e1, chkA ⟨⟨a1_0, a1_1, z1_2.take len1_2, a1_3, a1_4⟩, a1_5, a1_6, a1_7⟩ = e1 := ⟨_, rfl⟩
  obtain ⟨e2, he2⟩ : ∃ e2, chkI ⟨a1_0, a1_1, z1_2.take len1_2, a1_3, a1_4⟩ = e2 := ⟨_, rfl⟩
  rw [he0] at HCC HCR HPB
  rw [he1] at HCA HPC HCH
  rw [he2] at HCI HCH
  unfold dv at HCC HCR HCI HPB HPN
  unfold av at HCA HPC HAN
  simp only at HCC HCR HCI HPB HPN HCA HPC HAN HCH
  clear he0 he1 he2 HE0 HE1
  go_upto_region 6 with fail
  clear x2 y2 hd0 hd1
  have x0 : w1.cell? ⟨P, 0, none⟩ = some (.int .u8 a0_0) := HC2.out.cell 0
  have x1 : w1.cell? ⟨P, 1, none⟩ = some (.int .i64 a0_1) := HC2.out.cell 1
  have x2 : w1.cell? ⟨P, 2, none⟩ = some (.slice a0_2 len0_2 cap0_2) := HC2.out.cell 2
  have x3 : w1.cell? ⟨P, 3, none⟩ = some (.int .i64 a0_3) := HC2.out.cell 3
  have x4 : w1.cell? ⟨P, 4, none⟩ = some (.int .i64 a0_4) := HC2.out.cell 4
  have y0 : w1.cell? ⟨P + 1, 0, none⟩ = some (.int .u8 a1_0) := HC3.out.cell 0
  have y1 : w1.cell? ⟨P + 1, 1, none⟩ = some (.int .i64 a1_1) := HC3.out.cell 1
  have y2 : w1.cell? ⟨P + 1, 2, none⟩ = some (.slice a1_2 len1_2 cap1_2) := HC3.out.cell 2
  have y3 : w1.cell? ⟨P + 1, 3, none⟩ = some (.int .i64 a1_3) := HC3.out.cell 3
  have y4 : w1.cell? ⟨P + 1, 4, none⟩ = some (.int .i64 a1_4) := HC3.out.cell 4
  have y5 : w1.cell? ⟨P + 1, 5, none⟩ = some (.int .u8 a1_5) := HC3.out.cell 5
  have y6 : w1.cell? ⟨P + 1, 6, none⟩ = some (.int .i64 a1_6) := HC3.out.cell 6
  have y7 : w1.cell? ⟨P + 1, 7, none⟩ = some (.int .u8 a1_7) := HC3.out.cell 7
  have HCI2 := HCI
  go_upto_block 0 with fail
  go_cut [6] from 21 to 41 (fun v wx => v = .int .i64 e1 ∧ Keeps (fun _ => False) w1 wx)
  case first =>
    by_cases b1 : a1_6 < 1
    · have hb2 : blkE a1_6 = 2 := by rw [blkE, if_pos (.inl b1)]
      have HE : Hid (e1 = 2) := by show _ = _; rw [HCH.out, hb2, if_pos (by decide)]
      clear HCH hb2
      go_wp2_with fail
      go_meet
      case rel => exact ⟨by rw [HE.out], Keeps.refl _ _⟩
    · by_cases b2 : 60000 < a1_6
      · have hb2 : blkE a1_6 = 2 := by rw [blkE, if_pos (.inr b2)]
        have HE : Hid (e1 = 2) := by show _ = _; rw [HCH.out, hb2, if_pos (by decide)]
        clear HCH hb2
        go_wp2_with fail
        go_meet
        case rel => exact ⟨by rw [HE.out], Keeps.refl _ _⟩
      · have hb0 : blkE a1_6 = 0 := by rw [blkE, if_neg (by omega)]
        rw [hb0, if_neg (by simp)] at HCH
        clear hb0
        by_cases k4 : a1_5 = 4
        · have hq4 : (a1_5 == 4) = true := by simpa using k4
          have HE : Hid (e1 = e2) := by show _ = _; rw [HCH.out, if_pos k4]
          clear HCH k4
          go_wp2_with (
            go_at_call 30
            refine (HCI2.out _ (Keeps.refl _ _)).mono ?_
            rintro e w2 ⟨rfl, hk2⟩
            have HK2 := Lib.hid hk2
            clear hk2)
          go_meet
          case rel => exact ⟨by rw [HE.out], HK2.out⟩
        · have hq4 : (a1_5 == 4) = false := by simpa using k4
          by_cases k5 : a1_5 = 5
          · have hq5 : (a1_5 != 5) = false := by simpa using k5
            have HE : Hid (e1 = 0) := by show _ = _; rw [HCH.out, if_neg k4, if_pos k5]
            clear HCH k4 k5
            go_wp2_with fail
            go_meet
            case rel => exact ⟨by rw [HE.out], Keeps.refl _ _⟩
          · have hq5 : (a1_5 != 5) = true := by simpa using k5
            have HE : Hid (e1 = 5) := by show _ = _; rw [HCH.out, if_neg k4, if_neg k5]
            clear HCH k4 k5
            go_wp2_with fail
            go_meet
            case rel => exact ⟨by rw [HE.out], Keeps.refl _ _⟩
  case rest =>
    obtain ⟨rfl, hkx⟩ := hcut
    have HKX := Lib.hid hkx
    clear hkx HCH HCI HCI2
    clear x0 x1 x2 x3 x4 y0 y1 y2 y3 y4 y5 y6 y7
    go_upto_region 14 with fail
    obtain ⟨T, hT⟩ : ∃ T, wc.heap.size = T := ⟨_, rfl⟩
    have HWR : Hid (IsWr T T (.slice none 0 0) [] (wc.alloc (.cells #[.slice none 0 0] 47))) := by
      show IsWr _ _ _ _ _
      rw [← hT]
      exact new_of 47 (by decide) wc
    have HK3 : Hid (Keeps (fun _ => False) w1 (wc.alloc (.cells #[.slice none 0 0] 47))) := HKX.out.alloc _
    generalize wc.alloc (.cells #[.slice none 0 0] 47) = W3 at HWR HK3 ⊢
    rw [hT]
    clear hT
    have x0 : W3.cell? ⟨P, 0, none⟩ = some (.int .u8 a0_0) := (HC2.out.keeps HK3.out id).cell 0
    have x1 : W3.cell? ⟨P, 1, none⟩ = some (.int .i64 a0_1) := (HC2.out.keeps HK3.out id).cell 1
    have x2 : W3.cell? ⟨P, 2, none⟩ = some (.slice a0_2 len0_2 cap0_2) := (HC2.out.keeps HK3.out id).cell 2
    have x3 : W3.cell? ⟨P, 3, none⟩ = some (.int .i64 a0_3) := (HC2.out.keeps HK3.out id).cell 3
    have x4 : W3.cell? ⟨P, 4, none⟩ = some (.int .i64 a0_4) := (HC2.out.keeps HK3.out id).cell 4
    have y0 : W3.cell? ⟨P + 1, 0, none⟩ = some (.int .u8 a1_0) := (HC3.out.keeps HK3.out id).cell 0
    have y1 : W3.cell? ⟨P + 1, 1, none⟩ = some (.int .i64 a1_1) := (HC3.out.keeps HK3.out id).cell 1
    have y2 : W3.cell? ⟨P + 1, 2, none⟩ = some (.slice a1_2 len1_2 cap1_2) := (HC3.out.keeps HK3.out id).cell 2
    have y3 : W3.cell? ⟨P + 1, 3, none⟩ = some (.int .i64 a1_3) := (HC3.out.keeps HK3.out id).cell 3
    have y4 : W3.cell? ⟨P + 1, 4, none⟩ = some (.int .i64 a1_4) := (HC3.out.keeps HK3.out id).cell 4
    have y5 : W3.cell? ⟨P + 1, 5, none⟩ = some (.int .u8 a1_5) := (HC3.out.keeps HK3.out id).cell 5
    have y6 : W3.cell? ⟨P + 1, 6, none⟩ = some (.int .i64 a1_6) := (HC3.out.keeps HK3.out id).cell 6
    have y7 : W3.cell? ⟨P + 1, 7, none⟩ = some (.int .u8 a1_7) := (HC3.out.keeps HK3.out id).cell 7
    have hne0 : (e0 != e0) = false := by simp
    have hne1 : (e1 != e1) = false := by simp
    have HJ3 : Hid (Keeps (fun _ => False) W3 W3) := Lib.hid (Keeps.refl _ _)
    have HLN := Lib.hid (fun W (k : Keeps (fun _ => False) W3 W) => len_n T T (.slice none 0 0) [] 0 W rfl (HWR.out.keeps k (fun _ _ => id)))
    have HR1 := HCR
    go_region_held3 (fun w' => w'.cell? ⟨P, 0, none⟩ = some (.int .u8 a0_0) ∧ w'.cell? ⟨P, 1, none⟩ = some (.int .i64 a0_1) ∧ w'.cell? ⟨P, 2, none⟩ = some (.slice a0_2 len0_2 cap0_2) ∧ w'.cell? ⟨P, 3, none⟩ = some (.int .i64 a0_3) ∧ w'.cell? ⟨P, 4, none⟩ = some (.int .i64 a0_4) ∧ w'.cell? ⟨P + 1, 0, none⟩ = some (.int .u8 a1_0) ∧ w'.cell? ⟨P + 1, 1, none⟩ = some (.int .i64 a1_1) ∧ w'.cell? ⟨P + 1, 2, none⟩ = some (.slice a1_2 len1_2 cap1_2) ∧ w'.cell? ⟨P + 1, 3, none⟩ = some (.int .i64 a1_3) ∧ w'.cell? ⟨P + 1, 4, none⟩ = some (.int .i64 a1_4) ∧ w'.cell? ⟨P + 1, 5, none⟩ = some (.int .u8 a1_5) ∧ w'.cell? ⟨P + 1, 6, none⟩ = some (.int .i64 a1_6) ∧ w'.cell? ⟨P + 1, 7, none⟩ = some (.int .u8 a1_7)) (go_keep)
      ((first
        | (have H1 := HCC
           go_at_call 17
           refine (HCC.out _ (by first | exact HK3.out | exact HK3.out.drewN 1)).mono ?_
           rintro e w4 ⟨rfl, hk4⟩
           have HK4 := Lib.hid (HK3.out.trans hk4.of_drew)
           have HJ4 := Lib.hid (HJ3.out.trans hk4.of_drew)
           have d4x0 : w4.cell? ⟨P, 0, none⟩ = some (.int .u8 a0_0) := (HC2.out.keeps HK4.out id).cell 0
           have d4x1 : w4.cell? ⟨P, 1, none⟩ = some (.int .i64 a0_1) := (HC2.out.keeps HK4.out id).cell 1
           have d4x2 : w4.cell? ⟨P, 2, none⟩ = some (.slice a0_2 len0_2 cap0_2) := (HC2.out.keeps HK4.out id).cell 2
           have d4x3 : w4.cell? ⟨P, 3, none⟩ = some (.int .i64 a0_3) := (HC2.out.keeps HK4.out id).cell 3
           have d4x4 : w4.cell? ⟨P, 4, none⟩ = some (.int .i64 a0_4) := (HC2.out.keeps HK4.out id).cell 4
           have d4y0 : w4.cell? ⟨P + 1, 0, none⟩ = some (.int .u8 a1_0) := (HC3.out.keeps HK4.out id).cell 0
           have d4y1 : w4.cell? ⟨P + 1, 1, none⟩ = some (.int .i64 a1_1) := (HC3.out.keeps HK4.out id).cell 1
           have d4y2 : w4.cell? ⟨P + 1, 2, none⟩ = some (.slice a1_2 len1_2 cap1_2) := (HC3.out.keeps HK4.out id).cell 2
           have d4y3 : w4.cell? ⟨P + 1, 3, none⟩ = some (.int .i64 a1_3) := (HC3.out.keeps HK4.out id).cell 3
           have d4y4 : w4.cell? ⟨P + 1, 4, none⟩ = some (.int .i64 a1_4) := (HC3.out.keeps HK4.out id).cell 4
           have d4y5 : w4.cell? ⟨P + 1, 5, none⟩ = some (.int .u8 a1_5) := (HC3.out.keeps HK4.out id).cell 5
           have d4y6 : w4.cell? ⟨P + 1, 6, none⟩ = some (.int .i64 a1_6) := (HC3.out.keeps HK4.out id).cell 6
           have d4y7 : w4.cell? ⟨P + 1, 7, none⟩ = some (.int .u8 a1_7) := (HC3.out.keeps HK4.out id).cell 7
           clear hk4 H1 HCC)
        | (have H1 := HR1
           go_at_call 30
           refine (HR1.out _ (HK4.out)).mono ?_
           rintro e w5 ⟨rfl, hk5⟩
           have HK5 := Lib.hid (HK4.out.trans hk5)
           have HJ5 := Lib.hid (HJ4.out.trans hk5)
           have d5x0 : w5.cell? ⟨P, 0, none⟩ = some (.int .u8 a0_0) := (HC2.out.keeps HK5.out id).cell 0
           have d5x1 : w5.cell? ⟨P, 1, none⟩ = some (.int .i64 a0_1) := (HC2.out.keeps HK5.out id).cell 1
           have d5x2 : w5.cell? ⟨P, 2, none⟩ = some (.slice a0_2 len0_2 cap0_2) := (HC2.out.keeps HK5.out id).cell 2
           have d5x3 : w5.cell? ⟨P, 3, none⟩ = some (.int .i64 a0_3) := (HC2.out.keeps HK5.out id).cell 3
           have d5x4 : w5.cell? ⟨P, 4, none⟩ = some (.int .i64 a0_4) := (HC2.out.keeps HK5.out id).cell 4
           have d5y0 : w5.cell? ⟨P + 1, 0, none⟩ = some (.int .u8 a1_0) := (HC3.out.keeps HK5.out id).cell 0
           have d5y1 : w5.cell? ⟨P + 1, 1, none⟩ = some (.int .i64 a1_1) := (HC3.out.keeps HK5.out id).cell 1
           have d5y2 : w5.cell? ⟨P + 1, 2, none⟩ = some (.slice a1_2 len1_2 cap1_2) := (HC3.out.keeps HK5.out id).cell 2
           have d5y3 : w5.cell? ⟨P + 1, 3, none⟩ = some (.int .i64 a1_3) := (HC3.out.keeps HK5.out id).cell 3
           have d5y4 : w5.cell? ⟨P + 1, 4, none⟩ = some (.int .i64 a1_4) := (HC3.out.keeps HK5.out id).cell 4
           have d5y5 : w5.cell? ⟨P + 1, 5, none⟩ = some (.int .u8 a1_5) := (HC3.out.keeps HK5.out id).cell 5
           have d5y6 : w5.cell? ⟨P + 1, 6, none⟩ = some (.int .i64 a1_6) := (HC3.out.keeps HK5.out id).cell 6
           have d5y7 : w5.cell? ⟨P + 1, 7, none⟩ = some (.int .u8 a1_7) := (HC3.out.keeps HK5.out id).cell 7
           clear hk5 H1 HR1)
        | (have H1 := HCA
           go_at_call 18
           refine (HCA.out _ (HK5.out)).mono ?_
           rintro e w6 ⟨rfl, hk6⟩
           have HK6 := Lib.hid (HK5.out.trans hk6)
           have HJ6 := Lib.hid (HJ5.out.trans hk6)
           have d6x0 : w6.cell? ⟨P, 0, none⟩ = some (.int .u8 a0_0) := (HC2.out.keeps HK6.out id).cell 0
           have d6x1 : w6.cell? ⟨P, 1, none⟩ = some (.int .i64 a0_1) := (HC2.out.keeps HK6.out id).cell 1
           have d6x2 : w6.cell? ⟨P, 2, none⟩ = some (.slice a0_2 len0_2 cap0_2) := (HC2.out.keeps HK6.out id).cell 2
           have d6x3 : w6.cell? ⟨P, 3, none⟩ = some (.int .i64 a0_3) := (HC2.out.keeps HK6.out id).cell 3
           have d6x4 : w6.cell? ⟨P, 4, none⟩ = some (.int .i64 a0_4) := (HC2.out.keeps HK6.out id).cell 4
           have d6y0 : w6.cell? ⟨P + 1, 0, none⟩ = some (.int .u8 a1_0) := (HC3.out.keeps HK6.out id).cell 0
           have d6y1 : w6.cell? ⟨P + 1, 1, none⟩ = some (.int .i64 a1_1) := (HC3.out.keeps HK6.out id).cell 1
           have d6y2 : w6.cell? ⟨P + 1, 2, none⟩ = some (.slice a1_2 len1_2 cap1_2) := (HC3.out.keeps HK6.out id).cell 2
           have d6y3 : w6.cell? ⟨P + 1, 3, none⟩ = some (.int .i64 a1_3) := (HC3.out.keeps HK6.out id).cell 3
           have d6y4 : w6.cell? ⟨P + 1, 4, none⟩ = some (.int .i64 a1_4) := (HC3.out.keeps HK6.out id).cell 4
           have d6y5 : w6.cell? ⟨P + 1, 5, none⟩ = some (.int .u8 a1_5) := (HC3.out.keeps HK6.out id).cell 5
           have d6y6 : w6.cell? ⟨P + 1, 6, none⟩ = some (.int .i64 a1_6) := (HC3.out.keeps HK6.out id).cell 6
           have d6y7 : w6.cell? ⟨P + 1, 7, none⟩ = some (.int .u8 a1_7) := (HC3.out.keeps HK6.out id).cell 7
           clear hk6 H1 HCA)))
    clear x0 x1 x2 x3 x4 y0 y1 y2 y3 y4 y5 y6 y7 d4x0 d4x1 d4x2 d4x3 d4x4 d4y0 d4y1 d4y2 d4y3 d4y4 d4y5 d4y6 d4y7 d5x0 d5x1 d5x2 d5x3 d5x4 d5y0 d5y1 d5y2 d5y3 d5y4 d5y5 d5y6 d5y7 hne0 hne1
    go_upto_region 16 with fail
    have HCELL : Hid (∀ q, Keeps (fun _ => False) w6 q → q.cell? ⟨P, 0, none⟩ = some (.int .u8 a0_0) ∧ q.cell? ⟨P, 1, none⟩ = some (.int .i64 a0_1) ∧ q.cell? ⟨P, 2, none⟩ = some (.slice a0_2 len0_2 cap0_2) ∧ q.cell? ⟨P, 3, none⟩ = some (.int .i64 a0_3) ∧ q.cell? ⟨P, 4, none⟩ = some (.int .i64 a0_4) ∧ q.cell? ⟨P + 1, 0, none⟩ = some (.int .u8 a1_0) ∧ q.cell? ⟨P + 1, 1, none⟩ = some (.int .i64 a1_1) ∧ q.cell? ⟨P + 1, 2, none⟩ = some (.slice a1_2 len1_2 cap1_2) ∧ q.cell? ⟨P + 1, 3, none⟩ = some (.int .i64 a1_3) ∧ q.cell? ⟨P + 1, 4, none⟩ = some (.int .i64 a1_4) ∧ q.cell? ⟨P + 1, 5, none⟩ = some (.int .u8 a1_5) ∧ q.cell? ⟨P + 1, 6, none⟩ = some (.int .i64 a1_6) ∧ q.cell? ⟨P + 1, 7, none⟩ = some (.int .u8 a1_7)) := fun q k => ⟨(HC2.out.keeps (HK6.out.trans k) id).cell 0, (HC2.out.keeps (HK6.out.trans k) id).cell 1, (HC2.out.keeps (HK6.out.trans k) id).cell 2, (HC2.out.keeps (HK6.out.trans k) id).cell 3, (HC2.out.keeps (HK6.out.trans k) id).cell 4, (HC3.out.keeps (HK6.out.trans k) id).cell 0, (HC3.out.keeps (HK6.out.trans k) id).cell 1, (HC3.out.keeps (HK6.out.trans k) id).cell 2, (HC3.out.keeps (HK6.out.trans k) id).cell 3, (HC3.out.keeps (HK6.out.trans k) id).cell 4, (HC3.out.keeps (HK6.out.trans k) id).cell 5, (HC3.out.keeps (HK6.out.trans k) id).cell 6, (HC3.out.keeps (HK6.out.trans k) id).cell 7⟩
    by_cases c0 : e0 = 0
    · by_cases c1 : e1 = 0
      · skip
        subst c0
        subst c1
        have hs2 := neq_same 0
        refine wp_region_held_drew (S := fun w' => Keeps (fun _ => False) w6 w') (by kernel_rfl) ((Keeps.refl _ _).drewN 1) (fun hHeld => ?_)
        generalize w6.drew = wa at hHeld ⊢
        refine wpAnyH_take (i := 0) (v := ?v701) rfl (by kernel_rfl) (by kernel_rfl) (by kernel_rfl) (fun _ _ _ h => h) (Or.inl ⟨by rfl, ?y701⟩) hHeld ?r701
        case y701 => (intro w hSw; go_simp; try with_reducible rfl)
        try simp only [Act.put, List.getElem_toArray, List.getElem_cons_succ, List.getElem_cons_zero, List.setIfInBounds_toArray, List.set_cons_zero, List.set_cons_succ]
        refine wpAnyH_take (i := 1) (v := ?v702) rfl (by kernel_rfl) (by kernel_rfl) (by kernel_rfl) (fun _ _ _ h => h) (Or.inl ⟨by rfl, ?y702⟩) hHeld ?r702
        case y702 => (intro w hSw; obtain ⟨dx0, dx1, dx2, dx3, dx4, dy0, dy1, dy2, dy3, dy4, dy5, dy6, dy7⟩ := HCELL.out w hSw; go_simp; try with_reducible rfl)
        try simp only [Act.put, List.getElem_toArray, List.getElem_cons_succ, List.getElem_cons_zero, List.setIfInBounds_toArray, List.set_cons_zero, List.set_cons_succ]
        refine wpAnyH_ready (rs := [2]) (by kernel_rfl) (by simp) ?_
        refine AllReadyH.cons rfl (fun K hK => ?_) AllReadyH.nil
        go_simp
        refine (HCR.out _ (HK6.out.trans hHeld)).mono ?_
        rintro r703 w703 ⟨rfl, hk⟩
        dsimp only
        have hH := hHeld.trans hk
        clear hk
        refine hK.out _ _ hH (fun hHeld => ?_)
        clear hK K
        try simp only [Act.put, List.getElem_toArray, List.getElem_cons_succ, List.getElem_cons_zero, List.setIfInBounds_toArray, List.set_cons_zero, List.set_cons_succ]
        refine wpAnyH_take (i := 3) (v := ?v704) rfl (by kernel_rfl) (by kernel_rfl) (by kernel_rfl) (fun _ _ _ h => h) (Or.inl ⟨by rfl, ?y704⟩) hHeld ?r704
        case y704 => (intro w hSw; go_simp; try with_reducible rfl)
        try simp only [Act.put, List.getElem_toArray, List.getElem_cons_succ, List.getElem_cons_zero, List.setIfInBounds_toArray, List.set_cons_zero, List.set_cons_succ]
        refine wpAnyH_take (i := 4) (v := ?v705) rfl (by kernel_rfl) (by kernel_rfl) (by kernel_rfl) (fun _ _ _ h => h) (Or.inl ⟨by rfl, ?y705⟩) hHeld ?r705
        case y705 => (intro w hSw; go_simp; try with_reducible rfl)
        try simp only [Act.put, List.getElem_toArray, List.getElem_cons_succ, List.getElem_cons_zero, List.setIfInBounds_toArray, List.set_cons_zero, List.set_cons_succ]
        refine wpAnyH_take (i := 5) (v := undef) rfl (by kernel_rfl) (by kernel_rfl) (by kernel_rfl) (fun _ _ _ h => h) (Or.inr ⟨by rfl, rfl⟩) hHeld ?_
        try simp only [Act.put, List.getElem_toArray, List.getElem_cons_succ, List.getElem_cons_zero, List.setIfInBounds_toArray, List.set_cons_zero, List.set_cons_succ]
        refine wpAnyH_take (i := 6) (v := undef) rfl (by kernel_rfl) (by kernel_rfl) (by kernel_rfl) (fun _ _ _ h => h) (Or.inr ⟨by rfl, rfl⟩) hHeld ?_
        try simp only [Act.put, List.getElem_toArray, List.getElem_cons_succ, List.getElem_cons_zero, List.setIfInBounds_toArray, List.set_cons_zero, List.set_cons_succ]
        refine wpAnyH_take (i := 7) (v := undef) rfl (by kernel_rfl) (by kernel_rfl) (by kernel_rfl) (fun _ _ _ h => h) (Or.inr ⟨by rfl, rfl⟩) hHeld ?_
        try simp only [Act.put, List.getElem_toArray, List.getElem_cons_succ, List.getElem_cons_zero, List.setIfInBounds_toArray, List.set_cons_zero, List.set_cons_succ]
        refine wpAnyH_take (i := 8) (v := undef) rfl (by kernel_rfl) (by kernel_rfl) (by kernel_rfl) (fun _ _ _ h => h) (Or.inr ⟨by rfl, rfl⟩) hHeld ?_
        try simp only [Act.put, List.getElem_toArray, List.getElem_cons_succ, List.getElem_cons_zero, List.setIfInBounds_toArray, List.set_cons_zero, List.set_cons_succ]
        refine wpAnyH_take (i := 9) (v := undef) rfl (by kernel_rfl) (by kernel_rfl) (by kernel_rfl) (fun _ _ _ h => h) (Or.inr ⟨by rfl, rfl⟩) hHeld ?_
        try simp only [Act.put, List.getElem_toArray, List.getElem_cons_succ, List.getElem_cons_zero, List.setIfInBounds_toArray, List.set_cons_zero, List.set_cons_succ]
        refine wpAnyH_take (i := 10) (v := undef) rfl (by kernel_rfl) (by kernel_rfl) (by kernel_rfl) (fun _ _ _ h => h) (Or.inr ⟨by rfl, rfl⟩) hHeld ?_
        try simp only [Act.put, List.getElem_toArray, List.getElem_cons_succ, List.getElem_cons_zero, List.setIfInBounds_toArray, List.set_cons_zero, List.set_cons_succ]
        refine wpAnyH_take (i := 11) (v := undef) rfl (by kernel_rfl) (by kernel_rfl) (by kernel_rfl) (fun _ _ _ h => h) (Or.inr ⟨by rfl, rfl⟩) hHeld ?_
        try simp only [Act.put, List.getElem_toArray, List.getElem_cons_succ, List.getElem_cons_zero, List.setIfInBounds_toArray, List.set_cons_zero, List.set_cons_succ]
        refine wpAnyH_take (i := 12) (v := undef) rfl (by kernel_rfl) (by kernel_rfl) (by kernel_rfl) (fun _ _ _ h => h) (Or.inr ⟨by rfl, rfl⟩) hHeld ?_
        try simp only [Act.put, List.getElem_toArray, List.getElem_cons_succ, List.getElem_cons_zero, List.setIfInBounds_toArray, List.set_cons_zero, List.set_cons_succ]
        refine wpAnyH_take (i := 13) (v := undef) rfl (by kernel_rfl) (by kernel_rfl) (by kernel_rfl) (fun _ _ _ h => h) (Or.inr ⟨by rfl, rfl⟩) hHeld ?_
        try simp only [Act.put, List.getElem_toArray, List.getElem_cons_succ, List.getElem_cons_zero, List.setIfInBounds_toArray, List.set_cons_zero, List.set_cons_succ]
        refine wpAnyH_take (i := 14) (v := undef) rfl (by kernel_rfl) (by kernel_rfl) (by kernel_rfl) (fun _ _ _ h => h) (Or.inr ⟨by rfl, rfl⟩) hHeld ?_
        try simp only [Act.put, List.getElem_toArray, List.getElem_cons_succ, List.getElem_cons_zero, List.setIfInBounds_toArray, List.set_cons_zero, List.set_cons_succ]
        refine wpAnyH_take (i := 15) (v := undef) rfl (by kernel_rfl) (by kernel_rfl) (by kernel_rfl) (fun _ _ _ h => h) (Or.inr ⟨by rfl, rfl⟩) hHeld ?_
        try simp only [Act.put, List.getElem_toArray, List.getElem_cons_succ, List.getElem_cons_zero, List.setIfInBounds_toArray, List.set_cons_zero, List.set_cons_succ]
        refine wpAnyH_take (i := 16) (v := undef) rfl (by kernel_rfl) (by kernel_rfl) (by kernel_rfl) (fun _ _ _ h => h) (Or.inr ⟨by rfl, rfl⟩) hHeld ?_
        try simp only [Act.put, List.getElem_toArray, List.getElem_cons_succ, List.getElem_cons_zero, List.setIfInBounds_toArray, List.set_cons_zero, List.set_cons_succ]
        refine wpAnyH_take (i := 17) (v := undef) rfl (by kernel_rfl) (by kernel_rfl) (by kernel_rfl) (fun _ _ _ h => h) (Or.inr ⟨by rfl, rfl⟩) hHeld ?_
        try simp only [Act.put, List.getElem_toArray, List.getElem_cons_succ, List.getElem_cons_zero, List.setIfInBounds_toArray, List.set_cons_zero, List.set_cons_succ]
        refine wpAnyH_take (i := 18) (v := undef) rfl (by kernel_rfl) (by kernel_rfl) (by kernel_rfl) (fun _ _ _ h => h) (Or.inr ⟨by rfl, rfl⟩) hHeld ?_
        try simp only [Act.put, List.getElem_toArray, List.getElem_cons_succ, List.getElem_cons_zero, List.setIfInBounds_toArray, List.set_cons_zero, List.set_cons_succ]
        refine wpAnyH_take (i := 19) (v := ?v706) rfl (by kernel_rfl) (by kernel_rfl) (by kernel_rfl) (fun _ _ _ h => h) (Or.inl ⟨by rfl, ?y706⟩) hHeld ?r706
        case y706 => (intro w hSw; go_simp; try with_reducible rfl)
        try simp only [Act.put, List.getElem_toArray, List.getElem_cons_succ, List.getElem_cons_zero, List.setIfInBounds_toArray, List.set_cons_zero, List.set_cons_succ]
        refine wpAnyH_take (i := 20) (v := ?v707) rfl (by kernel_rfl) (by kernel_rfl) (by kernel_rfl) (fun _ _ _ h => h) (Or.inl ⟨by rfl, ?y707⟩) hHeld ?r707
        case y707 => (intro w hSw; go_simp; try with_reducible rfl)
        try simp only [Act.put, List.getElem_toArray, List.getElem_cons_succ, List.getElem_cons_zero, List.setIfInBounds_toArray, List.set_cons_zero, List.set_cons_succ]
        refine wpAnyH_take (i := 21) (v := ?v708) rfl (by kernel_rfl) (by kernel_rfl) (by kernel_rfl) (fun _ _ _ h => h) (Or.inl ⟨by rfl, ?y708⟩) hHeld ?r708
        case y708 => (intro w hSw; go_simp; try with_reducible rfl)
        try simp only [Act.put, List.getElem_toArray, List.getElem_cons_succ, List.getElem_cons_zero, List.setIfInBounds_toArray, List.set_cons_zero, List.set_cons_succ]
        refine wpAnyH_take (i := 22) (v := ?v709) rfl (by kernel_rfl) (by kernel_rfl) (by kernel_rfl) (fun _ _ _ h => h) (Or.inl ⟨by rfl, ?y709⟩) hHeld ?r709
        case y709 => (intro w hSw; go_simp; try with_reducible rfl)
        try simp only [Act.put, List.getElem_toArray, List.getElem_cons_succ, List.getElem_cons_zero, List.setIfInBounds_toArray, List.set_cons_zero, List.set_cons_succ]
        refine wpAnyH_take (i := 23) (v := ?v710) rfl (by kernel_rfl) (by kernel_rfl) (by kernel_rfl) (fun _ _ _ h => h) (Or.inl ⟨by rfl, ?y710⟩) hHeld ?r710
        case y710 => (intro w hSw; go_simp; try with_reducible rfl)
        try simp only [Act.put, List.getElem_toArray, List.getElem_cons_succ, List.getElem_cons_zero, List.setIfInBounds_toArray, List.set_cons_zero, List.set_cons_succ]
        refine wpAnyH_take (i := 24) (v := undef) rfl (by kernel_rfl) (by kernel_rfl) (by kernel_rfl) (fun _ _ _ h => h) (Or.inr ⟨by rfl, rfl⟩) hHeld ?_
        try simp only [Act.put, List.getElem_toArray, List.getElem_cons_succ, List.getElem_cons_zero, List.setIfInBounds_toArray, List.set_cons_zero, List.set_cons_succ]
        refine wpAnyH_take (i := 25) (v := undef) rfl (by kernel_rfl) (by kernel_rfl) (by kernel_rfl) (fun _ _ _ h => h) (Or.inr ⟨by rfl, rfl⟩) hHeld ?_
        try simp only [Act.put, List.getElem_toArray, List.getElem_cons_succ, List.getElem_cons_zero, List.setIfInBounds_toArray, List.set_cons_zero, List.set_cons_succ]
        refine wpAnyH_take (i := 26) (v := undef) rfl (by kernel_rfl) (by kernel_rfl) (by kernel_rfl) (fun _ _ _ h => h) (Or.inr ⟨by rfl, rfl⟩) hHeld ?_
        try simp only [Act.put, List.getElem_toArray, List.getElem_cons_succ, List.getElem_cons_zero, List.setIfInBounds_toArray, List.set_cons_zero, List.set_cons_succ]
        refine wpAnyH_take (i := 27) (v := undef) rfl (by kernel_rfl) (by kernel_rfl) (by kernel_rfl) (fun _ _ _ h => h) (Or.inr ⟨by rfl, rfl⟩) hHeld ?_
        try simp only [Act.put, List.getElem_toArray, List.getElem_cons_succ, List.getElem_cons_zero, List.setIfInBounds_toArray, List.set_cons_zero, List.set_cons_succ]
        refine wpAnyH_take (i := 28) (v := undef) rfl (by kernel_rfl) (by kernel_rfl) (by kernel_rfl) (fun _ _ _ h => h) (Or.inr ⟨by rfl, rfl⟩) hHeld ?_
        try simp only [Act.put, List.getElem_toArray, List.getElem_cons_succ, List.getElem_cons_zero, List.setIfInBounds_toArray, List.set_cons_zero, List.set_cons_succ]
        refine wpAnyH_take (i := 29) (v := undef) rfl (by kernel_rfl) (by kernel_rfl) (by kernel_rfl) (fun _ _ _ h => h) (Or.inr ⟨by rfl, rfl⟩) hHeld ?_
        try simp only [Act.put, List.getElem_toArray, List.getElem_cons_succ, List.getElem_cons_zero, List.setIfInBounds_toArray, List.set_cons_zero, List.set_cons_succ]
        refine wpAnyH_take (i := 30) (v := undef) rfl (by kernel_rfl) (by kernel_rfl) (by kernel_rfl) (fun _ _ _ h => h) (Or.inr ⟨by rfl, rfl⟩) hHeld ?_
        try simp only [Act.put, List.getElem_toArray, List.getElem_cons_succ, List.getElem_cons_zero, List.setIfInBounds_toArray, List.set_cons_zero, List.set_cons_succ]
        refine wpAnyH_take (i := 31) (v := undef) rfl (by kernel_rfl) (by kernel_rfl) (by kernel_rfl) (fun _ _ _ h => h) (Or.inr ⟨by rfl, rfl⟩) hHeld ?_
        try simp only [Act.put, List.getElem_toArray, List.getElem_cons_succ, List.getElem_cons_zero, List.setIfInBounds_toArray, List.set_cons_zero, List.set_cons_succ]
        refine wpAnyH_take (i := 32) (v := undef) rfl (by kernel_rfl) (by kernel_rfl) (by kernel_rfl) (fun _ _ _ h => h) (Or.inr ⟨by rfl, rfl⟩) hHeld ?_
        try simp only [Act.put, List.getElem_toArray, List.getElem_cons_succ, List.getElem_cons_zero, List.setIfInBounds_toArray, List.set_cons_zero, List.set_cons_succ]
        refine wpAnyH_take (i := 33) (v := undef) rfl (by kernel_rfl) (by kernel_rfl) (by kernel_rfl) (fun _ _ _ h => h) (Or.inr ⟨by rfl, rfl⟩) hHeld ?_
        try simp only [Act.put, List.getElem_toArray, List.getElem_cons_succ, List.getElem_cons_zero, List.setIfInBounds_toArray, List.set_cons_zero, List.set_cons_succ]
        refine wpAnyH_take (i := 34) (v := undef) rfl (by kernel_rfl) (by kernel_rfl) (by kernel_rfl) (fun _ _ _ h => h) (Or.inr ⟨by rfl, rfl⟩) hHeld ?_
        try simp only [Act.put, List.getElem_toArray, List.getElem_cons_succ, List.getElem_cons_zero, List.setIfInBounds_toArray, List.set_cons_zero, List.set_cons_succ]
        refine wpAnyH_take (i := 35) (v := undef) rfl (by kernel_rfl) (by kernel_rfl) (by kernel_rfl) (fun _ _ _ h => h) (Or.inr ⟨by rfl, rfl⟩) hHeld ?_
        try simp only [Act.put, List.getElem_toArray, List.getElem_cons_succ, List.getElem_cons_zero, List.setIfInBounds_toArray, List.set_cons_zero, List.set_cons_succ]
        refine wpAnyH_take (i := 36) (v := ?v711) rfl (by kernel_rfl) (by kernel_rfl) (by kernel_rfl) (fun _ _ _ h => h) (Or.inl ⟨by rfl, ?y711⟩) hHeld ?r711
        case y711 => (intro w hSw; go_simp; try with_reducible rfl)
        try simp only [Act.put, List.getElem_toArray, List.getElem_cons_succ, List.getElem_cons_zero, List.setIfInBounds_toArray, List.set_cons_zero, List.set_cons_succ]
        refine wpAnyH_take (i := 37) (v := ?v712) rfl (by kernel_rfl) (by kernel_rfl) (by kernel_rfl) (fun _ _ _ h => h) (Or.inl ⟨by rfl, ?y712⟩) hHeld ?r712
        case y712 => (intro w hSw; go_simp; try with_reducible rfl)
        try simp only [Act.put, List.getElem_toArray, List.getElem_cons_succ, List.getElem_cons_zero, List.setIfInBounds_toArray, List.set_cons_zero, List.set_cons_succ]
        refine wpAnyH_done (by kernel_rfl) ?_ _
        obtain ⟨dx0, dx1, dx2, dx3, dx4, dy0, dy1, dy2, dy3, dy4, dy5, dy6, dy7⟩ := HCELL.out _ hHeld
        have HKz := Lib.hid (HK6.out.trans hHeld)
        clear hHeld
        go_wp2_with (first
          | (go_at_call 19
             refine (HPN.out _).mono ?_
             rintro e v1 ⟨rfl, hk⟩
             have HKa := Lib.hid (HKz.out.trans hk)
             have dax0 : v1.cell? ⟨P, 0, none⟩ = some (.int .u8 a0_0) := (HC2.out.keeps HKa.out id).cell 0
             have dax1 : v1.cell? ⟨P, 1, none⟩ = some (.int .i64 a0_1) := (HC2.out.keeps HKa.out id).cell 1
             have dax2 : v1.cell? ⟨P, 2, none⟩ = some (.slice a0_2 len0_2 cap0_2) := (HC2.out.keeps HKa.out id).cell 2
             have dax3 : v1.cell? ⟨P, 3, none⟩ = some (.int .i64 a0_3) := (HC2.out.keeps HKa.out id).cell 3
             have dax4 : v1.cell? ⟨P, 4, none⟩ = some (.int .i64 a0_4) := (HC2.out.keeps HKa.out id).cell 4
             have day0 : v1.cell? ⟨P + 1, 0, none⟩ = some (.int .u8 a1_0) := (HC3.out.keeps HKa.out id).cell 0
             have day1 : v1.cell? ⟨P + 1, 1, none⟩ = some (.int .i64 a1_1) := (HC3.out.keeps HKa.out id).cell 1
             have day2 : v1.cell? ⟨P + 1, 2, none⟩ = some (.slice a1_2 len1_2 cap1_2) := (HC3.out.keeps HKa.out id).cell 2
             have day3 : v1.cell? ⟨P + 1, 3, none⟩ = some (.int .i64 a1_3) := (HC3.out.keeps HKa.out id).cell 3
             have day4 : v1.cell? ⟨P + 1, 4, none⟩ = some (.int .i64 a1_4) := (HC3.out.keeps HKa.out id).cell 4
             have day5 : v1.cell? ⟨P + 1, 5, none⟩ = some (.int .u8 a1_5) := (HC3.out.keeps HKa.out id).cell 5
             have day6 : v1.cell? ⟨P + 1, 6, none⟩ = some (.int .i64 a1_6) := (HC3.out.keeps HKa.out id).cell 6
             have day7 : v1.cell? ⟨P + 1, 7, none⟩ = some (.int .u8 a1_7) := (HC3.out.keeps HKa.out id).cell 7
             clear hk HPN)
          | (go_at_call 20
             refine (HAN.out _).mono ?_
             rintro e v2 ⟨rfl, hk⟩
             have HKb := Lib.hid (HKa.out.trans hk)
             clear hk HAN))
        go_ret
        exact ⟨rfl, (HK1.out.trans HKb.out).below (Nat.le_refl _) (fun _ h => h.elim)⟩
      · skip
        subst c0
        have HC1 := Lib.hid c1
        have hq1 := neq_true e1 c1
        have hs1 := neq_same e1
        have hz1 : (e1 != 0) = true := by simpa using c1
        clear c1
        have hs2 := neq_same 0
        refine wp_region_held_drew (S := fun w' => Keeps (fun _ => False) w6 w') (by kernel_rfl) ((Keeps.refl _ _).drewN 1) (fun hHeld => ?_)
        generalize w6.drew = wa at hHeld ⊢
        refine wpAnyH_take (i := 0) (v := ?v713) rfl (by kernel_rfl) (by kernel_rfl) (by kernel_rfl) (fun _ _ _ h => h) (Or.inl ⟨by rfl, ?y713⟩) hHeld ?r713
        case y713 => (intro w hSw; go_simp; try with_reducible rfl)
        try simp only [Act.put, List.getElem_toArray, List.getElem_cons_succ, List.getElem_cons_zero, List.setIfInBounds_toArray, List.set_cons_zero, List.set_cons_succ]
        refine wpAnyH_take (i := 1) (v := ?v714) rfl (by kernel_rfl) (by kernel_rfl) (by kernel_rfl) (fun _ _ _ h => h) (Or.inl ⟨by rfl, ?y714⟩) hHeld ?r714
        case y714 => (intro w hSw; obtain ⟨dx0, dx1, dx2, dx3, dx4, dy0, dy1, dy2, dy3, dy4, dy5, dy6, dy7⟩ := HCELL.out w hSw; go_simp; try with_reducible rfl)
        try simp only [Act.put, List.getElem_toArray, List.getElem_cons_succ, List.getElem_cons_zero, List.setIfInBounds_toArray, List.set_cons_zero, List.set_cons_succ]
        refine wpAnyH_ready (rs := [2]) (by kernel_rfl) (by simp) ?_
        refine AllReadyH.cons rfl (fun K hK => ?_) AllReadyH.nil
        go_simp
        refine (HCR.out _ (HK6.out.trans hHeld)).mono ?_
        rintro r715 w715 ⟨rfl, hk⟩
        dsimp only
        have hH := hHeld.trans hk
        clear hk
        refine hK.out _ _ hH (fun hHeld => ?_)
        clear hK K
        try simp only [Act.put, List.getElem_toArray, List.getElem_cons_succ, List.getElem_cons_zero, List.setIfInBounds_toArray, List.set_cons_zero, List.set_cons_succ]
        refine wpAnyH_take (i := 3) (v := ?v716) rfl (by kernel_rfl) (by kernel_rfl) (by kernel_rfl) (fun _ _ _ h => h) (Or.inl ⟨by rfl, ?y716⟩) hHeld ?r716
        case y716 => (intro w hSw; go_simp; try with_reducible rfl)
        try simp only [Act.put, List.getElem_toArray, List.getElem_cons_succ, List.getElem_cons_zero, List.setIfInBounds_toArray, List.set_cons_zero, List.set_cons_succ]
        refine wpAnyH_take (i := 4) (v := ?v717) rfl (by kernel_rfl) (by kernel_rfl) (by kernel_rfl) (fun _ _ _ h => h) (Or.inl ⟨by rfl, ?y717⟩) hHeld ?r717
        case y717 => (intro w hSw; go_simp; try with_reducible rfl)
        try simp only [Act.put, List.getElem_toArray, List.getElem_cons_succ, List.getElem_cons_zero, List.setIfInBounds_toArray, List.set_cons_zero, List.set_cons_succ]
        refine wpAnyH_take (i := 5) (v := undef) rfl (by kernel_rfl) (by kernel_rfl) (by kernel_rfl) (fun _ _ _ h => h) (Or.inr ⟨by rfl, rfl⟩) hHeld ?_
        try simp only [Act.put, List.getElem_toArray, List.getElem_cons_succ, List.getElem_cons_zero, List.setIfInBounds_toArray, List.set_cons_zero, List.set_cons_succ]
        refine wpAnyH_take (i := 6) (v := undef) rfl (by kernel_rfl) (by kernel_rfl) (by kernel_rfl) (fun _ _ _ h => h) (Or.inr ⟨by rfl, rfl⟩) hHeld ?_
        try simp only [Act.put, List.getElem_toArray, List.getElem_cons_succ, List.getElem_cons_zero, List.setIfInBounds_toArray, List.set_cons_zero, List.set_cons_succ]
        refine wpAnyH_take (i := 7) (v := undef) rfl (by kernel_rfl) (by kernel_rfl) (by kernel_rfl) (fun _ _ _ h => h) (Or.inr ⟨by rfl, rfl⟩) hHeld ?_
        try simp only [Act.put, List.getElem_toArray, List.getElem_cons_succ, List.getElem_cons_zero, List.setIfInBounds_toArray, List.set_cons_zero, List.set_cons_succ]
        refine wpAnyH_take (i := 8) (v := undef) rfl (by kernel_rfl) (by kernel_rfl) (by kernel_rfl) (fun _ _ _ h => h) (Or.inr ⟨by rfl, rfl⟩) hHeld ?_
        try simp only [Act.put, List.getElem_toArray, List.getElem_cons_succ, List.getElem_cons_zero, List.setIfInBounds_toArray, List.set_cons_zero, List.set_cons_succ]
        refine wpAnyH_take (i := 9) (v := undef) rfl (by kernel_rfl) (by kernel_rfl) (by kernel_rfl) (fun _ _ _ h => h) (Or.inr ⟨by rfl, rfl⟩) hHeld ?_
        try simp only [Act.put, List.getElem_toArray, List.getElem_cons_succ, List.getElem_cons_zero, List.setIfInBounds_toArray, List.set_cons_zero, List.set_cons_succ]
        refine wpAnyH_take (i := 10) (v := undef) rfl (by kernel_rfl) (by kernel_rfl) (by kernel_rfl) (fun _ _ _ h => h) (Or.inr ⟨by rfl, rfl⟩) hHeld ?_
        try simp only [Act.put, List.getElem_toArray, List.getElem_cons_succ, List.getElem_cons_zero, List.setIfInBounds_toArray, List.set_cons_zero, List.set_cons_succ]
        refine wpAnyH_take (i := 11) (v := undef) rfl (by kernel_rfl) (by kernel_rfl) (by kernel_rfl) (fun _ _ _ h => h) (Or.inr ⟨by rfl, rfl⟩) hHeld ?_
        try simp only [Act.put, List.getElem_toArray, List.getElem_cons_succ, List.getElem_cons_zero, List.setIfInBounds_toArray, List.set_cons_zero, List.set_cons_succ]
        refine wpAnyH_take (i := 12) (v := undef) rfl (by kernel_rfl) (by kernel_rfl) (by kernel_rfl) (fun _ _ _ h => h) (Or.inr ⟨by rfl, rfl⟩) hHeld ?_
        try simp only [Act.put, List.getElem_toArray, List.getElem_cons_succ, List.getElem_cons_zero, List.setIfInBounds_toArray, List.set_cons_zero, List.set_cons_succ]
        refine wpAnyH_take (i := 13) (v := undef) rfl (by kernel_rfl) (by kernel_rfl) (by kernel_rfl) (fun _ _ _ h => h) (Or.inr ⟨by rfl, rfl⟩) hHeld ?_
        try simp only [Act.put, List.getElem_toArray, List.getElem_cons_succ, List.getElem_cons_zero, List.setIfInBounds_toArray, List.set_cons_zero, List.set_cons_succ]
        refine wpAnyH_take (i := 14) (v := undef) rfl (by kernel_rfl) (by kernel_rfl) (by kernel_rfl) (fun _ _ _ h => h) (Or.inr ⟨by rfl, rfl⟩) hHeld ?_
        try simp only [Act.put, List.getElem_toArray, List.getElem_cons_succ, List.getElem_cons_zero, List.setIfInBounds_toArray, List.set_cons_zero, List.set_cons_succ]
        refine wpAnyH_take (i := 15) (v := undef) rfl (by kernel_rfl) (by kernel_rfl) (by kernel_rfl) (fun _ _ _ h => h) (Or.inr ⟨by rfl, rfl⟩) hHeld ?_
        try simp only [Act.put, List.getElem_toArray, List.getElem_cons_succ, List.getElem_cons_zero, List.setIfInBounds_toArray, List.set_cons_zero, List.set_cons_succ]
        refine wpAnyH_take (i := 16) (v := undef) rfl (by kernel_rfl) (by kernel_rfl) (by kernel_rfl) (fun _ _ _ h => h) (Or.inr ⟨by rfl, rfl⟩) hHeld ?_
        try simp only [Act.put, List.getElem_toArray, List.getElem_cons_succ, List.getElem_cons_zero, List.setIfInBounds_toArray, List.set_cons_zero, List.set_cons_succ]
        refine wpAnyH_take (i := 17) (v := undef) rfl (by kernel_rfl) (by kernel_rfl) (by kernel_rfl) (fun _ _ _ h => h) (Or.inr ⟨by rfl, rfl⟩) hHeld ?_
        try simp only [Act.put, List.getElem_toArray, List.getElem_cons_succ, List.getElem_cons_zero, List.setIfInBounds_toArray, List.set_cons_zero, List.set_cons_succ]
        refine wpAnyH_take (i := 18) (v := undef) rfl (by kernel_rfl) (by kernel_rfl) (by kernel_rfl) (fun _ _ _ h => h) (Or.inr ⟨by rfl, rfl⟩) hHeld ?_
        try simp only [Act.put, List.getElem_toArray, List.getElem_cons_succ, List.getElem_cons_zero, List.setIfInBounds_toArray, List.set_cons_zero, List.set_cons_succ]
        refine wpAnyH_take (i := 19) (v := ?v718) rfl (by kernel_rfl) (by kernel_rfl) (by kernel_rfl) (fun _ _ _ h => h) (Or.inl ⟨by rfl, ?y718⟩) hHeld ?r718
        case y718 => (intro w hSw; go_simp; try with_reducible rfl)
        try simp only [Act.put, List.getElem_toArray, List.getElem_cons_succ, List.getElem_cons_zero, List.setIfInBounds_toArray, List.set_cons_zero, List.set_cons_succ]
        refine wpAnyH_take (i := 20) (v := ?v719) rfl (by kernel_rfl) (by kernel_rfl) (by kernel_rfl) (fun _ _ _ h => h) (Or.inl ⟨by rfl, ?y719⟩) hHeld ?r719
        case y719 => (intro w hSw; go_simp; try with_reducible rfl)
        try simp only [Act.put, List.getElem_toArray, List.getElem_cons_succ, List.getElem_cons_zero, List.setIfInBounds_toArray, List.set_cons_zero, List.set_cons_succ]
        refine wpAnyH_take (i := 21) (v := ?v720) rfl (by kernel_rfl) (by kernel_rfl) (by kernel_rfl) (fun _ _ _ h => h) (Or.inl ⟨by rfl, ?y720⟩) hHeld ?r720
        case y720 => (intro w hSw; go_simp; try with_reducible rfl)
        try simp only [Act.put, List.getElem_toArray, List.getElem_cons_succ, List.getElem_cons_zero, List.setIfInBounds_toArray, List.set_cons_zero, List.set_cons_succ]
        refine wpAnyH_take (i := 22) (v := ?v721) rfl (by kernel_rfl) (by kernel_rfl) (by kernel_rfl) (fun _ _ _ h => h) (Or.inl ⟨by rfl, ?y721⟩) hHeld ?r721
        case y721 => (intro w hSw; go_simp; try with_reducible rfl)
        try simp only [Act.put, List.getElem_toArray, List.getElem_cons_succ, List.getElem_cons_zero, List.setIfInBounds_toArray, List.set_cons_zero, List.set_cons_succ]
        refine wpAnyH_take (i := 23) (v := ?v722) rfl (by kernel_rfl) (by kernel_rfl) (by kernel_rfl) (fun _ _ _ h => h) (Or.inl ⟨by rfl, ?y722⟩) hHeld ?r722
        case y722 => (intro w hSw; go_simp; try with_reducible rfl)
        try simp only [Act.put, List.getElem_toArray, List.getElem_cons_succ, List.getElem_cons_zero, List.setIfInBounds_toArray, List.set_cons_zero, List.set_cons_succ]
        refine wpAnyH_take (i := 24) (v := ?v723) rfl (by kernel_rfl) (by kernel_rfl) (by kernel_rfl) (fun _ _ _ h => h) (Or.inl ⟨by rfl, ?y723⟩) hHeld ?r723
        case y723 => (intro w hSw; obtain ⟨dx0, dx1, dx2, dx3, dx4, dy0, dy1, dy2, dy3, dy4, dy5, dy6, dy7⟩ := HCELL.out w hSw; go_simp; try with_reducible rfl)
        try simp only [Act.put, List.getElem_toArray, List.getElem_cons_succ, List.getElem_cons_zero, List.setIfInBounds_toArray, List.set_cons_zero, List.set_cons_succ]
        refine wpAnyH_take (i := 25) (v := ?v724) rfl (by kernel_rfl) (by kernel_rfl) (by kernel_rfl) (fun _ _ _ h => h) (Or.inl ⟨by rfl, ?y724⟩) hHeld ?r724
        case y724 => (intro w hSw; go_simp; try with_reducible rfl)
        try simp only [Act.put, List.getElem_toArray, List.getElem_cons_succ, List.getElem_cons_zero, List.setIfInBounds_toArray, List.set_cons_zero, List.set_cons_succ]
        refine wpAnyH_take (i := 27) (v := ?v725) rfl (by kernel_rfl) (by kernel_rfl) (by kernel_rfl) (fun _ _ _ h => h) (Or.inl ⟨by rfl, ?y725⟩) hHeld ?r725
        case y725 => (intro w hSw; go_simp; try with_reducible rfl)
        try simp only [Act.put, List.getElem_toArray, List.getElem_cons_succ, List.getElem_cons_zero, List.setIfInBounds_toArray, List.set_cons_zero, List.set_cons_succ]
        refine wpAnyH_ready (rs := [26]) (by kernel_rfl) (by simp) ?_
        refine AllReadyH.cons rfl (fun K hK => ?_) AllReadyH.nil
        go_simp
        refine (HPC.out T _ (HK6.out.trans hHeld) HC1.out).mono ?_
        rintro r726 w726 ⟨rfl, hk⟩
        dsimp only
        have hH := hHeld.trans hk
        clear hk
        refine hK.out _ _ hH (fun hHeld => ?_)
        clear hK K
        try simp only [Act.put, List.getElem_toArray, List.getElem_cons_succ, List.getElem_cons_zero, List.setIfInBounds_toArray, List.set_cons_zero, List.set_cons_succ]
        refine wpAnyH_take (i := 28) (v := ?v727) rfl (by kernel_rfl) (by kernel_rfl) (by kernel_rfl) (fun _ _ _ h => h) (Or.inl ⟨by rfl, ?y727⟩) hHeld ?r727
        case y727 => (intro w hSw; go_simp; try with_reducible rfl)
        try simp only [Act.put, List.getElem_toArray, List.getElem_cons_succ, List.getElem_cons_zero, List.setIfInBounds_toArray, List.set_cons_zero, List.set_cons_succ]
        refine wpAnyH_take (i := 29) (v := ?v728) rfl (by kernel_rfl) (by kernel_rfl) (by kernel_rfl) (fun _ _ _ h => h) (Or.inl ⟨by rfl, ?y728⟩) hHeld ?r728
        case y728 => (intro w hSw; go_simp; try with_reducible rfl)
        try simp only [Act.put, List.getElem_toArray, List.getElem_cons_succ, List.getElem_cons_zero, List.setIfInBounds_toArray, List.set_cons_zero, List.set_cons_succ]
        refine wpAnyH_take (i := 30) (v := ?v729) rfl (by kernel_rfl) (by kernel_rfl) (by kernel_rfl) (fun _ _ _ h => h) (Or.inl ⟨by rfl, ?y729⟩) hHeld ?r729
        case y729 => (intro w hSw; go_simp; try with_reducible rfl)
        try simp only [Act.put, List.getElem_toArray, List.getElem_cons_succ, List.getElem_cons_zero, List.setIfInBounds_toArray, List.set_cons_zero, List.set_cons_succ]
        refine wpAnyH_take (i := 31) (v := ?v730) rfl (by kernel_rfl) (by kernel_rfl) (by kernel_rfl) (fun _ _ _ h => h) (Or.inl ⟨by rfl, ?y730⟩) hHeld ?r730
        case y730 => (intro w hSw; go_simp; try with_reducible rfl)
        try simp only [Act.put, List.getElem_toArray, List.getElem_cons_succ, List.getElem_cons_zero, List.setIfInBounds_toArray, List.set_cons_zero, List.set_cons_succ]
        refine wpAnyH_take (i := 32) (v := ?v731) rfl (by kernel_rfl) (by kernel_rfl) (by kernel_rfl) (fun _ _ _ h => h) (Or.inl ⟨by rfl, ?y731⟩) hHeld ?r731
        case y731 => (intro w hSw; go_simp; try with_reducible rfl)
        try simp only [Act.put, List.getElem_toArray, List.getElem_cons_succ, List.getElem_cons_zero, List.setIfInBounds_toArray, List.set_cons_zero, List.set_cons_succ]
        refine wpAnyH_ready (rs := [33]) (by kernel_rfl) (by simp) ?_
        refine AllReadyH.cons rfl (fun K hK => ?_) AllReadyH.nil
        go_simp
        refine (HLN.out _ (HJ6.out.trans hHeld)).mono ?_
        rintro r w' ⟨rfl, hw⟩
        rw [hw]
        clear hw
        dsimp only
        refine hK.out _ _ hHeld (fun hHeld => ?_)
        clear hK K
        try simp only [Act.put, List.getElem_toArray, List.getElem_cons_succ, List.getElem_cons_zero, List.setIfInBounds_toArray, List.set_cons_zero, List.set_cons_succ]
        refine wpAnyH_take (i := 34) (v := ?v732) rfl (by kernel_rfl) (by kernel_rfl) (by kernel_rfl) (fun _ _ _ h => h) (Or.inl ⟨by rfl, ?y732⟩) hHeld ?r732
        case y732 => (intro w hSw; go_simp; try with_reducible rfl)
        try simp only [Act.put, List.getElem_toArray, List.getElem_cons_succ, List.getElem_cons_zero, List.setIfInBounds_toArray, List.set_cons_zero, List.set_cons_succ]
        refine wpAnyH_take (i := 35) (v := ?v733) rfl (by kernel_rfl) (by kernel_rfl) (by kernel_rfl) (fun _ _ _ h => h) (Or.inl ⟨by rfl, ?y733⟩) hHeld ?r733
        case y733 => (intro w hSw; go_simp; try with_reducible rfl)
        try simp only [Act.put, List.getElem_toArray, List.getElem_cons_succ, List.getElem_cons_zero, List.setIfInBounds_toArray, List.set_cons_zero, List.set_cons_succ]
        refine wpAnyH_take (i := 36) (v := ?v734) rfl (by kernel_rfl) (by kernel_rfl) (by kernel_rfl) (fun _ _ _ h => h) (Or.inl ⟨by rfl, ?y734⟩) hHeld ?r734
        case y734 => (intro w hSw; go_simp; try with_reducible rfl)
        try simp only [Act.put, List.getElem_toArray, List.getElem_cons_succ, List.getElem_cons_zero, List.setIfInBounds_toArray, List.set_cons_zero, List.set_cons_succ]
        refine wpAnyH_take (i := 37) (v := ?v735) rfl (by kernel_rfl) (by kernel_rfl) (by kernel_rfl) (fun _ _ _ h => h) (Or.inl ⟨by rfl, ?y735⟩) hHeld ?r735
        case y735 => (intro w hSw; go_simp; try with_reducible rfl)
        try simp only [Act.put, List.getElem_toArray, List.getElem_cons_succ, List.getElem_cons_zero, List.setIfInBounds_toArray, List.set_cons_zero, List.set_cons_succ]
        refine wpAnyH_done (by kernel_rfl) ?_ _
        obtain ⟨dx0, dx1, dx2, dx3, dx4, dy0, dy1, dy2, dy3, dy4, dy5, dy6, dy7⟩ := HCELL.out _ hHeld
        have HKz := Lib.hid (HK6.out.trans hHeld)
        clear hHeld
        go_wp2_with (first
          | (go_at_call 19
             refine (HPN.out _).mono ?_
             rintro e v1 ⟨rfl, hk⟩
             have HKa := Lib.hid (HKz.out.trans hk)
             have dax0 : v1.cell? ⟨P, 0, none⟩ = some (.int .u8 a0_0) := (HC2.out.keeps HKa.out id).cell 0
             have dax1 : v1.cell? ⟨P, 1, none⟩ = some (.int .i64 a0_1) := (HC2.out.keeps HKa.out id).cell 1
             have dax2 : v1.cell? ⟨P, 2, none⟩ = some (.slice a0_2 len0_2 cap0_2) := (HC2.out.keeps HKa.out id).cell 2
             have dax3 : v1.cell? ⟨P, 3, none⟩ = some (.int .i64 a0_3) := (HC2.out.keeps HKa.out id).cell 3
             have dax4 : v1.cell? ⟨P, 4, none⟩ = some (.int .i64 a0_4) := (HC2.out.keeps HKa.out id).cell 4
             have day0 : v1.cell? ⟨P + 1, 0, none⟩ = some (.int .u8 a1_0) := (HC3.out.keeps HKa.out id).cell 0
             have day1 : v1.cell? ⟨P + 1, 1, none⟩ = some (.int .i64 a1_1) := (HC3.out.keeps HKa.out id).cell 1
             have day2 : v1.cell? ⟨P + 1, 2, none⟩ = some (.slice a1_2 len1_2 cap1_2) := (HC3.out.keeps HKa.out id).cell 2
             have day3 : v1.cell? ⟨P + 1, 3, none⟩ = some (.int .i64 a1_3) := (HC3.out.keeps HKa.out id).cell 3
             have day4 : v1.cell? ⟨P + 1, 4, none⟩ = some (.int .i64 a1_4) := (HC3.out.keeps HKa.out id).cell 4
             have day5 : v1.cell? ⟨P + 1, 5, none⟩ = some (.int .u8 a1_5) := (HC3.out.keeps HKa.out id).cell 5
             have day6 : v1.cell? ⟨P + 1, 6, none⟩ = some (.int .i64 a1_6) := (HC3.out.keeps HKa.out id).cell 6
             have day7 : v1.cell? ⟨P + 1, 7, none⟩ = some (.int .u8 a1_7) := (HC3.out.keeps HKa.out id).cell 7
             clear hk HPN)
          | (go_at_call 20
             refine (HAN.out _).mono ?_
             rintro e v2 ⟨rfl, hk⟩
             have HKb := Lib.hid (HKa.out.trans hk)
             clear hk HAN))
        go_ret
        exact ⟨rfl, (HK1.out.trans HKb.out).below (Nat.le_refl _) (fun _ h => h.elim)⟩
    · by_cases c1 : e1 = 0
      · skip
        have HC0 := Lib.hid c0
        have hq0 := neq_true e0 c0
        have hs0 := neq_same e0
        have hz0 : (e0 != 0) = true := by simpa using c0
        clear c0
        subst c1
        have hs2 := neq_same 0
        refine wp_region_held_drew (S := fun w' => Keeps (fun _ => False) w6 w') (by kernel_rfl) ((Keeps.refl _ _).drewN 1) (fun hHeld => ?_)
        generalize w6.drew = wa at hHeld ⊢
        refine wpAnyH_take (i := 0) (v := ?v736) rfl (by kernel_rfl) (by kernel_rfl) (by kernel_rfl) (fun _ _ _ h => h) (Or.inl ⟨by rfl, ?y736⟩) hHeld ?r736
        case y736 => (intro w hSw; go_simp; try with_reducible rfl)
        try simp only [Act.put, List.getElem_toArray, List.getElem_cons_succ, List.getElem_cons_zero, List.setIfInBounds_toArray, List.set_cons_zero, List.set_cons_succ]
        refine wpAnyH_take (i := 1) (v := ?v737) rfl (by kernel_rfl) (by kernel_rfl) (by kernel_rfl) (fun _ _ _ h => h) (Or.inl ⟨by rfl, ?y737⟩) hHeld ?r737
        case y737 => (intro w hSw; obtain ⟨dx0, dx1, dx2, dx3, dx4, dy0, dy1, dy2, dy3, dy4, dy5, dy6, dy7⟩ := HCELL.out w hSw; go_simp; try with_reducible rfl)
        try simp only [Act.put, List.getElem_toArray, List.getElem_cons_succ, List.getElem_cons_zero, List.setIfInBounds_toArray, List.set_cons_zero, List.set_cons_succ]
        refine wpAnyH_ready (rs := [2]) (by kernel_rfl) (by simp) ?_
        refine AllReadyH.cons rfl (fun K hK => ?_) AllReadyH.nil
        go_simp
        refine (HCR.out _ (HK6.out.trans hHeld)).mono ?_
        rintro r738 w738 ⟨rfl, hk⟩
        dsimp only
        have hH := hHeld.trans hk
        clear hk
        refine hK.out _ _ hH (fun hHeld => ?_)
        clear hK K
        try simp only [Act.put, List.getElem_toArray, List.getElem_cons_succ, List.getElem_cons_zero, List.setIfInBounds_toArray, List.set_cons_zero, List.set_cons_succ]
        refine wpAnyH_take (i := 3) (v := ?v739) rfl (by kernel_rfl) (by kernel_rfl) (by kernel_rfl) (fun _ _ _ h => h) (Or.inl ⟨by rfl, ?y739⟩) hHeld ?r739
        case y739 => (intro w hSw; go_simp; try with_reducible rfl)
        try simp only [Act.put, List.getElem_toArray, List.getElem_cons_succ, List.getElem_cons_zero, List.setIfInBounds_toArray, List.set_cons_zero, List.set_cons_succ]
        refine wpAnyH_take (i := 4) (v := ?v740) rfl (by kernel_rfl) (by kernel_rfl) (by kernel_rfl) (fun _ _ _ h => h) (Or.inl ⟨by rfl, ?y740⟩) hHeld ?r740
        case y740 => (intro w hSw; go_simp; try with_reducible rfl)
        try simp only [Act.put, List.getElem_toArray, List.getElem_cons_succ, List.getElem_cons_zero, List.setIfInBounds_toArray, List.set_cons_zero, List.set_cons_succ]
        refine wpAnyH_take (i := 5) (v := ?v741) rfl (by kernel_rfl) (by kernel_rfl) (by kernel_rfl) (fun _ _ _ h => h) (Or.inl ⟨by rfl, ?y741⟩) hHeld ?r741
        case y741 => (intro w hSw; obtain ⟨dx0, dx1, dx2, dx3, dx4, dy0, dy1, dy2, dy3, dy4, dy5, dy6, dy7⟩ := HCELL.out w hSw; go_simp; try with_reducible rfl)
        try simp only [Act.put, List.getElem_toArray, List.getElem_cons_succ, List.getElem_cons_zero, List.setIfInBounds_toArray, List.set_cons_zero, List.set_cons_succ]
        refine wpAnyH_take (i := 6) (v := ?v742) rfl (by kernel_rfl) (by kernel_rfl) (by kernel_rfl) (fun _ _ _ h => h) (Or.inl ⟨by rfl, ?y742⟩) hHeld ?r742
        case y742 => (intro w hSw; go_simp; try with_reducible rfl)
        try simp only [Act.put, List.getElem_toArray, List.getElem_cons_succ, List.getElem_cons_zero, List.setIfInBounds_toArray, List.set_cons_zero, List.set_cons_succ]
        refine wpAnyH_take (i := 8) (v := ?v743) rfl (by kernel_rfl) (by kernel_rfl) (by kernel_rfl) (fun _ _ _ h => h) (Or.inl ⟨by rfl, ?y743⟩) hHeld ?r743
        case y743 => (intro w hSw; go_simp; try with_reducible rfl)
        try simp only [Act.put, List.getElem_toArray, List.getElem_cons_succ, List.getElem_cons_zero, List.setIfInBounds_toArray, List.set_cons_zero, List.set_cons_succ]
        refine wpAnyH_take (i := 9) (v := ?v744) rfl (by kernel_rfl) (by kernel_rfl) (by kernel_rfl) (fun _ _ _ h => h) (Or.inl ⟨by rfl, ?y744⟩) hHeld ?r744
        case y744 => (intro w hSw; obtain ⟨dx0, dx1, dx2, dx3, dx4, dy0, dy1, dy2, dy3, dy4, dy5, dy6, dy7⟩ := HCELL.out w hSw; go_simp; try with_reducible rfl)
        try simp only [Act.put, List.getElem_toArray, List.getElem_cons_succ, List.getElem_cons_zero, List.setIfInBounds_toArray, List.set_cons_zero, List.set_cons_succ]
        refine wpAnyH_ready (rs := [7]) (by kernel_rfl) (by simp) ?_
        refine AllReadyH.cons rfl (fun K hK => ?_) AllReadyH.nil
        go_simp
        refine (HPB.out T _ (HK6.out.trans hHeld) HC0.out).mono ?_
        rintro r745 w745 ⟨rfl, hk⟩
        dsimp only
        have hH := hHeld.trans hk
        clear hk
        refine hK.out _ _ hH (fun hHeld => ?_)
        clear hK K
        try simp only [Act.put, List.getElem_toArray, List.getElem_cons_succ, List.getElem_cons_zero, List.setIfInBounds_toArray, List.set_cons_zero, List.set_cons_succ]
        refine wpAnyH_ready (rs := [10]) (by kernel_rfl) (by simp) ?_
        refine AllReadyH.cons rfl (fun K hK => ?_) AllReadyH.nil
        go_simp
        refine (HCR.out _ (HK6.out.trans hHeld)).mono ?_
        rintro r746 w746 ⟨rfl, hk⟩
        dsimp only
        have hH := hHeld.trans hk
        clear hk
        refine hK.out _ _ hH (fun hHeld => ?_)
        clear hK K
        try simp only [Act.put, List.getElem_toArray, List.getElem_cons_succ, List.getElem_cons_zero, List.setIfInBounds_toArray, List.set_cons_zero, List.set_cons_succ]
        refine wpAnyH_take (i := 11) (v := ?v747) rfl (by kernel_rfl) (by kernel_rfl) (by kernel_rfl) (fun _ _ _ h => h) (Or.inl ⟨by rfl, ?y747⟩) hHeld ?r747
        case y747 => (intro w hSw; go_simp; try with_reducible rfl)
        try simp only [Act.put, List.getElem_toArray, List.getElem_cons_succ, List.getElem_cons_zero, List.setIfInBounds_toArray, List.set_cons_zero, List.set_cons_succ]
        refine wpAnyH_take (i := 12) (v := ?v748) rfl (by kernel_rfl) (by kernel_rfl) (by kernel_rfl) (fun _ _ _ h => h) (Or.inl ⟨by rfl, ?y748⟩) hHeld ?r748
        case y748 => (intro w hSw; go_simp; try with_reducible rfl)
        try simp only [Act.put, List.getElem_toArray, List.getElem_cons_succ, List.getElem_cons_zero, List.setIfInBounds_toArray, List.set_cons_zero, List.set_cons_succ]
        refine wpAnyH_take (i := 13) (v := ?v749) rfl (by kernel_rfl) (by kernel_rfl) (by kernel_rfl) (fun _ _ _ h => h) (Or.inl ⟨by rfl, ?y749⟩) hHeld ?r749
        case y749 => (intro w hSw; go_simp; try with_reducible rfl)
        try simp only [Act.put, List.getElem_toArray, List.getElem_cons_succ, List.getElem_cons_zero, List.setIfInBounds_toArray, List.set_cons_zero, List.set_cons_succ]
        refine wpAnyH_take (i := 14) (v := ?v750) rfl (by kernel_rfl) (by kernel_rfl) (by kernel_rfl) (fun _ _ _ h => h) (Or.inl ⟨by rfl, ?y750⟩) hHeld ?r750
        case y750 => (intro w hSw; go_simp; try with_reducible rfl)
        try simp only [Act.put, List.getElem_toArray, List.getElem_cons_succ, List.getElem_cons_zero, List.setIfInBounds_toArray, List.set_cons_zero, List.set_cons_succ]
        refine wpAnyH_take (i := 15) (v := ?v751) rfl (by kernel_rfl) (by kernel_rfl) (by kernel_rfl) (fun _ _ _ h => h) (Or.inl ⟨by rfl, ?y751⟩) hHeld ?r751
        case y751 => (intro w hSw; go_simp; try with_reducible rfl)
        try simp only [Act.put, List.getElem_toArray, List.getElem_cons_succ, List.getElem_cons_zero, List.setIfInBounds_toArray, List.set_cons_zero, List.set_cons_succ]
        refine wpAnyH_ready (rs := [16]) (by kernel_rfl) (by simp) ?_
        refine AllReadyH.cons rfl (fun K hK => ?_) AllReadyH.nil
        go_simp
        refine (HLN.out _ (HJ6.out.trans hHeld)).mono ?_
        rintro r w' ⟨rfl, hw⟩
        rw [hw]
        clear hw
        dsimp only
        refine hK.out _ _ hHeld (fun hHeld => ?_)
        clear hK K
        try simp only [Act.put, List.getElem_toArray, List.getElem_cons_succ, List.getElem_cons_zero, List.setIfInBounds_toArray, List.set_cons_zero, List.set_cons_succ]
        refine wpAnyH_take (i := 17) (v := ?v752) rfl (by kernel_rfl) (by kernel_rfl) (by kernel_rfl) (fun _ _ _ h => h) (Or.inl ⟨by rfl, ?y752⟩) hHeld ?r752
        case y752 => (intro w hSw; go_simp; try with_reducible rfl)
        try simp only [Act.put, List.getElem_toArray, List.getElem_cons_succ, List.getElem_cons_zero, List.setIfInBounds_toArray, List.set_cons_zero, List.set_cons_succ]
        refine wpAnyH_take (i := 18) (v := ?v753) rfl (by kernel_rfl) (by kernel_rfl) (by kernel_rfl) (fun _ _ _ h => h) (Or.inl ⟨by rfl, ?y753⟩) hHeld ?r753
        case y753 => (intro w hSw; go_simp; try with_reducible rfl)
        try simp only [Act.put, List.getElem_toArray, List.getElem_cons_succ, List.getElem_cons_zero, List.setIfInBounds_toArray, List.set_cons_zero, List.set_cons_succ]
        refine wpAnyH_take (i := 19) (v := ?v754) rfl (by kernel_rfl) (by kernel_rfl) (by kernel_rfl) (fun _ _ _ h => h) (Or.inl ⟨by rfl, ?y754⟩) hHeld ?r754
        case y754 => (intro w hSw; go_simp; try with_reducible rfl)
        try simp only [Act.put, List.getElem_toArray, List.getElem_cons_succ, List.getElem_cons_zero, List.setIfInBounds_toArray, List.set_cons_zero, List.set_cons_succ]
        refine wpAnyH_take (i := 20) (v := ?v755) rfl (by kernel_rfl) (by kernel_rfl) (by kernel_rfl) (fun _ _ _ h => h) (Or.inl ⟨by rfl, ?y755⟩) hHeld ?r755
        case y755 => (intro w hSw; go_simp; try with_reducible rfl)
        try simp only [Act.put, List.getElem_toArray, List.getElem_cons_succ, List.getElem_cons_zero, List.setIfInBounds_toArray, List.set_cons_zero, List.set_cons_succ]
        refine wpAnyH_take (i := 21) (v := ?v756) rfl (by kernel_rfl) (by kernel_rfl) (by kernel_rfl) (fun _ _ _ h => h) (Or.inl ⟨by rfl, ?y756⟩) hHeld ?r756
        case y756 => (intro w hSw; go_simp; try with_reducible rfl)
        try simp only [Act.put, List.getElem_toArray, List.getElem_cons_succ, List.getElem_cons_zero, List.setIfInBounds_toArray, List.set_cons_zero, List.set_cons_succ]
        refine wpAnyH_take (i := 22) (v := ?v757) rfl (by kernel_rfl) (by kernel_rfl) (by kernel_rfl) (fun _ _ _ h => h) (Or.inl ⟨by rfl, ?y757⟩) hHeld ?r757
        case y757 => (intro w hSw; go_simp; try with_reducible rfl)
        try simp only [Act.put, List.getElem_toArray, List.getElem_cons_succ, List.getElem_cons_zero, List.setIfInBounds_toArray, List.set_cons_zero, List.set_cons_succ]
        refine wpAnyH_take (i := 23) (v := ?v758) rfl (by kernel_rfl) (by kernel_rfl) (by kernel_rfl) (fun _ _ _ h => h) (Or.inl ⟨by rfl, ?y758⟩) hHeld ?r758
        case y758 => (intro w hSw; go_simp; try with_reducible rfl)
        try simp only [Act.put, List.getElem_toArray, List.getElem_cons_succ, List.getElem_cons_zero, List.setIfInBounds_toArray, List.set_cons_zero, List.set_cons_succ]
        refine wpAnyH_take (i := 24) (v := undef) rfl (by kernel_rfl) (by kernel_rfl) (by kernel_rfl) (fun _ _ _ h => h) (Or.inr ⟨by rfl, rfl⟩) hHeld ?_
        try simp only [Act.put, List.getElem_toArray, List.getElem_cons_succ, List.getElem_cons_zero, List.setIfInBounds_toArray, List.set_cons_zero, List.set_cons_succ]
        refine wpAnyH_take (i := 25) (v := undef) rfl (by kernel_rfl) (by kernel_rfl) (by kernel_rfl) (fun _ _ _ h => h) (Or.inr ⟨by rfl, rfl⟩) hHeld ?_
        try simp only [Act.put, List.getElem_toArray, List.getElem_cons_succ, List.getElem_cons_zero, List.setIfInBounds_toArray, List.set_cons_zero, List.set_cons_succ]
        refine wpAnyH_take (i := 26) (v := undef) rfl (by kernel_rfl) (by kernel_rfl) (by kernel_rfl) (fun _ _ _ h => h) (Or.inr ⟨by rfl, rfl⟩) hHeld ?_
        try simp only [Act.put, List.getElem_toArray, List.getElem_cons_succ, List.getElem_cons_zero, List.setIfInBounds_toArray, List.set_cons_zero, List.set_cons_succ]
        refine wpAnyH_take (i := 27) (v := undef) rfl (by kernel_rfl) (by kernel_rfl) (by kernel_rfl) (fun _ _ _ h => h) (Or.inr ⟨by rfl, rfl⟩) hHeld ?_
        try simp only [Act.put, List.getElem_toArray, List.getElem_cons_succ, List.getElem_cons_zero, List.setIfInBounds_toArray, List.set_cons_zero, List.set_cons_succ]
        refine wpAnyH_take (i := 28) (v := undef) rfl (by kernel_rfl) (by kernel_rfl) (by kernel_rfl) (fun _ _ _ h => h) (Or.inr ⟨by rfl, rfl⟩) hHeld ?_
        try simp only [Act.put, List.getElem_toArray, List.getElem_cons_succ, List.getElem_cons_zero, List.setIfInBounds_toArray, List.set_cons_zero, List.set_cons_succ]
        refine wpAnyH_take (i := 29) (v := undef) rfl (by kernel_rfl) (by kernel_rfl) (by kernel_rfl) (fun _ _ _ h => h) (Or.inr ⟨by rfl, rfl⟩) hHeld ?_
        try simp only [Act.put, List.getElem_toArray, List.getElem_cons_succ, List.getElem_cons_zero, List.setIfInBounds_toArray, List.set_cons_zero, List.set_cons_succ]
        refine wpAnyH_take (i := 30) (v := undef) rfl (by kernel_rfl) (by kernel_rfl) (by kernel_rfl) (fun _ _ _ h => h) (Or.inr ⟨by rfl, rfl⟩) hHeld ?_
        try simp only [Act.put, List.getElem_toArray, List.getElem_cons_succ, List.getElem_cons_zero, List.setIfInBounds_toArray, List.set_cons_zero, List.set_cons_succ]
        refine wpAnyH_take (i := 31) (v := undef) rfl (by kernel_rfl) (by kernel_rfl) (by kernel_rfl) (fun _ _ _ h => h) (Or.inr ⟨by rfl, rfl⟩) hHeld ?_
        try simp only [Act.put, List.getElem_toArray, List.getElem_cons_succ, List.getElem_cons_zero, List.setIfInBounds_toArray, List.set_cons_zero, List.set_cons_succ]
        refine wpAnyH_take (i := 32) (v := undef) rfl (by kernel_rfl) (by kernel_rfl) (by kernel_rfl) (fun _ _ _ h => h) (Or.inr ⟨by rfl, rfl⟩) hHeld ?_
        try simp only [Act.put, List.getElem_toArray, List.getElem_cons_succ, List.getElem_cons_zero, List.setIfInBounds_toArray, List.set_cons_zero, List.set_cons_succ]
        refine wpAnyH_take (i := 33) (v := undef) rfl (by kernel_rfl) (by kernel_rfl) (by kernel_rfl) (fun _ _ _ h => h) (Or.inr ⟨by rfl, rfl⟩) hHeld ?_
        try simp only [Act.put, List.getElem_toArray, List.getElem_cons_succ, List.getElem_cons_zero, List.setIfInBounds_toArray, List.set_cons_zero, List.set_cons_succ]
        refine wpAnyH_take (i := 34) (v := undef) rfl (by kernel_rfl) (by kernel_rfl) (by kernel_rfl) (fun _ _ _ h => h) (Or.inr ⟨by rfl, rfl⟩) hHeld ?_
        try simp only [Act.put, List.getElem_toArray, List.getElem_cons_succ, List.getElem_cons_zero, List.setIfInBounds_toArray, List.set_cons_zero, List.set_cons_succ]
        refine wpAnyH_take (i := 35) (v := undef) rfl (by kernel_rfl) (by kernel_rfl) (by kernel_rfl) (fun _ _ _ h => h) (Or.inr ⟨by rfl, rfl⟩) hHeld ?_
        try simp only [Act.put, List.getElem_toArray, List.getElem_cons_succ, List.getElem_cons_zero, List.setIfInBounds_toArray, List.set_cons_zero, List.set_cons_succ]
        refine wpAnyH_take (i := 36) (v := ?v759) rfl (by kernel_rfl) (by kernel_rfl) (by kernel_rfl) (fun _ _ _ h => h) (Or.inl ⟨by rfl, ?y759⟩) hHeld ?r759
        case y759 => (intro w hSw; go_simp; try with_reducible rfl)
        try simp only [Act.put, List.getElem_toArray, List.getElem_cons_succ, List.getElem_cons_zero, List.setIfInBounds_toArray, List.set_cons_zero, List.set_cons_succ]
        refine wpAnyH_take (i := 37) (v := ?v760) rfl (by kernel_rfl) (by kernel_rfl) (by kernel_rfl) (fun _ _ _ h => h) (Or.inl ⟨by rfl, ?y760⟩) hHeld ?r760
        case y760 => (intro w hSw; go_simp; try with_reducible rfl)
        try simp only [Act.put, List.getElem_toArray, List.getElem_cons_succ, List.getElem_cons_zero, List.setIfInBounds_toArray, List.set_cons_zero, List.set_cons_succ]
        refine wpAnyH_done (by kernel_rfl) ?_ _
        obtain ⟨dx0, dx1, dx2, dx3, dx4, dy0, dy1, dy2, dy3, dy4, dy5, dy6, dy7⟩ := HCELL.out _ hHeld
        have HKz := Lib.hid (HK6.out.trans hHeld)
        clear hHeld
        go_wp2_with (first
          | (go_at_call 19
             refine (HPN.out _).mono ?_
             rintro e v1 ⟨rfl, hk⟩
             have HKa := Lib.hid (HKz.out.trans hk)
             have dax0 : v1.cell? ⟨P, 0, none⟩ = some (.int .u8 a0_0) := (HC2.out.keeps HKa.out id).cell 0
             have dax1 : v1.cell? ⟨P, 1, none⟩ = some (.int .i64 a0_1) := (HC2.out.keeps HKa.out id).cell 1
             have dax2 : v1.cell? ⟨P, 2, none⟩ = some (.slice a0_2 len0_2 cap0_2) := (HC2.out.keeps HKa.out id).cell 2
             have dax3 : v1.cell? ⟨P, 3, none⟩ = some (.int .i64 a0_3) := (HC2.out.keeps HKa.out id).cell 3
             have dax4 : v1.cell? ⟨P, 4, none⟩ = some (.int .i64 a0_4) := (HC2.out.keeps HKa.out id).cell 4
             have day0 : v1.cell? ⟨P + 1, 0, none⟩ = some (.int .u8 a1_0) := (HC3.out.keeps HKa.out id).cell 0
             have day1 : v1.cell? ⟨P + 1, 1, none⟩ = some (.int .i64 a1_1) := (HC3.out.keeps HKa.out id).cell 1
             have day2 : v1.cell? ⟨P + 1, 2, none⟩ = some (.slice a1_2 len1_2 cap1_2) := (HC3.out.keeps HKa.out id).cell 2
             have day3 : v1.cell? ⟨P + 1, 3, none⟩ = some (.int .i64 a1_3) := (HC3.out.keeps HKa.out id).cell 3
             have day4 : v1.cell? ⟨P + 1, 4, none⟩ = some (.int .i64 a1_4) := (HC3.out.keeps HKa.out id).cell 4
             have day5 : v1.cell? ⟨P + 1, 5, none⟩ = some (.int .u8 a1_5) := (HC3.out.keeps HKa.out id).cell 5
             have day6 : v1.cell? ⟨P + 1, 6, none⟩ = some (.int .i64 a1_6) := (HC3.out.keeps HKa.out id).cell 6
             have day7 : v1.cell? ⟨P + 1, 7, none⟩ = some (.int .u8 a1_7) := (HC3.out.keeps HKa.out id).cell 7
             clear hk HPN)
          | (go_at_call 20
             refine (HAN.out _).mono ?_
             rintro e v2 ⟨rfl, hk⟩
             have HKb := Lib.hid (HKa.out.trans hk)
             clear hk HAN))
        go_ret
        exact ⟨rfl, (HK1.out.trans HKb.out).below (Nat.le_refl _) (fun _ h => h.elim)⟩
      · skip
        have HC0 := Lib.hid c0
        have hq0 := neq_true e0 c0
        have hs0 := neq_same e0
        have hz0 : (e0 != 0) = true := by simpa using c0
        clear c0
        have HC1 := Lib.hid c1
        have hq1 := neq_true e1 c1
        have hs1 := neq_same e1
        have hz1 : (e1 != 0) = true := by simpa using c1
        clear c1
        have hs2 := neq_same 0
        refine wp_region_held_drew (S := fun w' => Keeps (fun _ => False) w6 w') (by kernel_rfl) ((Keeps.refl _ _).drewN 1) (fun hHeld => ?_)
        generalize w6.drew = wa at hHeld ⊢
        refine wpAnyH_take (i := 0) (v := ?v761) rfl (by kernel_rfl) (by kernel_rfl) (by kernel_rfl) (fun _ _ _ h => h) (Or.inl ⟨by rfl, ?y761⟩) hHeld ?r761
        case y761 => (intro w hSw; go_simp; try with_reducible rfl)
        try simp only [Act.put, List.getElem_toArray, List.getElem_cons_succ, List.getElem_cons_zero, List.setIfInBounds_toArray, List.set_cons_zero, List.set_cons_succ]
        refine wpAnyH_take (i := 1) (v := ?v762) rfl (by kernel_rfl) (by kernel_rfl) (by kernel_rfl) (fun _ _ _ h => h) (Or.inl ⟨by rfl, ?y762⟩) hHeld ?r762
        case y762 => (intro w hSw; obtain ⟨dx0, dx1, dx2, dx3, dx4, dy0, dy1, dy2, dy3, dy4, dy5, dy6, dy7⟩ := HCELL.out w hSw; go_simp; try with_reducible rfl)
        try simp only [Act.put, List.getElem_toArray, List.getElem_cons_succ, List.getElem_cons_zero, List.setIfInBounds_toArray, List.set_cons_zero, List.set_cons_succ]
        refine wpAnyH_ready (rs := [2]) (by kernel_rfl) (by simp) ?_
        refine AllReadyH.cons rfl (fun K hK => ?_) AllReadyH.nil
        go_simp
        refine (HCR.out _ (HK6.out.trans hHeld)).mono ?_
        rintro r763 w763 ⟨rfl, hk⟩
        dsimp only
        have hH := hHeld.trans hk
        clear hk
        refine hK.out _ _ hH (fun hHeld => ?_)
        clear hK K
        try simp only [Act.put, List.getElem_toArray, List.getElem_cons_succ, List.getElem_cons_zero, List.setIfInBounds_toArray, List.set_cons_zero, List.set_cons_succ]
        refine wpAnyH_take (i := 3) (v := ?v764) rfl (by kernel_rfl) (by kernel_rfl) (by kernel_rfl) (fun _ _ _ h => h) (Or.inl ⟨by rfl, ?y764⟩) hHeld ?r764
        case y764 => (intro w hSw; go_simp; try with_reducible rfl)
        try simp only [Act.put, List.getElem_toArray, List.getElem_cons_succ, List.getElem_cons_zero, List.setIfInBounds_toArray, List.set_cons_zero, List.set_cons_succ]
        refine wpAnyH_take (i := 4) (v := ?v765) rfl (by kernel_rfl) (by kernel_rfl) (by kernel_rfl) (fun _ _ _ h => h) (Or.inl ⟨by rfl, ?y765⟩) hHeld ?r765
        case y765 => (intro w hSw; go_simp; try with_reducible rfl)
        try simp only [Act.put, List.getElem_toArray, List.getElem_cons_succ, List.getElem_cons_zero, List.setIfInBounds_toArray, List.set_cons_zero, List.set_cons_succ]
        refine wpAnyH_take (i := 5) (v := ?v766) rfl (by kernel_rfl) (by kernel_rfl) (by kernel_rfl) (fun _ _ _ h => h) (Or.inl ⟨by rfl, ?y766⟩) hHeld ?r766
        case y766 => (intro w hSw; obtain ⟨dx0, dx1, dx2, dx3, dx4, dy0, dy1, dy2, dy3, dy4, dy5, dy6, dy7⟩ := HCELL.out w hSw; go_simp; try with_reducible rfl)
        try simp only [Act.put, List.getElem_toArray, List.getElem_cons_succ, List.getElem_cons_zero, List.setIfInBounds_toArray, List.set_cons_zero, List.set_cons_succ]
        refine wpAnyH_take (i := 6) (v := ?v767) rfl (by kernel_rfl) (by kernel_rfl) (by kernel_rfl) (fun _ _ _ h => h) (Or.inl ⟨by rfl, ?y767⟩) hHeld ?r767
        case y767 => (intro w hSw; go_simp; try with_reducible rfl)
        try simp only [Act.put, List.getElem_toArray, List.getElem_cons_succ, List.getElem_cons_zero, List.setIfInBounds_toArray, List.set_cons_zero, List.set_cons_succ]
        refine wpAnyH_take (i := 8) (v := ?v768) rfl (by kernel_rfl) (by kernel_rfl) (by kernel_rfl) (fun _ _ _ h => h) (Or.inl ⟨by rfl, ?y768⟩) hHeld ?r768
        case y768 => (intro w hSw; go_simp; try with_reducible rfl)
        try simp only [Act.put, List.getElem_toArray, List.getElem_cons_succ, List.getElem_cons_zero, List.setIfInBounds_toArray, List.set_cons_zero, List.set_cons_succ]
        refine wpAnyH_take (i := 9) (v := ?v769) rfl (by kernel_rfl) (by kernel_rfl) (by kernel_rfl) (fun _ _ _ h => h) (Or.inl ⟨by rfl, ?y769⟩) hHeld ?r769
        case y769 => (intro w hSw; obtain ⟨dx0, dx1, dx2, dx3, dx4, dy0, dy1, dy2, dy3, dy4, dy5, dy6, dy7⟩ := HCELL.out w hSw; go_simp; try with_reducible rfl)
        try simp only [Act.put, List.getElem_toArray, List.getElem_cons_succ, List.getElem_cons_zero, List.setIfInBounds_toArray, List.set_cons_zero, List.set_cons_succ]
        refine wpAnyH_ready (rs := [7]) (by kernel_rfl) (by simp) ?_
        refine AllReadyH.cons rfl (fun K hK => ?_) AllReadyH.nil
        go_simp
        refine (HPB.out T _ (HK6.out.trans hHeld) HC0.out).mono ?_
        rintro r770 w770 ⟨rfl, hk⟩
        dsimp only
        have hH := hHeld.trans hk
        clear hk
        refine hK.out _ _ hH (fun hHeld => ?_)
        clear hK K
        try simp only [Act.put, List.getElem_toArray, List.getElem_cons_succ, List.getElem_cons_zero, List.setIfInBounds_toArray, List.set_cons_zero, List.set_cons_succ]
        refine wpAnyH_ready (rs := [10]) (by kernel_rfl) (by simp) ?_
        refine AllReadyH.cons rfl (fun K hK => ?_) AllReadyH.nil
        go_simp
        refine (HCR.out _ (HK6.out.trans hHeld)).mono ?_
        rintro r771 w771 ⟨rfl, hk⟩
        dsimp only
        have hH := hHeld.trans hk
        clear hk
        refine hK.out _ _ hH (fun hHeld => ?_)
        clear hK K
        try simp only [Act.put, List.getElem_toArray, List.getElem_cons_succ, List.getElem_cons_zero, List.setIfInBounds_toArray, List.set_cons_zero, List.set_cons_succ]
        refine wpAnyH_take (i := 11) (v := ?v772) rfl (by kernel_rfl) (by kernel_rfl) (by kernel_rfl) (fun _ _ _ h => h) (Or.inl ⟨by rfl, ?y772⟩) hHeld ?r772
        case y772 => (intro w hSw; go_simp; try with_reducible rfl)
        try simp only [Act.put, List.getElem_toArray, List.getElem_cons_succ, List.getElem_cons_zero, List.setIfInBounds_toArray, List.set_cons_zero, List.set_cons_succ]
        refine wpAnyH_take (i := 12) (v := ?v773) rfl (by kernel_rfl) (by kernel_rfl) (by kernel_rfl) (fun _ _ _ h => h) (Or.inl ⟨by rfl, ?y773⟩) hHeld ?r773
        case y773 => (intro w hSw; go_simp; try with_reducible rfl)
        try simp only [Act.put, List.getElem_toArray, List.getElem_cons_succ, List.getElem_cons_zero, List.setIfInBounds_toArray, List.set_cons_zero, List.set_cons_succ]
        refine wpAnyH_take (i := 13) (v := ?v774) rfl (by kernel_rfl) (by kernel_rfl) (by kernel_rfl) (fun _ _ _ h => h) (Or.inl ⟨by rfl, ?y774⟩) hHeld ?r774
        case y774 => (intro w hSw; go_simp; try with_reducible rfl)
        try simp only [Act.put, List.getElem_toArray, List.getElem_cons_succ, List.getElem_cons_zero, List.setIfInBounds_toArray, List.set_cons_zero, List.set_cons_succ]
        refine wpAnyH_take (i := 14) (v := ?v775) rfl (by kernel_rfl) (by kernel_rfl) (by kernel_rfl) (fun _ _ _ h => h) (Or.inl ⟨by rfl, ?y775⟩) hHeld ?r775
        case y775 => (intro w hSw; go_simp; try with_reducible rfl)
        try simp only [Act.put, List.getElem_toArray, List.getElem_cons_succ, List.getElem_cons_zero, List.setIfInBounds_toArray, List.set_cons_zero, List.set_cons_succ]
        refine wpAnyH_take (i := 15) (v := ?v776) rfl (by kernel_rfl) (by kernel_rfl) (by kernel_rfl) (fun _ _ _ h => h) (Or.inl ⟨by rfl, ?y776⟩) hHeld ?r776
        case y776 => (intro w hSw; go_simp; try with_reducible rfl)
        try simp only [Act.put, List.getElem_toArray, List.getElem_cons_succ, List.getElem_cons_zero, List.setIfInBounds_toArray, List.set_cons_zero, List.set_cons_succ]
        refine wpAnyH_ready (rs := [16]) (by kernel_rfl) (by simp) ?_
        refine AllReadyH.cons rfl (fun K hK => ?_) AllReadyH.nil
        go_simp
        refine (HLN.out _ (HJ6.out.trans hHeld)).mono ?_
        rintro r w' ⟨rfl, hw⟩
        rw [hw]
        clear hw
        dsimp only
        refine hK.out _ _ hHeld (fun hHeld => ?_)
        clear hK K
        try simp only [Act.put, List.getElem_toArray, List.getElem_cons_succ, List.getElem_cons_zero, List.setIfInBounds_toArray, List.set_cons_zero, List.set_cons_succ]
        refine wpAnyH_take (i := 17) (v := ?v777) rfl (by kernel_rfl) (by kernel_rfl) (by kernel_rfl) (fun _ _ _ h => h) (Or.inl ⟨by rfl, ?y777⟩) hHeld ?r777
        case y777 => (intro w hSw; go_simp; try with_reducible rfl)
        try simp only [Act.put, List.getElem_toArray, List.getElem_cons_succ, List.getElem_cons_zero, List.setIfInBounds_toArray, List.set_cons_zero, List.set_cons_succ]
        refine wpAnyH_take (i := 18) (v := ?v778) rfl (by kernel_rfl) (by kernel_rfl) (by kernel_rfl) (fun _ _ _ h => h) (Or.inl ⟨by rfl, ?y778⟩) hHeld ?r778
        case y778 => (intro w hSw; go_simp; try with_reducible rfl)
        try simp only [Act.put, List.getElem_toArray, List.getElem_cons_succ, List.getElem_cons_zero, List.setIfInBounds_toArray, List.set_cons_zero, List.set_cons_succ]
        refine wpAnyH_take (i := 19) (v := ?v779) rfl (by kernel_rfl) (by kernel_rfl) (by kernel_rfl) (fun _ _ _ h => h) (Or.inl ⟨by rfl, ?y779⟩) hHeld ?r779
        case y779 => (intro w hSw; go_simp; try with_reducible rfl)
        try simp only [Act.put, List.getElem_toArray, List.getElem_cons_succ, List.getElem_cons_zero, List.setIfInBounds_toArray, List.set_cons_zero, List.set_cons_succ]
        refine wpAnyH_take (i := 20) (v := ?v780) rfl (by kernel_rfl) (by kernel_rfl) (by kernel_rfl) (fun _ _ _ h => h) (Or.inl ⟨by rfl, ?y780⟩) hHeld ?r780
        case y780 => (intro w hSw; go_simp; try with_reducible rfl)
        try simp only [Act.put, List.getElem_toArray, List.getElem_cons_succ, List.getElem_cons_zero, List.setIfInBounds_toArray, List.set_cons_zero, List.set_cons_succ]
        refine wpAnyH_take (i := 21) (v := ?v781) rfl (by kernel_rfl) (by kernel_rfl) (by kernel_rfl) (fun _ _ _ h => h) (Or.inl ⟨by rfl, ?y781⟩) hHeld ?r781
        case y781 => (intro w hSw; go_simp; try with_reducible rfl)
        try simp only [Act.put, List.getElem_toArray, List.getElem_cons_succ, List.getElem_cons_zero, List.setIfInBounds_toArray, List.set_cons_zero, List.set_cons_succ]
        refine wpAnyH_take (i := 22) (v := ?v782) rfl (by kernel_rfl) (by kernel_rfl) (by kernel_rfl) (fun _ _ _ h => h) (Or.inl ⟨by rfl, ?y782⟩) hHeld ?r782
        case y782 => (intro w hSw; go_simp; try with_reducible rfl)
        try simp only [Act.put, List.getElem_toArray, List.getElem_cons_succ, List.getElem_cons_zero, List.setIfInBounds_toArray, List.set_cons_zero, List.set_cons_succ]
        refine wpAnyH_take (i := 23) (v := ?v783) rfl (by kernel_rfl) (by kernel_rfl) (by kernel_rfl) (fun _ _ _ h => h) (Or.inl ⟨by rfl, ?y783⟩) hHeld ?r783
        case y783 => (intro w hSw; go_simp; try with_reducible rfl)
        try simp only [Act.put, List.getElem_toArray, List.getElem_cons_succ, List.getElem_cons_zero, List.setIfInBounds_toArray, List.set_cons_zero, List.set_cons_succ]
        refine wpAnyH_take (i := 24) (v := ?v784) rfl (by kernel_rfl) (by kernel_rfl) (by kernel_rfl) (fun _ _ _ h => h) (Or.inl ⟨by rfl, ?y784⟩) hHeld ?r784
        case y784 => (intro w hSw; obtain ⟨dx0, dx1, dx2, dx3, dx4, dy0, dy1, dy2, dy3, dy4, dy5, dy6, dy7⟩ := HCELL.out w hSw; go_simp; try with_reducible rfl)
        try simp only [Act.put, List.getElem_toArray, List.getElem_cons_succ, List.getElem_cons_zero, List.setIfInBounds_toArray, List.set_cons_zero, List.set_cons_succ]
        refine wpAnyH_take (i := 25) (v := ?v785) rfl (by kernel_rfl) (by kernel_rfl) (by kernel_rfl) (fun _ _ _ h => h) (Or.inl ⟨by rfl, ?y785⟩) hHeld ?r785
        case y785 => (intro w hSw; go_simp; try with_reducible rfl)
        try simp only [Act.put, List.getElem_toArray, List.getElem_cons_succ, List.getElem_cons_zero, List.setIfInBounds_toArray, List.set_cons_zero, List.set_cons_succ]
        refine wpAnyH_take (i := 27) (v := ?v786) rfl (by kernel_rfl) (by kernel_rfl) (by kernel_rfl) (fun _ _ _ h => h) (Or.inl ⟨by rfl, ?y786⟩) hHeld ?r786
        case y786 => (intro w hSw; go_simp; try with_reducible rfl)
        try simp only [Act.put, List.getElem_toArray, List.getElem_cons_succ, List.getElem_cons_zero, List.setIfInBounds_toArray, List.set_cons_zero, List.set_cons_succ]
        refine wpAnyH_ready (rs := [26]) (by kernel_rfl) (by simp) ?_
        refine AllReadyH.cons rfl (fun K hK => ?_) AllReadyH.nil
        go_simp
        refine (HPC.out T _ (HK6.out.trans hHeld) HC1.out).mono ?_
        rintro r787 w787 ⟨rfl, hk⟩
        dsimp only
        have hH := hHeld.trans hk
        clear hk
        refine hK.out _ _ hH (fun hHeld => ?_)
        clear hK K
        try simp only [Act.put, List.getElem_toArray, List.getElem_cons_succ, List.getElem_cons_zero, List.setIfInBounds_toArray, List.set_cons_zero, List.set_cons_succ]
        refine wpAnyH_take (i := 28) (v := ?v788) rfl (by kernel_rfl) (by kernel_rfl) (by kernel_rfl) (fun _ _ _ h => h) (Or.inl ⟨by rfl, ?y788⟩) hHeld ?r788
        case y788 => (intro w hSw; go_simp; try with_reducible rfl)
        try simp only [Act.put, List.getElem_toArray, List.getElem_cons_succ, List.getElem_cons_zero, List.setIfInBounds_toArray, List.set_cons_zero, List.set_cons_succ]
        refine wpAnyH_take (i := 29) (v := ?v789) rfl (by kernel_rfl) (by kernel_rfl) (by kernel_rfl) (fun _ _ _ h => h) (Or.inl ⟨by rfl, ?y789⟩) hHeld ?r789
        case y789 => (intro w hSw; go_simp; try with_reducible rfl)
        try simp only [Act.put, List.getElem_toArray, List.getElem_cons_succ, List.getElem_cons_zero, List.setIfInBounds_toArray, List.set_cons_zero, List.set_cons_succ]
        refine wpAnyH_take (i := 30) (v := ?v790) rfl (by kernel_rfl) (by kernel_rfl) (by kernel_rfl) (fun _ _ _ h => h) (Or.inl ⟨by rfl, ?y790⟩) hHeld ?r790
        case y790 => (intro w hSw; go_simp; try with_reducible rfl)
        try simp only [Act.put, List.getElem_toArray, List.getElem_cons_succ, List.getElem_cons_zero, List.setIfInBounds_toArray, List.set_cons_zero, List.set_cons_succ]
        refine wpAnyH_take (i := 31) (v := ?v791) rfl (by kernel_rfl) (by kernel_rfl) (by kernel_rfl) (fun _ _ _ h => h) (Or.inl ⟨by rfl, ?y791⟩) hHeld ?r791
        case y791 => (intro w hSw; go_simp; try with_reducible rfl)
        try simp only [Act.put, List.getElem_toArray, List.getElem_cons_succ, List.getElem_cons_zero, List.setIfInBounds_toArray, List.set_cons_zero, List.set_cons_succ]
        refine wpAnyH_take (i := 32) (v := ?v792) rfl (by kernel_rfl) (by kernel_rfl) (by kernel_rfl) (fun _ _ _ h => h) (Or.inl ⟨by rfl, ?y792⟩) hHeld ?r792
        case y792 => (intro w hSw; go_simp; try with_reducible rfl)
        try simp only [Act.put, List.getElem_toArray, List.getElem_cons_succ, List.getElem_cons_zero, List.setIfInBounds_toArray, List.set_cons_zero, List.set_cons_succ]
        refine wpAnyH_ready (rs := [33]) (by kernel_rfl) (by simp) ?_
        refine AllReadyH.cons rfl (fun K hK => ?_) AllReadyH.nil
        go_simp
        refine (HLN.out _ (HJ6.out.trans hHeld)).mono ?_
        rintro r w' ⟨rfl, hw⟩
        rw [hw]
        clear hw
        dsimp only
        refine hK.out _ _ hHeld (fun hHeld => ?_)
        clear hK K
        try simp only [Act.put, List.getElem_toArray, List.getElem_cons_succ, List.getElem_cons_zero, List.setIfInBounds_toArray, List.set_cons_zero, List.set_cons_succ]
        refine wpAnyH_take (i := 34) (v := ?v793) rfl (by kernel_rfl) (by kernel_rfl) (by kernel_rfl) (fun _ _ _ h => h) (Or.inl ⟨by rfl, ?y793⟩) hHeld ?r793
        case y793 => (intro w hSw; go_simp; try with_reducible rfl)
        try simp only [Act.put, List.getElem_toArray, List.getElem_cons_succ, List.getElem_cons_zero, List.setIfInBounds_toArray, List.set_cons_zero, List.set_cons_succ]
        refine wpAnyH_take (i := 35) (v := ?v794) rfl (by kernel_rfl) (by kernel_rfl) (by kernel_rfl) (fun _ _ _ h => h) (Or.inl ⟨by rfl, ?y794⟩) hHeld ?r794
        case y794 => (intro w hSw; go_simp; try with_reducible rfl)
        try simp only [Act.put, List.getElem_toArray, List.getElem_cons_succ, List.getElem_cons_zero, List.setIfInBounds_toArray, List.set_cons_zero, List.set_cons_succ]
        refine wpAnyH_take (i := 36) (v := ?v795) rfl (by kernel_rfl) (by kernel_rfl) (by kernel_rfl) (fun _ _ _ h => h) (Or.inl ⟨by rfl, ?y795⟩) hHeld ?r795
        case y795 => (intro w hSw; go_simp; try with_reducible rfl)
        try simp only [Act.put, List.getElem_toArray, List.getElem_cons_succ, List.getElem_cons_zero, List.setIfInBounds_toArray, List.set_cons_zero, List.set_cons_succ]
        refine wpAnyH_take (i := 37) (v := ?v796) rfl (by kernel_rfl) (by kernel_rfl) (by kernel_rfl) (fun _ _ _ h => h) (Or.inl ⟨by rfl, ?y796⟩) hHeld ?r796
        case y796 => (intro w hSw; go_simp; try with_reducible rfl)
        try simp only [Act.put, List.getElem_toArray, List.getElem_cons_succ, List.getElem_cons_zero, List.setIfInBounds_toArray, List.set_cons_zero, List.set_cons_succ]
        refine wpAnyH_done (by kernel_rfl) ?_ _
        obtain ⟨dx0, dx1, dx2, dx3, dx4, dy0, dy1, dy2, dy3, dy4, dy5, dy6, dy7⟩ := HCELL.out _ hHeld
        have HKz := Lib.hid (HK6.out.trans hHeld)
        clear hHeld
        go_wp2_with (first
          | (go_at_call 19
             refine (HPN.out _).mono ?_
             rintro e v1 ⟨rfl, hk⟩
             have HKa := Lib.hid (HKz.out.trans hk)
             have dax0 : v1.cell? ⟨P, 0, none⟩ = some (.int .u8 a0_0) := (HC2.out.keeps HKa.out id).cell 0
             have dax1 : v1.cell? ⟨P, 1, none⟩ = some (.int .i64 a0_1) := (HC2.out.keeps HKa.out id).cell 1
             have dax2 : v1.cell? ⟨P, 2, none⟩ = some (.slice a0_2 len0_2 cap0_2) := (HC2.out.keeps HKa.out id).cell 2
             have dax3 : v1.cell? ⟨P, 3, none⟩ = some (.int .i64 a0_3) := (HC2.out.keeps HKa.out id).cell 3
             have dax4 : v1.cell? ⟨P, 4, none⟩ = some (.int .i64 a0_4) := (HC2.out.keeps HKa.out id).cell 4
             have day0 : v1.cell? ⟨P + 1, 0, none⟩ = some (.int .u8 a1_0) := (HC3.out.keeps HKa.out id).cell 0
             have day1 : v1.cell? ⟨P + 1, 1, none⟩ = some (.int .i64 a1_1) := (HC3.out.keeps HKa.out id).cell 1
             have day2 : v1.cell? ⟨P + 1, 2, none⟩ = some (.slice a1_2 len1_2 cap1_2) := (HC3.out.keeps HKa.out id).cell 2
             have day3 : v1.cell? ⟨P + 1, 3, none⟩ = some (.int .i64 a1_3) := (HC3.out.keeps HKa.out id).cell 3
             have day4 : v1.cell? ⟨P + 1, 4, none⟩ = some (.int .i64 a1_4) := (HC3.out.keeps HKa.out id).cell 4
             have day5 : v1.cell? ⟨P + 1, 5, none⟩ = some (.int .u8 a1_5) := (HC3.out.keeps HKa.out id).cell 5
             have day6 : v1.cell? ⟨P + 1, 6, none⟩ = some (.int .i64 a1_6) := (HC3.out.keeps HKa.out id).cell 6
             have day7 : v1.cell? ⟨P + 1, 7, none⟩ = some (.int .u8 a1_7) := (HC3.out.keeps HKa.out id).cell 7
             clear hk HPN)
          | (go_at_call 20
             refine (HAN.out _).mono ?_
             rintro e v2 ⟨rfl, hk⟩
             have HKb := Lib.hid (HKa.out.trans hk)
             clear hk HAN))
        go_ret
        exact ⟨rfl, (HK1.out.trans HKb.out).below (Nat.le_refl _) (fun _ h => h.elim)⟩

set_option maxRecDepth 100000 in
theorem lifted (os : Os) (started : os.Started) (H : Type) (enc : TypeId × Value → H) :
    ReturnsInHanded {} Try.checked os 7 .any (Rows.descChecksSpec.pre6 enc Try.prog Try.f7 Rows.descChecksRow.domain false) (Rows.descChecksSpec.post enc Try.prog Try.f7 false true false false) := by
  refine returnsInHanded_of_change (C := Try.checked) own started (by kernel_rfl) Try.func7
    (ChangeSpec.witness6 (enc := enc) (C := Try.checked) false ⟨#[], #[.agg #[.int .u8 0, .int .i64 0, .slice none 0 0, .int .i64 0, .int .i64 0], .agg #[.int .u8 0, .int .i64 0, .slice none 0 0, .int .i64 0, .int .i64 0, .int .u8 0, .int .i64 0, .int .u8 0]], []⟩ 8 (by kernel_rfl) (by kernel_rfl) (by kernel_rfl) (by kernel_rfl)) ?_
  intro W base args ds gs before hval0 hW hcnd _
  have hval : ∀ (j : Nat) t v, Try.f7.params[j]? = some t → args[j]? = some v → Value.okWide Try.prog W .any base t v := hval0
  have hW' := hW
  obtain ⟨p, q, hA0, hV, rfl, hfz, hnd⟩ := hW
  have hA : DataW.TrodAll enc Try.prog W 0 (fun _ => true) true Try.f7.params.toList args.toList ds p := hA0
  rw [Try.params7] at hA hval
  obtain ⟨v0, vs0, d0, ds0, p0, q0, hargs, rfl, rfl, h0, r0⟩ := trodAll_cons hA
  obtain ⟨v1, vs1, d1, ds1, p1, q1, rfl, rfl, rfl, h1, r1⟩ := trodAll_cons r0
  obtain ⟨rfl, rfl, rfl⟩ := trodAll_nil r1
  obtain rfl : args = #[v0, v1] := by cases args; simp_all
  obtain ⟨rfl, rfl⟩ := trodVars_none hV
  obtain ⟨cs0, rfl, hs0⟩ := okWide_struct Try.underlying38 (hval 0 38 v0 rfl rfl)
  have k0 := h0
  have lt0 : ∀ x ∈ p0, x.block < W.heap.size := by obtain ⟨m, hm⟩ := k0; exact DataW.trod_lt m _ _ _ hm
  obtain ⟨l0⟩ := cs0
  obtain ⟨c0_0, c0_1, c0_2, c0_3, c0_4, rfl⟩ := len5 (l := l0) (hs0.trans (by kernel_rfl))
  have g0 : ∃ fuel x, DataW.trod enc Try.prog W 0 (fun _ => true) true fuel 38 [c0_0, c0_1, c0_2, c0_3, c0_4] = some x := by obtain ⟨m, hm⟩ := k0; exact ⟨m, _, by simpa [Value.cells] using hm⟩
  have g0_0 : ∃ fuel x, DataW.trod enc Try.prog W 0 (fun _ => true) true fuel 35 [c0_0] = some x := open_field Try.underlying38 g0 0 _ rfl 0 1 rfl (by kernel_rfl)
  have g0_1 : ∃ fuel x, DataW.trod enc Try.prog W 0 (fun _ => true) true fuel 3 [c0_1] = some x := open_field Try.underlying38 g0 1 _ rfl 1 1 rfl (by kernel_rfl)
  have g0_2 : ∃ fuel x, DataW.trod enc Try.prog W 0 (fun _ => true) true fuel 36 [c0_2] = some x := open_field Try.underlying38 g0 2 _ rfl 2 1 rfl (by kernel_rfl)
  have g0_3 : ∃ fuel x, DataW.trod enc Try.prog W 0 (fun _ => true) true fuel 3 [c0_3] = some x := open_field Try.underlying38 g0 3 _ rfl 3 1 rfl (by kernel_rfl)
  have g0_4 : ∃ fuel x, DataW.trod enc Try.prog W 0 (fun _ => true) true fuel 3 [c0_4] = some x := open_field Try.underlying38 g0 4 _ rfl 4 1 rfl (by kernel_rfl)
  obtain ⟨a0_0, rfl, w0_0⟩ := leaf_int Try.underlying35 g0_0
  obtain ⟨a0_1, rfl, w0_1⟩ := leaf_int Try.underlying3 g0_1
  obtain ⟨a0_2, len0_2, cap0_2, rfl⟩ := leaf_slice Try.underlying36 g0_2
  obtain ⟨z0_2, w0_2⟩ : ∃ zs, IsPairs .i64 .i64 W a0_2 len0_2 cap0_2 zs := by
    obtain ⟨fuel, x, hf⟩ := g0_2
    exact open_pairs Try.underlying36 Try.underlying71 Try.underlying3 Try.underlying3 (by kernel_rfl) rfl rfl (by kernel_rfl) (by kernel_rfl) hf
  obtain ⟨a0_3, rfl, w0_3⟩ := leaf_int Try.underlying3 g0_3
  obtain ⟨a0_4, rfl, w0_4⟩ := leaf_int Try.underlying3 g0_4
  obtain ⟨cs1, rfl, hs1⟩ := okWide_struct Try.underlying41 (hval 1 41 v1 rfl rfl)
  have k1 := h1
  have lt1 : ∀ x ∈ p1, x.block < W.heap.size := by obtain ⟨m, hm⟩ := k1; exact DataW.trod_lt m _ _ _ hm
  obtain ⟨l1⟩ := cs1
  obtain ⟨c1_0, c1_1, c1_2, c1_3, c1_4, c1_5, c1_6, c1_7, rfl⟩ := len8 (l := l1) (hs1.trans (by kernel_rfl))
  have g1 : ∃ fuel x, DataW.trod enc Try.prog W 0 (fun _ => true) true fuel 41 [c1_0, c1_1, c1_2, c1_3, c1_4, c1_5, c1_6, c1_7] = some x := by obtain ⟨m, hm⟩ := k1; exact ⟨m, _, by simpa [Value.cells] using hm⟩
  have g1_0 : ∃ fuel x, DataW.trod enc Try.prog W 0 (fun _ => true) true fuel 38 [c1_0, c1_1, c1_2, c1_3, c1_4] = some x := open_field Try.underlying41 g1 0 _ rfl 0 5 rfl (by kernel_rfl)
  have g1_0_0 : ∃ fuel x, DataW.trod enc Try.prog W 0 (fun _ => true) true fuel 35 [c1_0] = some x := open_field Try.underlying38 g1_0 0 _ rfl 0 1 rfl (by kernel_rfl)
  have g1_0_1 : ∃ fuel x, DataW.trod enc Try.prog W 0 (fun _ => true) true fuel 3 [c1_1] = some x := open_field Try.underlying38 g1_0 1 _ rfl 1 1 rfl (by kernel_rfl)
  have g1_0_2 : ∃ fuel x, DataW.trod enc Try.prog W 0 (fun _ => true) true fuel 36 [c1_2] = some x := open_field Try.underlying38 g1_0 2 _ rfl 2 1 rfl (by kernel_rfl)
  have g1_0_3 : ∃ fuel x, DataW.trod enc Try.prog W 0 (fun _ => true) true fuel 3 [c1_3] = some x := open_field Try.underlying38 g1_0 3 _ rfl 3 1 rfl (by kernel_rfl)
  have g1_0_4 : ∃ fuel x, DataW.trod enc Try.prog W 0 (fun _ => true) true fuel 3 [c1_4] = some x := open_field Try.underlying38 g1_0 4 _ rfl 4 1 rfl (by kernel_rfl)
  have g1_1 : ∃ fuel x, DataW.trod enc Try.prog W 0 (fun _ => true) true fuel 35 [c1_5] = some x := open_field Try.underlying41 g1 1 _ rfl 5 1 rfl (by kernel_rfl)
  have g1_2 : ∃ fuel x, DataW.trod enc Try.prog W 0 (fun _ => true) true fuel 3 [c1_6] = some x := open_field Try.underlying41 g1 2 _ rfl 6 1 rfl (by kernel_rfl)
  have g1_3 : ∃ fuel x, DataW.trod enc Try.prog W 0 (fun _ => true) true fuel 5 [c1_7] = some x := open_field Try.underlying41 g1 3 _ rfl 7 1 rfl (by kernel_rfl)
  obtain ⟨a1_0, rfl, w1_0⟩ := leaf_int Try.underlying35 g1_0_0
  obtain ⟨a1_1, rfl, w1_1⟩ := leaf_int Try.underlying3 g1_0_1
  obtain ⟨a1_2, len1_2, cap1_2, rfl⟩ := leaf_slice Try.underlying36 g1_0_2
  obtain ⟨z1_2, w1_2⟩ : ∃ zs, IsPairs .i64 .i64 W a1_2 len1_2 cap1_2 zs := by
    obtain ⟨fuel, x, hf⟩ := g1_0_2
    exact open_pairs Try.underlying36 Try.underlying71 Try.underlying3 Try.underlying3 (by kernel_rfl) rfl rfl (by kernel_rfl) (by kernel_rfl) hf
  obtain ⟨a1_3, rfl, w1_3⟩ := leaf_int Try.underlying3 g1_0_3
  obtain ⟨a1_4, rfl, w1_4⟩ := leaf_int Try.underlying3 g1_0_4
  obtain ⟨a1_5, rfl, w1_5⟩ := leaf_int Try.underlying35 g1_1
  obtain ⟨a1_6, rfl, w1_6⟩ := leaf_int Try.underlying3 g1_2
  obtain ⟨a1_7, rfl, w1_7⟩ := leaf_int Try.underlying5 g1_3
  clear hA0 hval0
  refine (walk a0_0 a0_1 a0_2 len0_2 cap0_2 z0_2 a0_3 a0_4 a1_0 a1_1 a1_2 len1_2 cap1_2 z1_2 a1_3 a1_4 a1_5 a1_6 a1_7 W w0_0 w0_1 w0_2 w0_3 w0_4 w1_0 w1_1 w1_2 w1_3 w1_4 w1_5 w1_6 w1_7).mono fun e W' ⟨he, bel⟩ => ?_
  subst he
  exact ⟨_, rfl, _, _, _, [], _, [], hW', trodAll_mk1 (shut_bool Try.underlying4 _), (trodAll_cons_mk (Below.trod laidOut (by kernel_rfl) (of_decide_eq_true (by kernel_rfl)) k0 bel lt0) (trodAll_cons_mk (Below.trod laidOut (by kernel_rfl) (of_decide_eq_true (by kernel_rfl)) k1 bel lt1) trodAll_mk0)), rfl, bel.frame _, fun h => by cases h⟩

theorem over : Rows.descChecksRow.holds Try.pinned (OpenSpec.ofChange Rows.descChecksSpec) :=
  OpenClaim.holds_of_wide 7 Try.f7 rfl rfl rfl rfl rfl rfl rfl ⟨rfl, rfl, rfl, rfl, rfl⟩ rfl rfl rfl rfl rfl (by kernel_rfl) Try.func7 (by kernel_rfl)
    (of_decide_eq_true (by kernel_rfl)) (by unfold Func.isWrapper; first | (rw [if_pos (by decide +kernel)]; kernel_rfl) | (rw [if_neg (by decide +kernel)]; exact ⟨rfl, rfl⟩))
    (fun os started H enc _ => lifted os started H enc)

/-- The statement, as given. -/
theorem proved : Rows.DescChecksSaid :=
  over
end Go.Proofs.Ytbicieflcgifdaa.descChecks
namespace Go.Proofs.Ytbicieflcgifdaa
/-- The statement, as given. -/
theorem descChecks_holds : Rows.DescChecksSaid := descChecks.proved
#print axioms descChecks_holds
end Go.Proofs.Ytbicieflcgifdaa
