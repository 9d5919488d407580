
/- The statement QuillErrors (P10.1, R4, R7: ways that may not be; a nil one: nothing is put), as its card, holds for every input: the Go function answers true, and its arguments read as before. No conditions beyond the card's own. -/
import Derived.Test.YtgaofnmgdefdcaaDoorRows
import Derived.WalkKit
import Derived.ProofKit
import Derived.OpenShut
import Derived.ShutString
import Derived.ChangeOld
import Derived.Below
import Derived.Test.YtgaofnmgdefdcaaDoorQlErr
import Derived.LaidMore
import Derived.Stop.Joined
import Derived.Stop.LaidErr
import Derived.SevenTiedAt
import Derived.Lib.LaidTab
import Derived.Test.YtgaofnmgdefdcaaDoorTie
import Derived.Test.YtgaofnmgdefdcaaDoorCards
import Derived.Deep.Slices
import Derived.Deep.SlicePairs
namespace Go.Proofs.YtgaofnmgdefdcaaDoor.quillErrors
open Go.ChangeShapes Go.WideShapes Go.ChangeAt Go.RowKit Go.Deep
open Go.Proofs.YtgaofnmgdefdcaaDoor.Gen Go.Proofs.YtgaofnmgdefdcaaDoor.Hr Go.Proofs.YtgaofnmgdefdcaaDoor.Hn Go.Proofs.YtgaofnmgdefdcaaDoor.Ds Go.Proofs.YtgaofnmgdefdcaaDoor.Ky Go.Proofs.YtgaofnmgdefdcaaDoor.Qc Go.Proofs.YtgaofnmgdefdcaaDoor.Qu
set_option linter.unusedVariables false

theorem own : ownKnob Tryd.prog.godebug = none := by kernel_rfl
theorem laidOut : laidOutB Tryd.prog = true := by kernel_rfl

/-- What the walk is told of a slice of integers that came in: it is nil, or a row of cells that hold zs, each of which fits. -/
def IsRow (k : IntKind) (w : World) (a : Option Addr) (len cap : Nat) (zs : List Int) : Prop :=
  (a = none ∧ len = 0 ∧ cap = 0 ∧ zs = []) ∨
  ∃ x, a = some x ∧ len ≤ cap ∧ cap ≤ maxLen ∧ zs.length = cap ∧ (∀ i, i < zs.length → w.cell? (x.add i) = some (.int k (zs.getD i 0))) ∧ ∀ n ∈ zs, (Lit.int k n).wf = true
/-- And of a slice of such slices: it is nil, or each of its cells holds one. -/
def IsRows (k : IntKind) (w : World) (a : Option Addr) (len cap : Nat) : Prop :=
  (a = none ∧ len = 0 ∧ cap = 0) ∨
  ∃ x, a = some x ∧ len ≤ cap ∧ cap ≤ maxLen ∧ ∀ i, i < len → ∃ b n c zs, w.cell? (x.add i) = some (.slice b n c) ∧ IsRow k w b n c zs
/-- And of a slice of structs of two integers. -/
def IsPairs (k0 k1 : IntKind) (w : World) (a : Option Addr) (len cap : Nat) (zs : List (Int × Int)) : Prop :=
  (a = none ∧ len = 0 ∧ cap = 0 ∧ zs = []) ∨
  ∃ x, a = some x ∧ len ≤ cap ∧ cap ≤ maxLen ∧ zs.length = cap ∧ ∀ i, i < zs.length → w.cell? (x.add (i * 2)) = some (.int k0 (zs.getD i (0, 0)).1) ∧ w.cell? (x.add (i * 2 + 1)) = some (.int k1 (zs.getD i (0, 0)).2) ∧ (Lit.int k0 (zs.getD i (0, 0)).1).wf = true ∧ (Lit.int k1 (zs.getD i (0, 0)).2).wf = true
section
variable {H : Type} {enc : TypeId × Value → H} {W : World}
theorem open_pairs {t e : TypeId} {k0 k1 : IntKind} {f0 f1 : Field} {fuel : Nat} {a : Option Addr} {len cap : Nat} {x : DataW H × List MemPlace} (ht : Tryd.prog.underlying t = some (.slice e)) (he : Tryd.prog.underlying e = some (.struct #[f0, f1])) (h0 : Tryd.prog.underlying f0.type = some (.int k0)) (h1 : Tryd.prog.underlying f1.type = some (.int k1))
    (ce : Tryd.prog.cellsOf e = 2) (o0 : f0.offset = 0) (o1 : f1.offset = 1) (c0 : Tryd.prog.cellsOf f0.type = 1) (c1 : Tryd.prog.cellsOf f1.type = 1)
    (hf : DataW.trod enc Tryd.prog W 0 (fun _ => true) true fuel t (Value.slice a len cap).cells.toList = some x) : ∃ zs, IsPairs k0 k1 W a len cap zs := by
  rcases open_slice_pairs ht he ce o0 o1 c0 c1 hf with ⟨hcs, _⟩ | ⟨y, l, c, m, n, V0, V1, D0, D1, P0, P1, hcs, _, hl, hm, hmm, _, hi⟩
  · simp [Value.cells] at hcs
    obtain ⟨rfl, rfl, rfl⟩ := hcs
    exact ⟨[], .inl ⟨rfl, rfl, rfl, rfl⟩⟩
  · simp [Value.cells] at hcs
    obtain ⟨rfl, rfl, rfl⟩ := hcs
    simp only [if_true] at hmm
    refine ⟨(List.range cap).map fun i => (intOf (V0 i), intOf (V1 i)), .inr ⟨y, rfl, hl, hm, by simp, fun i hil => ?_⟩⟩
    have hic : i < cap := by simpa using hil
    obtain ⟨g0, g1, g2, g3⟩ := hi i (by omega)
    obtain ⟨n0, e0, _, w0⟩ := DataW.trod_int h0 g2
    obtain ⟨n1, e1, _, w1⟩ := DataW.trod_int h1 g3
    injection e0 with e0
    injection e1 with e1
    rw [e0] at g0
    rw [e1] at g1
    have hz : ((List.range cap).map fun i => (intOf (V0 i), intOf (V1 i))).getD i (0, 0) = (n0, n1) := by
      simp [List.getD_eq_getElem?_getD, hic, e0, e1, intOf]
    rw [hz]
    exact ⟨g0, g1, w0, w1⟩
theorem open_row {t e : TypeId} {k : IntKind} {fuel : Nat} {a : Option Addr} {len cap : Nat} {x : DataW H × List MemPlace} (ht : Tryd.prog.underlying t = some (.slice e)) (he : Tryd.prog.underlying e = some (.int k)) (h1 : Tryd.prog.cellsOf e = 1)
    (hf : DataW.trod enc Tryd.prog W 0 (fun _ => true) true fuel t (Value.slice a len cap).cells.toList = some x) : ∃ zs, IsRow k W a len cap zs := by
  rcases open_ints ht he h1 hf with ⟨hcs, _⟩ | ⟨x, l, c, zs, hcs, _, hl, hm, hz, _, hcell, hwz⟩
  · simp [Value.cells] at hcs
    obtain ⟨rfl, rfl, rfl⟩ := hcs
    exact ⟨[], .inl ⟨rfl, rfl, rfl, rfl⟩⟩
  · simp [Value.cells] at hcs
    obtain ⟨rfl, rfl, rfl⟩ := hcs
    exact ⟨zs, .inr ⟨_, rfl, hl, hm, by simpa using hz, hcell, hwz⟩⟩
theorem open_rows {t e g : TypeId} {k : IntKind} {fuel : Nat} {a : Option Addr} {len cap : Nat} {x : DataW H × List MemPlace} (ht : Tryd.prog.underlying t = some (.slice e)) (he : Tryd.prog.underlying e = some (.slice g)) (hg : Tryd.prog.underlying g = some (.int k)) (h1 : Tryd.prog.cellsOf e = 1) (h2 : Tryd.prog.cellsOf g = 1)
    (hf : DataW.trod enc Tryd.prog W 0 (fun _ => true) true fuel t (Value.slice a len cap).cells.toList = some x) : IsRows k W a len cap := by
  rcases open_slice ht hf with ⟨hcs, _⟩ | ⟨x, l, c, m, n, D, Pl, hcs, _, hl, hm, hmm, _, hi⟩
  · simp [Value.cells] at hcs
    obtain ⟨rfl, rfl, rfl⟩ := hcs
    exact .inl ⟨rfl, rfl, rfl⟩
  · simp [Value.cells] at hcs
    obtain ⟨rfl, rfl, rfl⟩ := hcs
    refine .inr ⟨x, rfl, hl, hm, fun i hil => ?_⟩
    simp only [if_true] at hmm
    obtain ⟨cs, hc, htr⟩ := hi i (by omega)
    rw [h1, Nat.mul_one] at hc
    obtain ⟨_, hlen, hat⟩ := World.cells?_some hc
    have h0 := hat 0 (by omega)
    have ha0 : (x.add i).add 0 = x.add i := by rw [Go.Deep.add_add]; rfl
    rw [ha0] at h0
    rcases open_ints he hg h2 htr with ⟨hcs, _⟩ | ⟨y, l', c', zs, hcs, _, hl', hm', hz, _, hcell, hwz⟩
    · subst hcs
      exact ⟨none, 0, 0, [], by simpa using h0, .inl ⟨rfl, rfl, rfl, rfl⟩⟩
    · subst hcs
      exact ⟨some y, l', c', zs, by simpa using h0, .inr ⟨y, rfl, hl', hm', by simpa using hz, hcell, hwz⟩⟩
end
theorem len5 {l : List Value} (h : l.length = 5) : ∃ c0 c1 c2 c3 c4, l = [c0, c1, c2, c3, c4] := by
  match l, h with
  | [c0, c1, c2, c3, c4], _ => exact ⟨_, _, _, _, _, rfl⟩
theorem len8 {l : List Value} (h : l.length = 8) : ∃ c0 c1 c2 c3 c4 c5 c6 c7, l = [c0, c1, c2, c3, c4, c5, c6, c7] := by
  match l, h with
  | [c0, c1, c2, c3, c4, c5, c6, c7], _ => exact ⟨_, _, _, _, _, _, _, _, rfl⟩
section
variable {H : Type} {enc : TypeId × Value → H} {W : World}
/-- What is told of a field's cells. -/
theorem open_field {t : TypeId} {fs : Array Field} {cs : List Value} (ht : Tryd.prog.underlying t = some (.struct fs)) (h : ∃ fuel x, DataW.trod enc Tryd.prog W 0 (fun _ => true) true fuel t cs = some x) (j : Nat) (f : Field) (hj : fs[j]? = some f) (k m : Nat) (ho : f.offset = k) (hc : Tryd.prog.cellsOf f.type = m) :
    ∃ fuel x, DataW.trod enc Tryd.prog W 0 (fun _ => true) true fuel f.type ((cs.drop k).take m) = some x := by
  obtain ⟨fuel, x, h⟩ := h
  obtain ⟨xs, n, _, _, _, hl, hg⟩ := DataW.trod_struct ht h
  have h1 := hg j f hj
  rw [ho, hc] at h1
  have hjl : j < xs.length := by rw [hl]; exact (Array.getElem?_eq_some_iff.1 hj).1
  rw [List.getElem?_eq_getElem hjl] at h1
  exact ⟨n, _, h1⟩
theorem leaf_int {t : TypeId} {k : IntKind} {v : Value} (ht : Tryd.prog.underlying t = some (.int k)) (h : ∃ fuel x, DataW.trod enc Tryd.prog W 0 (fun _ => true) true fuel t [v] = some x) : ∃ z, v = .int k z ∧ (Lit.int k z).wf = true := by
  obtain ⟨fuel, x, h⟩ := h
  obtain ⟨z, e1, _, wz⟩ := DataW.trod_int ht h
  exact ⟨z, by injection e1, wz⟩
theorem leaf_bool {t : TypeId} {v : Value} (ht : Tryd.prog.underlying t = some .bool) (h : ∃ fuel x, DataW.trod enc Tryd.prog W 0 (fun _ => true) true fuel t [v] = some x) : ∃ z, v = .bool z := by
  obtain ⟨fuel, x, h⟩ := h
  obtain ⟨z, e1, _⟩ := DataW.trod_bool ht h
  exact ⟨z, by injection e1⟩
theorem leaf_slice {t e : TypeId} {v : Value} (ht : Tryd.prog.underlying t = some (.slice e)) (h : ∃ fuel x, DataW.trod enc Tryd.prog W 0 (fun _ => true) true fuel t [v] = some x) : ∃ a n c, v = .slice a n c := by
  obtain ⟨fuel, x, h⟩ := h
  rcases DataW.trod_slice ht h with ⟨e1, _⟩ | ⟨a, l, c, _, _, _, _, e1, _⟩
  · exact ⟨none, 0, 0, by injection e1⟩
  · exact ⟨some a, l, c, by injection e1⟩
end
theorem gT : Tryd.prog.globalNamed "internal/strconv.uint64pow10" = some 1 := by kernel_rfl
theorem gTT : (Tryd.prog.globals[1]?).map (·.type) = some 157 := by kernel_rfl
theorem door_met (os : Os) (args : Array Value) : laidMetH Tryd.prog Rows.quillErrorsRow.laid ((World.doorLaid Tryd.prog 400 os).forCall (fun _ _ => 0) ⟨#[], args, []⟩).memory :=
  laidMetH_of_parts3 (fuel := 8) (laidMet_of_run' 8 (by kernel_rfl) (by kernel_rfl)) (by kernel_rfl) (by kernel_rfl)
theorem of_laid {W : World} (h : laidMetH Tryd.prog Rows.quillErrorsRow.laid W) : Lib.TabIs Tryd.prog W "internal/strconv.uint64pow10" .u64 Lib.pow10Tab := by
  rw [MakeChecks.laidMetH_plain _ _ _ (by kernel_rfl)] at h
  exact Lib.tabIs_of_head gT gTT Tryd.underlying157 Tryd.underlying54 (by kernel_rfl) (by kernel_rfl) (h.tail.tail : laidMet Tryd.prog (("internal/strconv.uint64pow10", Lib.tabData .u64 Lib.pow10Tab) :: []) W)
/-- Entries that came in lie there. -/
theorem pairs_ents {w : World} {a : Option Addr} {len cap : Nat} {zs : List (Int × Int)} (h : IsPairs .i64 .i64 w a len cap zs) (hl : len ≤ 1000) : Ents w a len (zs.take len) := by
  rcases h with ⟨rfl, rfl, rfl, rfl⟩ | ⟨x, rfl, hlc, _, hz, hc⟩
  · exact ⟨.inl rfl, rfl, by omega⟩
  · have hlen : (zs.take len).length = len := by simp; omega
    refine ⟨?_, hlen, hl⟩
    rcases Nat.eq_zero_or_pos len with h0 | h0
    · subst h0
      exact .inl (by simp [gvs])
    · obtain ⟨b, o, sp⟩ := x
      obtain ⟨h1, _⟩ := hc 0 (by omega)
      have hsp : sp = none := by simpa [Addr.add] using World.cell?_spot h1
      subst hsp
      refine .inr ⟨b, o, rfl, ?_, fun i hi => ?_⟩
      · rw [add_none] at h1
        rcases Nat.lt_or_ge b w.heap.size with hlt | hge
        · exact hlt
        · simp [World.cell?, Array.getElem?_eq_none hge] at h1
      · rw [gvs_len, hlen] at hi
        have hi2 : i / 2 < len := by omega
        obtain ⟨g0, g1, _, _⟩ := hc (i / 2) (by omega)
        rw [add_none] at g0 g1
        have hgt : (zs.take len).getD (i / 2) (0, 0) = zs.getD (i / 2) (0, 0) := by
          simp only [List.getD_eq_getElem?_getD]
          rw [List.getElem?_take_of_lt hi2]
        rcases Nat.mod_two_eq_zero_or_one i with hm | hm
        · have e : i / 2 * 2 = i := by omega
          rw [e] at g0
          have := gvs_get0 (zs.take len) (i / 2) (by rw [hlen]; exact hi2)
          rw [e, hgt] at this
          rw [g0, this]
        · have e : i / 2 * 2 + 1 = i := by omega
          rw [e] at g1
          have := gvs_get1 (zs.take len) (i / 2) (by rw [hlen]; exact hi2)
          rw [e, hgt] at this
          rw [g1, this]
theorem wf_i64 {x : Int} (h : (Lit.int .i64 x).wf = true) : -9223372036854775808 ≤ x ∧ x ≤ 9223372036854775807 := by
  have hm : IntKind.i64.min = -9223372036854775808 ∧ IntKind.i64.max = 9223372036854775807 := by decide
  simp [Lit.wf, hm.1, hm.2] at h
  omega
theorem wf_u8 {x : Int} (h : (Lit.int .u8 x).wf = true) : 0 ≤ x ∧ x < 256 := by
  have hm : IntKind.u8.min = 0 ∧ IntKind.u8.max = 255 := by decide
  simp [Lit.wf, hm.1, hm.2] at h
  omega
theorem pairs_fit {w : World} {a : Option Addr} {len cap : Nat} {zs : List (Int × Int)} (h : IsPairs .i64 .i64 w a len cap zs) : ∀ y ∈ zs.take len, Fits y := by
  intro y hy
  rcases h with ⟨rfl, rfl, rfl, rfl⟩ | ⟨x, rfl, hlc, _, hz, hc⟩
  · simp at hy
  · obtain ⟨i, hi, rfl⟩ := List.getElem_of_mem (List.mem_of_mem_take hy)
    obtain ⟨_, _, g2, g3⟩ := hc i hi
    rw [List.getD_eq_getElem?_getD, List.getElem?_eq_getElem hi] at g2 g3
    exact ⟨wf_i64 g2, wf_i64 g3⟩
theorem walk (a0_0 : Int) (a0_1 : Int) (a0_2 : Option Addr) (len0_2 cap0_2 : Nat) (z0_2 : List (Int × Int)) (a0_3 : Int) (a0_4 : Int) (a1_0 : Int) (a1_1 : Int) (a1_2 : Option Addr) (len1_2 cap1_2 : Nat) (z1_2 : List (Int × Int)) (a1_3 : Int) (a1_4 : Int) (a1_5 : Int) (a1_6 : Int) (a1_7 : Int) (a2 : Int) (a3 : Option Addr) (len3 cap3 : Nat) (z3 : List Int) (w : World) (w0_0 : (Lit.int .u8 a0_0).wf = true) (w0_1 : (Lit.int .i64 a0_1).wf = true) (w0_2 : IsPairs .i64 .i64 w a0_2 len0_2 cap0_2 z0_2) (w0_3 : (Lit.int .i64 a0_3).wf = true) (w0_4 : (Lit.int .i64 a0_4).wf = true) (w1_0 : (Lit.int .u8 a1_0).wf = true) (w1_1 : (Lit.int .i64 a1_1).wf = true) (w1_2 : IsPairs .i64 .i64 w a1_2 len1_2 cap1_2 z1_2) (w1_3 : (Lit.int .i64 a1_3).wf = true) (w1_4 : (Lit.int .i64 a1_4).wf = true) (w1_5 : (Lit.int .u8 a1_5).wf = true) (w1_6 : (Lit.int .i64 a1_6).wf = true) (w1_7 : (Lit.int .u8 a1_7).wf = true) (w2 : (Lit.int .i64 a2).wf = true) (w3 : IsRow .u8 w a3 len3 cap3 z3)
    (htab : Lib.TabIs Tryd.prog w "internal/strconv.uint64pow10" .u64 Lib.pow10Tab) :
    Calls Tryd.prog 3 #[.agg #[.int .u8 a0_0, .int .i64 a0_1, .slice a0_2 len0_2 cap0_2, .int .i64 a0_3, .int .i64 a0_4], .agg #[.int .u8 a1_0, .int .i64 a1_1, .slice a1_2 len1_2 cap1_2, .int .i64 a1_3, .int .i64 a1_4, .int .u8 a1_5, .int .i64 a1_6, .int .u8 a1_7], .int .i64 a2, .slice a3 len3 cap3] w fun e w' => e = .returned (.bool true) ∧ Below w.heap.size w w' := by
  have ht : Tab w.heap.size w := Lib.tabBelow_of_tabIs htab
  obtain ⟨hlen, _, hl, hby⟩ := row_lies w3
  refine (errors_ a0_2 a1_2 a3 len0_2 len1_2 cap0_2 cap1_2 len3 cap3 ⟨a0_0, a0_1, z0_2.take len0_2, a0_3, a0_4⟩ ⟨⟨a1_0, a1_1, z1_2.take len1_2, a1_3, a1_4⟩, a1_5, a1_6, a1_7⟩ (z3.take len3) a2 w ht
    (fun h => pairs_ents w0_2 (by omega)) (fun h => pairs_ents w1_2 (by omega)) (pairs_fit w0_2) (pairs_fit w1_2) w2 (wf_u8 w1_7) hlen (fun e => ?_) hl hby).mono fun e w' ⟨h1, h2⟩ => ⟨h1, h2.below (Nat.le_refl _) fun _ hf => hf.elim⟩
  rcases w3 with ⟨_, _, h, _⟩ | ⟨x, h, _⟩
  · exact h
  · rw [h] at e
    cases e

set_option maxRecDepth 100000 in
theorem lifted (os : Os) (started : os.Started) (H : Type) (enc : TypeId × Value → H) :
    ReturnsInHanded {} Tryd.checked os 3 .any (fun w args => (Rows.quillErrorsSpec.pre enc Tryd.prog Tryd.f3 [] false w args ∧ laidMetH Tryd.prog Rows.quillErrorsRow.laid w) ∧ sizedMet enc Tryd.prog Tryd.f3 (OpenSpec.ofChange Rows.quillErrorsSpec) false w args) (Rows.quillErrorsSpec.post enc Tryd.prog Tryd.f3 false true false false) := by
  refine returnsInHanded_of_change_and (C := Tryd.checked) (X := fun w _ => laidMetH Tryd.prog Rows.quillErrorsRow.laid w) (fun _ _ _ hh h => h.of_heap hh) own started (by kernel_rfl) Tryd.func3
    (ChangeSpec.witness_shaped (enc := enc) (C := Tryd.checked) (os := os) (X := fun w _ => laidMetH Tryd.prog Rows.quillErrorsRow.laid w) false (World.doorLaid Tryd.prog 400 os) #[.agg #[.int .u8 0, .int .i64 0, .slice none 0 0, .int .i64 0, .int .i64 0], .agg #[.int .u8 0, .int .i64 0, .slice none 0 0, .int .i64 0, .int .i64 0, .int .u8 0, .int .i64 0, .int .u8 0], .int .i64 0, .slice none 0 0] 8 rfl (World.shaped_of_RefB (by kernel_rfl) (by kernel_rfl)) (by kernel_rfl) (by kernel_rfl) (by kernel_rfl) (door_met os _)) ?_
  intro W base args ds gs before hval0 hW _ _ hL _
  have hval : ∀ (j : Nat) t v, Tryd.f3.params[j]? = some t → args[j]? = some v → Value.okWide Tryd.prog W .any base t v := hval0
  have hW' := hW
  obtain ⟨p, q, hA0, hV, rfl, hfz, hnd⟩ := hW
  have hA : DataW.TrodAll enc Tryd.prog W 0 (fun _ => true) true Tryd.f3.params.toList args.toList ds p := hA0
  rw [Tryd.params3] at hA hval
  obtain ⟨v0, vs0, d0, ds0, p0, q0, hargs, rfl, rfl, h0, r0⟩ := trodAll_cons hA
  obtain ⟨v1, vs1, d1, ds1, p1, q1, rfl, rfl, rfl, h1, r1⟩ := trodAll_cons r0
  obtain ⟨v2, vs2, d2, ds2, p2, q2, rfl, rfl, rfl, h2, r2⟩ := trodAll_cons r1
  obtain ⟨v3, vs3, d3, ds3, p3, q3, rfl, rfl, rfl, h3, r3⟩ := trodAll_cons r2
  obtain ⟨rfl, rfl, rfl⟩ := trodAll_nil r3
  obtain rfl : args = #[v0, v1, v2, v3] := by cases args; simp_all
  obtain ⟨rfl, rfl⟩ := trodVars_none hV
  obtain ⟨cs0, rfl, hs0⟩ := okWide_struct Tryd.underlying25 (hval 0 25 v0 rfl rfl)
  have k0 := h0
  have lt0 : ∀ x ∈ p0, x.block < W.heap.size := by obtain ⟨m, hm⟩ := k0; exact DataW.trod_lt m _ _ _ hm
  obtain ⟨l0⟩ := cs0
  obtain ⟨c0_0, c0_1, c0_2, c0_3, c0_4, rfl⟩ := len5 (l := l0) (hs0.trans (by kernel_rfl))
  have g0 : ∃ fuel x, DataW.trod enc Tryd.prog W 0 (fun _ => true) true fuel 25 [c0_0, c0_1, c0_2, c0_3, c0_4] = some x := by obtain ⟨m, hm⟩ := k0; exact ⟨m, _, by simpa [Value.cells] using hm⟩
  have g0_0 : ∃ fuel x, DataW.trod enc Tryd.prog W 0 (fun _ => true) true fuel 22 [c0_0] = some x := open_field Tryd.underlying25 g0 0 _ rfl 0 1 rfl (by kernel_rfl)
  have g0_1 : ∃ fuel x, DataW.trod enc Tryd.prog W 0 (fun _ => true) true fuel 3 [c0_1] = some x := open_field Tryd.underlying25 g0 1 _ rfl 1 1 rfl (by kernel_rfl)
  have g0_2 : ∃ fuel x, DataW.trod enc Tryd.prog W 0 (fun _ => true) true fuel 23 [c0_2] = some x := open_field Tryd.underlying25 g0 2 _ rfl 2 1 rfl (by kernel_rfl)
  have g0_3 : ∃ fuel x, DataW.trod enc Tryd.prog W 0 (fun _ => true) true fuel 3 [c0_3] = some x := open_field Tryd.underlying25 g0 3 _ rfl 3 1 rfl (by kernel_rfl)
  have g0_4 : ∃ fuel x, DataW.trod enc Tryd.prog W 0 (fun _ => true) true fuel 3 [c0_4] = some x := open_field Tryd.underlying25 g0 4 _ rfl 4 1 rfl (by kernel_rfl)
  obtain ⟨a0_0, rfl, w0_0⟩ := leaf_int Tryd.underlying22 g0_0
  obtain ⟨a0_1, rfl, w0_1⟩ := leaf_int Tryd.underlying3 g0_1
  obtain ⟨a0_2, len0_2, cap0_2, rfl⟩ := leaf_slice Tryd.underlying23 g0_2
  obtain ⟨z0_2, w0_2⟩ : ∃ zs, IsPairs .i64 .i64 W a0_2 len0_2 cap0_2 zs := by
    obtain ⟨fuel, x, hf⟩ := g0_2
    exact open_pairs Tryd.underlying23 Tryd.underlying88 Tryd.underlying3 Tryd.underlying3 (by kernel_rfl) rfl rfl (by kernel_rfl) (by kernel_rfl) hf
  obtain ⟨a0_3, rfl, w0_3⟩ := leaf_int Tryd.underlying3 g0_3
  obtain ⟨a0_4, rfl, w0_4⟩ := leaf_int Tryd.underlying3 g0_4
  obtain ⟨cs1, rfl, hs1⟩ := okWide_struct Tryd.underlying27 (hval 1 27 v1 rfl rfl)
  have k1 := h1
  have lt1 : ∀ x ∈ p1, x.block < W.heap.size := by obtain ⟨m, hm⟩ := k1; exact DataW.trod_lt m _ _ _ hm
  obtain ⟨l1⟩ := cs1
  obtain ⟨c1_0, c1_1, c1_2, c1_3, c1_4, c1_5, c1_6, c1_7, rfl⟩ := len8 (l := l1) (hs1.trans (by kernel_rfl))
  have g1 : ∃ fuel x, DataW.trod enc Tryd.prog W 0 (fun _ => true) true fuel 27 [c1_0, c1_1, c1_2, c1_3, c1_4, c1_5, c1_6, c1_7] = some x := by obtain ⟨m, hm⟩ := k1; exact ⟨m, _, by simpa [Value.cells] using hm⟩
  have g1_0 : ∃ fuel x, DataW.trod enc Tryd.prog W 0 (fun _ => true) true fuel 25 [c1_0, c1_1, c1_2, c1_3, c1_4] = some x := open_field Tryd.underlying27 g1 0 _ rfl 0 5 rfl (by kernel_rfl)
  have g1_0_0 : ∃ fuel x, DataW.trod enc Tryd.prog W 0 (fun _ => true) true fuel 22 [c1_0] = some x := open_field Tryd.underlying25 g1_0 0 _ rfl 0 1 rfl (by kernel_rfl)
  have g1_0_1 : ∃ fuel x, DataW.trod enc Tryd.prog W 0 (fun _ => true) true fuel 3 [c1_1] = some x := open_field Tryd.underlying25 g1_0 1 _ rfl 1 1 rfl (by kernel_rfl)
  have g1_0_2 : ∃ fuel x, DataW.trod enc Tryd.prog W 0 (fun _ => true) true fuel 23 [c1_2] = some x := open_field Tryd.underlying25 g1_0 2 _ rfl 2 1 rfl (by kernel_rfl)
  have g1_0_3 : ∃ fuel x, DataW.trod enc Tryd.prog W 0 (fun _ => true) true fuel 3 [c1_3] = some x := open_field Tryd.underlying25 g1_0 3 _ rfl 3 1 rfl (by kernel_rfl)
  have g1_0_4 : ∃ fuel x, DataW.trod enc Tryd.prog W 0 (fun _ => true) true fuel 3 [c1_4] = some x := open_field Tryd.underlying25 g1_0 4 _ rfl 4 1 rfl (by kernel_rfl)
  have g1_1 : ∃ fuel x, DataW.trod enc Tryd.prog W 0 (fun _ => true) true fuel 22 [c1_5] = some x := open_field Tryd.underlying27 g1 1 _ rfl 5 1 rfl (by kernel_rfl)
  have g1_2 : ∃ fuel x, DataW.trod enc Tryd.prog W 0 (fun _ => true) true fuel 3 [c1_6] = some x := open_field Tryd.underlying27 g1 2 _ rfl 6 1 rfl (by kernel_rfl)
  have g1_3 : ∃ fuel x, DataW.trod enc Tryd.prog W 0 (fun _ => true) true fuel 5 [c1_7] = some x := open_field Tryd.underlying27 g1 3 _ rfl 7 1 rfl (by kernel_rfl)
  obtain ⟨a1_0, rfl, w1_0⟩ := leaf_int Tryd.underlying22 g1_0_0
  obtain ⟨a1_1, rfl, w1_1⟩ := leaf_int Tryd.underlying3 g1_0_1
  obtain ⟨a1_2, len1_2, cap1_2, rfl⟩ := leaf_slice Tryd.underlying23 g1_0_2
  obtain ⟨z1_2, w1_2⟩ : ∃ zs, IsPairs .i64 .i64 W a1_2 len1_2 cap1_2 zs := by
    obtain ⟨fuel, x, hf⟩ := g1_0_2
    exact open_pairs Tryd.underlying23 Tryd.underlying88 Tryd.underlying3 Tryd.underlying3 (by kernel_rfl) rfl rfl (by kernel_rfl) (by kernel_rfl) hf
  obtain ⟨a1_3, rfl, w1_3⟩ := leaf_int Tryd.underlying3 g1_0_3
  obtain ⟨a1_4, rfl, w1_4⟩ := leaf_int Tryd.underlying3 g1_0_4
  obtain ⟨a1_5, rfl, w1_5⟩ := leaf_int Tryd.underlying22 g1_1
  obtain ⟨a1_6, rfl, w1_6⟩ := leaf_int Tryd.underlying3 g1_2
  obtain ⟨a1_7, rfl, w1_7⟩ := leaf_int Tryd.underlying5 g1_3
  obtain ⟨a2, rfl, rfl, rfl, w2⟩ := open_int Tryd.underlying3 (hval 2 3 v2 rfl rfl) h2
  obtain ⟨a3, len3, cap3, rfl⟩ := okWide_slice Tryd.underlying28 (hval 3 28 v3 rfl rfl)
  have k3 := h3
  have lt3 : ∀ x ∈ p3, x.block < W.heap.size := by obtain ⟨m, hm⟩ := k3; exact DataW.trod_lt m _ _ _ hm
  obtain ⟨z3, w3⟩ : ∃ zs, IsRow .u8 W a3 len3 cap3 zs := by
    obtain ⟨fuel, hf⟩ := h3
    exact open_row Tryd.underlying28 Tryd.underlying5 (by kernel_rfl) hf
  clear hA0 hval0
  have htab := of_laid hL
  refine (walk a0_0 a0_1 a0_2 len0_2 cap0_2 z0_2 a0_3 a0_4 a1_0 a1_1 a1_2 len1_2 cap1_2 z1_2 a1_3 a1_4 a1_5 a1_6 a1_7 a2 a3 len3 cap3 z3 W w0_0 w0_1 w0_2 w0_3 w0_4 w1_0 w1_1 w1_2 w1_3 w1_4 w1_5 w1_6 w1_7 w2 w3 htab).mono fun e W' ⟨he, bel⟩ => ?_
  subst he
  exact ⟨_, rfl, _, _, _, [], _, [], hW', trodAll_mk1 (shut_bool Tryd.underlying4 _), (trodAll_cons_mk (Below.trod laidOut (by kernel_rfl) (of_decide_eq_true (by kernel_rfl)) k0 bel lt0) (trodAll_cons_mk (Below.trod laidOut (by kernel_rfl) (of_decide_eq_true (by kernel_rfl)) k1 bel lt1) (trodAll_cons_mk (shut_int Tryd.underlying3 w2) (trodAll_cons_mk (Below.trod laidOut (by kernel_rfl) (of_decide_eq_true (by kernel_rfl)) k3 bel lt3) trodAll_mk0)))), rfl, bel.frame _, fun h => by cases h⟩

theorem over : Rows.quillErrorsRow.holds Tryd.pinned (OpenSpec.ofChange Rows.quillErrorsSpec) :=
  OpenClaim.holds_of_wide 3 Tryd.f3 rfl rfl rfl rfl rfl rfl rfl ⟨rfl, rfl, rfl, rfl, rfl⟩ rfl rfl rfl rfl rfl (by kernel_rfl) Tryd.func3 (by kernel_rfl)
    (of_decide_eq_true (by kernel_rfl)) (by unfold Func.isWrapper; first | (rw [if_pos (by decide +kernel)]; kernel_rfl) | (rw [if_neg (by decide +kernel)]; exact ⟨rfl, rfl⟩))
    (fun os started H enc _ => lifted os started H enc)

/-- The row's statement. -/
theorem said : Rows.QuillErrorsSaid := over
end Go.Proofs.YtgaofnmgdefdcaaDoor.quillErrors
namespace Go.Proofs.YtgaofnmgdefdcaaDoor
open Go
/-- The statement, as given: the card. -/
theorem quillErrors_holds : Rows.QuillErrorsCardSaid :=
  Claim7.holds_tied_plain_at .later [] [.data, .data, .data] true (true, "afb144acc21641e025df51513eec9d2056aed34cd548fc7f1906341ac402bc0a") false
    quillErrors.said (fun _ h => by cases h) (by kernel_rfl) (fun _ h => by cases h) quillErrors_row_tie rfl ⟨rfl, rfl⟩ (by kernel_rfl) rfl
    (fun f fn hf hfn => by
      obtain rfl : f = 3 := Option.some.inj ((show Tryd.prog.funcNamed "scriptorium/scriptoriumlaw10.QuillErrors" = some 3 by kernel_rfl).symm.trans hf) |>.symm
      obtain rfl : fn = Tryd.f3 := (Option.some.inj (Tryd.func3.symm.trans hfn)).symm
      exact ⟨by kernel_rfl, fun j t ht => by
        rw [Tryd.params3] at ht
        have hm : t ∈ [25, 27, 3, 28] := by simpa using Array.mem_of_getElem? ht
        have hall : ([25, 27, 3, 28].all fun u => !Tryd.prog.wantsStandIn u) = true := by kernel_rfl
        exact (show Tryd.prog.wantsStandIn t = false by simpa using List.all_eq_true.1 hall t hm)⟩)
    (by kernel_rfl)
#print axioms quillErrors_holds
end Go.Proofs.YtgaofnmgdefdcaaDoor
