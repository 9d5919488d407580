
/- The statement LensEnds (P11.1: what is left in the row of bits, or in a block; blocks that there aren't; ways that may not be), as its card, holds for every input: the Go function answers true, and its arguments read as before. No conditions beyond the card's own. -/
import Derived.Test.YtgaofnmgdefdcaaGreatDoorRows
import Derived.WalkKit
import Derived.ProofKit
import Derived.OpenShut
import Derived.ShutString
import Derived.ChangeMaps5
import Derived.ChangeOld
import Derived.Below
import Derived.Test.YtgaofnmgdefdcaaGreatDoorLnEnds
import Derived.LaidMore
import Derived.Stop.Joined
import Derived.Stop.LaidErr
import Derived.SevenTiedAt
import Derived.Lib.LaidTab
import Derived.Test.YtgaofnmgdefdcaaGreatDoorTie
import Derived.Test.YtgaofnmgdefdcaaGreatDoorCards
import Derived.Deep.Slices
import Derived.Deep.SlicePairs
namespace Go.Proofs.YtgaofnmgdefdcaaGreatDoor.lensEnds
open Go.ChangeShapes Go.WideShapes Go.ChangeAt Go.RowKit Go.Deep
open Go.Proofs.YtgaofnmgdefdcaaGreatDoor.Gen Go.Proofs.YtgaofnmgdefdcaaGreatDoor.Hr Go.Proofs.YtgaofnmgdefdcaaGreatDoor.Hn Go.Proofs.YtgaofnmgdefdcaaGreatDoor.Ds Go.Proofs.YtgaofnmgdefdcaaGreatDoor.Ky Go.Proofs.YtgaofnmgdefdcaaGreatDoor.Qc Go.Proofs.YtgaofnmgdefdcaaGreatDoor.Le
set_option linter.unusedVariables false

theorem own : ownKnob Tryz.prog.godebug = none := by kernel_rfl
theorem laidOut : laidOutB Tryz.prog = true := by kernel_rfl

/-- What the walk is told of a slice of integers that came in: it is nil, or a row of cells that hold zs, each of which fits. -/
def IsRow (k : IntKind) (w : World) (a : Option Addr) (len cap : Nat) (zs : List Int) : Prop :=
  (a = none ∧ len = 0 ∧ cap = 0 ∧ zs = []) ∨
  ∃ x, a = some x ∧ len ≤ cap ∧ cap ≤ maxLen ∧ zs.length = cap ∧ (∀ i, i < zs.length → w.cell? (x.add i) = some (.int k (zs.getD i 0))) ∧ ∀ n ∈ zs, (Lit.int k n).wf = true
/-- And of a slice of such slices: it is nil, or each of its cells holds one. -/
def IsRows (k : IntKind) (w : World) (a : Option Addr) (len cap : Nat) : Prop :=
  (a = none ∧ len = 0 ∧ cap = 0) ∨
  ∃ x, a = some x ∧ len ≤ cap ∧ cap ≤ maxLen ∧ ∀ i, i < len → ∃ b n c zs, w.cell? (x.add i) = some (.slice b n c) ∧ IsRow k w b n c zs
/-- And of a slice of structs of two integers. -/
def IsPairs (k0 k1 : IntKind) (w : World) (a : Option Addr) (len cap : Nat) (zs : List (Int × Int)) : Prop :=
  (a = none ∧ len = 0 ∧ cap = 0 ∧ zs = []) ∨
  ∃ x, a = some x ∧ len ≤ cap ∧ cap ≤ maxLen ∧ zs.length = cap ∧ ∀ i, i < zs.length → w.cell? (x.add (i * 2)) = some (.int k0 (zs.getD i (0, 0)).1) ∧ w.cell? (x.add (i * 2 + 1)) = some (.int k1 (zs.getD i (0, 0)).2) ∧ (Lit.int k0 (zs.getD i (0, 0)).1).wf = true ∧ (Lit.int k1 (zs.getD i (0, 0)).2).wf = true
section
variable {H : Type} {enc : TypeId × Value → H} {W : World}
theorem open_pairs {t e : TypeId} {k0 k1 : IntKind} {f0 f1 : Field} {fuel : Nat} {a : Option Addr} {len cap : Nat} {x : DataW H × List MemPlace} (ht : Tryz.prog.underlying t = some (.slice e)) (he : Tryz.prog.underlying e = some (.struct #[f0, f1])) (h0 : Tryz.prog.underlying f0.type = some (.int k0)) (h1 : Tryz.prog.underlying f1.type = some (.int k1))
    (ce : Tryz.prog.cellsOf e = 2) (o0 : f0.offset = 0) (o1 : f1.offset = 1) (c0 : Tryz.prog.cellsOf f0.type = 1) (c1 : Tryz.prog.cellsOf f1.type = 1)
    (hf : DataW.trod enc Tryz.prog W 0 (fun _ => true) true fuel t (Value.slice a len cap).cells.toList = some x) : ∃ zs, IsPairs k0 k1 W a len cap zs := by
  rcases open_slice_pairs ht he ce o0 o1 c0 c1 hf with ⟨hcs, _⟩ | ⟨y, l, c, m, n, V0, V1, D0, D1, P0, P1, hcs, _, hl, hm, hmm, _, hi⟩
  · simp [Value.cells] at hcs
    obtain ⟨rfl, rfl, rfl⟩ := hcs
    exact ⟨[], .inl ⟨rfl, rfl, rfl, rfl⟩⟩
  · simp [Value.cells] at hcs
    obtain ⟨rfl, rfl, rfl⟩ := hcs
    simp only [if_true] at hmm
    refine ⟨(List.range cap).map fun i => (intOf (V0 i), intOf (V1 i)), .inr ⟨y, rfl, hl, hm, by simp, fun i hil => ?_⟩⟩
    have hic : i < cap := by simpa using hil
    obtain ⟨g0, g1, g2, g3⟩ := hi i (by omega)
    obtain ⟨n0, e0, _, w0⟩ := DataW.trod_int h0 g2
    obtain ⟨n1, e1, _, w1⟩ := DataW.trod_int h1 g3
    injection e0 with e0
    injection e1 with e1
    rw [e0] at g0
    rw [e1] at g1
    have hz : ((List.range cap).map fun i => (intOf (V0 i), intOf (V1 i))).getD i (0, 0) = (n0, n1) := by
      simp [List.getD_eq_getElem?_getD, hic, e0, e1, intOf]
    rw [hz]
    exact ⟨g0, g1, w0, w1⟩
theorem open_row {t e : TypeId} {k : IntKind} {fuel : Nat} {a : Option Addr} {len cap : Nat} {x : DataW H × List MemPlace} (ht : Tryz.prog.underlying t = some (.slice e)) (he : Tryz.prog.underlying e = some (.int k)) (h1 : Tryz.prog.cellsOf e = 1)
    (hf : DataW.trod enc Tryz.prog W 0 (fun _ => true) true fuel t (Value.slice a len cap).cells.toList = some x) : ∃ zs, IsRow k W a len cap zs := by
  rcases open_ints ht he h1 hf with ⟨hcs, _⟩ | ⟨x, l, c, zs, hcs, _, hl, hm, hz, _, hcell, hwz⟩
  · simp [Value.cells] at hcs
    obtain ⟨rfl, rfl, rfl⟩ := hcs
    exact ⟨[], .inl ⟨rfl, rfl, rfl, rfl⟩⟩
  · simp [Value.cells] at hcs
    obtain ⟨rfl, rfl, rfl⟩ := hcs
    exact ⟨zs, .inr ⟨_, rfl, hl, hm, by simpa using hz, hcell, hwz⟩⟩
theorem open_rows {t e g : TypeId} {k : IntKind} {fuel : Nat} {a : Option Addr} {len cap : Nat} {x : DataW H × List MemPlace} (ht : Tryz.prog.underlying t = some (.slice e)) (he : Tryz.prog.underlying e = some (.slice g)) (hg : Tryz.prog.underlying g = some (.int k)) (h1 : Tryz.prog.cellsOf e = 1) (h2 : Tryz.prog.cellsOf g = 1)
    (hf : DataW.trod enc Tryz.prog W 0 (fun _ => true) true fuel t (Value.slice a len cap).cells.toList = some x) : IsRows k W a len cap := by
  rcases open_slice ht hf with ⟨hcs, _⟩ | ⟨x, l, c, m, n, D, Pl, hcs, _, hl, hm, hmm, _, hi⟩
  · simp [Value.cells] at hcs
    obtain ⟨rfl, rfl, rfl⟩ := hcs
    exact .inl ⟨rfl, rfl, rfl⟩
  · simp [Value.cells] at hcs
    obtain ⟨rfl, rfl, rfl⟩ := hcs
    refine .inr ⟨x, rfl, hl, hm, fun i hil => ?_⟩
    simp only [if_true] at hmm
    obtain ⟨cs, hc, htr⟩ := hi i (by omega)
    rw [h1, Nat.mul_one] at hc
    obtain ⟨_, hlen, hat⟩ := World.cells?_some hc
    have h0 := hat 0 (by omega)
    have ha0 : (x.add i).add 0 = x.add i := by rw [Go.Deep.add_add]; rfl
    rw [ha0] at h0
    rcases open_ints he hg h2 htr with ⟨hcs, _⟩ | ⟨y, l', c', zs, hcs, _, hl', hm', hz, _, hcell, hwz⟩
    · subst hcs
      exact ⟨none, 0, 0, [], by simpa using h0, .inl ⟨rfl, rfl, rfl, rfl⟩⟩
    · subst hcs
      exact ⟨some y, l', c', zs, by simpa using h0, .inr ⟨y, rfl, hl', hm', by simpa using hz, hcell, hwz⟩⟩
end
theorem len5 {l : List Value} (h : l.length = 5) : ∃ c0 c1 c2 c3 c4, l = [c0, c1, c2, c3, c4] := by
  match l, h with
  | [c0, c1, c2, c3, c4], _ => exact ⟨_, _, _, _, _, rfl⟩
theorem len8 {l : List Value} (h : l.length = 8) : ∃ c0 c1 c2 c3 c4 c5 c6 c7, l = [c0, c1, c2, c3, c4, c5, c6, c7] := by
  match l, h with
  | [c0, c1, c2, c3, c4, c5, c6, c7], _ => exact ⟨_, _, _, _, _, _, _, _, rfl⟩
section
variable {H : Type} {enc : TypeId × Value → H} {W : World}
/-- What is told of a field's cells. -/
theorem open_field {t : TypeId} {fs : Array Field} {cs : List Value} (ht : Tryz.prog.underlying t = some (.struct fs)) (h : ∃ fuel x, DataW.trod enc Tryz.prog W 0 (fun _ => true) true fuel t cs = some x) (j : Nat) (f : Field) (hj : fs[j]? = some f) (k m : Nat) (ho : f.offset = k) (hc : Tryz.prog.cellsOf f.type = m) :
    ∃ fuel x, DataW.trod enc Tryz.prog W 0 (fun _ => true) true fuel f.type ((cs.drop k).take m) = some x := by
  obtain ⟨fuel, x, h⟩ := h
  obtain ⟨xs, n, _, _, _, hl, hg⟩ := DataW.trod_struct ht h
  have h1 := hg j f hj
  rw [ho, hc] at h1
  have hjl : j < xs.length := by rw [hl]; exact (Array.getElem?_eq_some_iff.1 hj).1
  rw [List.getElem?_eq_getElem hjl] at h1
  exact ⟨n, _, h1⟩
/-- What is told of an array's cells. -/
theorem open_elem {t e : TypeId} {n : Nat} {cs : List Value} (ht : Tryz.prog.underlying t = some (.array n e)) (ce : Tryz.prog.cellsOf e = 1) (h : ∃ fuel x, DataW.trod enc Tryz.prog W 0 (fun _ => true) true fuel t cs = some x) (j : Nat) (hj : j < n) :
    ∃ fuel x, DataW.trod enc Tryz.prog W 0 (fun _ => true) true fuel e ((cs.drop j).take 1) = some x := by
  obtain ⟨fuel, x, hf⟩ := h
  obtain ⟨xs, m, _, _, _, hx, hi⟩ := DataW.trod_array ht hf
  have h1 := hi j hj
  rw [List.getElem?_eq_getElem (by omega), ce, Nat.mul_one] at h1
  exact ⟨m, _, h1⟩
theorem leaf_int {t : TypeId} {k : IntKind} {v : Value} (ht : Tryz.prog.underlying t = some (.int k)) (h : ∃ fuel x, DataW.trod enc Tryz.prog W 0 (fun _ => true) true fuel t [v] = some x) : ∃ z, v = .int k z ∧ (Lit.int k z).wf = true := by
  obtain ⟨fuel, x, h⟩ := h
  obtain ⟨z, e1, _, wz⟩ := DataW.trod_int ht h
  exact ⟨z, by injection e1, wz⟩
theorem leaf_bool {t : TypeId} {v : Value} (ht : Tryz.prog.underlying t = some .bool) (h : ∃ fuel x, DataW.trod enc Tryz.prog W 0 (fun _ => true) true fuel t [v] = some x) : ∃ z, v = .bool z := by
  obtain ⟨fuel, x, h⟩ := h
  obtain ⟨z, e1, _⟩ := DataW.trod_bool ht h
  exact ⟨z, by injection e1⟩
theorem leaf_slice {t e : TypeId} {v : Value} (ht : Tryz.prog.underlying t = some (.slice e)) (h : ∃ fuel x, DataW.trod enc Tryz.prog W 0 (fun _ => true) true fuel t [v] = some x) : ∃ a n c, v = .slice a n c := by
  obtain ⟨fuel, x, h⟩ := h
  rcases DataW.trod_slice ht h with ⟨e1, _⟩ | ⟨a, l, c, _, _, _, _, e1, _⟩
  · exact ⟨none, 0, 0, by injection e1⟩
  · exact ⟨some a, l, c, by injection e1⟩
end
theorem gT : Tryz.prog.globalNamed "internal/strconv.uint64pow10" = some 1 := by kernel_rfl
theorem gTT : (Tryz.prog.globals[1]?).map (·.type) = some 205 := by kernel_rfl
theorem door_met (os : Os) (args : Array Value) : laidMetH Tryz.prog Rows.lensEndsRow.laid ((World.doorLaid Tryz.prog 400 os).forCall (fun _ _ => 0) ⟨#[], args, []⟩).memory :=
  laidMetH_of_parts3 (fuel := 8) (laidMet_of_run' 8 (by kernel_rfl) (by kernel_rfl)) (by kernel_rfl) (by kernel_rfl)
theorem of_laid {W : World} (h : laidMetH Tryz.prog Rows.lensEndsRow.laid W) : Lib.TabIs Tryz.prog W "internal/strconv.uint64pow10" .u64 Lib.pow10Tab := by
  rw [MakeChecks.laidMetH_plain _ _ _ (by kernel_rfl)] at h
  exact Lib.tabIs_of_head gT gTT Tryz.underlying205 Tryz.underlying69 (by kernel_rfl) (by kernel_rfl) (h.tail.tail : laidMet Tryz.prog (("internal/strconv.uint64pow10", Lib.tabData .u64 Lib.pow10Tab) :: []) W)
/-- Entries that came in lie there. -/
theorem pairs_ents {w : World} {a : Option Addr} {len cap : Nat} {zs : List (Int × Int)} (h : IsPairs .i64 .i64 w a len cap zs) (hl : len ≤ 1000) : Ents w a len (zs.take len) := by
  rcases h with ⟨rfl, rfl, rfl, rfl⟩ | ⟨x, rfl, hlc, _, hz, hc⟩
  · exact ⟨.inl rfl, rfl, by omega⟩
  · have hlen : (zs.take len).length = len := by simp; omega
    refine ⟨?_, hlen, hl⟩
    rcases Nat.eq_zero_or_pos len with h0 | h0
    · subst h0
      exact .inl (by simp [gvs])
    · obtain ⟨b, o, sp⟩ := x
      obtain ⟨h1, _⟩ := hc 0 (by omega)
      have hsp : sp = none := by simpa [Addr.add] using World.cell?_spot h1
      subst hsp
      refine .inr ⟨b, o, rfl, ?_, fun i hi => ?_⟩
      · rw [add_none] at h1
        rcases Nat.lt_or_ge b w.heap.size with hlt | hge
        · exact hlt
        · simp [World.cell?, Array.getElem?_eq_none hge] at h1
      · rw [gvs_len, hlen] at hi
        have hi2 : i / 2 < len := by omega
        obtain ⟨g0, g1, _, _⟩ := hc (i / 2) (by omega)
        rw [add_none] at g0 g1
        have hgt : (zs.take len).getD (i / 2) (0, 0) = zs.getD (i / 2) (0, 0) := by
          simp only [List.getD_eq_getElem?_getD]
          rw [List.getElem?_take_of_lt hi2]
        rcases Nat.mod_two_eq_zero_or_one i with hm | hm
        · have e : i / 2 * 2 = i := by omega
          rw [e] at g0
          have := gvs_get0 (zs.take len) (i / 2) (by rw [hlen]; exact hi2)
          rw [e, hgt] at this
          rw [g0, this]
        · have e : i / 2 * 2 + 1 = i := by omega
          rw [e] at g1
          have := gvs_get1 (zs.take len) (i / 2) (by rw [hlen]; exact hi2)
          rw [e, hgt] at this
          rw [g1, this]
theorem wf_i64 {x : Int} (h : (Lit.int .i64 x).wf = true) : -9223372036854775808 ≤ x ∧ x ≤ 9223372036854775807 := by
  have hm : IntKind.i64.min = -9223372036854775808 ∧ IntKind.i64.max = 9223372036854775807 := by decide
  simp [Lit.wf, hm.1, hm.2] at h
  omega
theorem wf_u8 {x : Int} (h : (Lit.int .u8 x).wf = true) : 0 ≤ x ∧ x < 256 := by
  have hm : IntKind.u8.min = 0 ∧ IntKind.u8.max = 255 := by decide
  simp [Lit.wf, hm.1, hm.2] at h
  omega
theorem pairs_fit {w : World} {a : Option Addr} {len cap : Nat} {zs : List (Int × Int)} (h : IsPairs .i64 .i64 w a len cap zs) : ∀ y ∈ zs.take len, Fits y := by
  intro y hy
  rcases h with ⟨rfl, rfl, rfl, rfl⟩ | ⟨x, rfl, hlc, _, hz, hc⟩
  · simp at hy
  · obtain ⟨i, hi, rfl⟩ := List.getElem_of_mem (List.mem_of_mem_take hy)
    obtain ⟨_, _, g2, g3⟩ := hc i hi
    rw [List.getD_eq_getElem?_getD, List.getElem?_eq_getElem hi] at g2 g3
    exact ⟨wf_i64 g2, wf_i64 g3⟩
theorem walk (a0 : Option Addr) (len0 cap0 : Nat) (z0 : List Int) (a1 : Int) (a2_0 : Int) (a2_1 : Int) (a2_2 : Option Addr) (len2_2 cap2_2 : Nat) (z2_2 : List (Int × Int)) (a2_3 : Int) (a2_4 : Int) (a3_0 : Int) (a3_1 : Int) (a3_2 : Option Addr) (len3_2 cap3_2 : Nat) (z3_2 : List (Int × Int)) (a3_3 : Int) (a3_4 : Int) (a3_5 : Int) (a3_6 : Int) (a3_7 : Int) (w : World) (w0 : IsRow .u8 w a0 len0 cap0 z0) (w1 : (Lit.int .u8 a1).wf = true) (w2_0 : (Lit.int .u8 a2_0).wf = true) (w2_1 : (Lit.int .i64 a2_1).wf = true) (w2_2 : IsPairs .i64 .i64 w a2_2 len2_2 cap2_2 z2_2) (w2_3 : (Lit.int .i64 a2_3).wf = true) (w2_4 : (Lit.int .i64 a2_4).wf = true) (w3_0 : (Lit.int .u8 a3_0).wf = true) (w3_1 : (Lit.int .i64 a3_1).wf = true) (w3_2 : IsPairs .i64 .i64 w a3_2 len3_2 cap3_2 z3_2) (w3_3 : (Lit.int .i64 a3_3).wf = true) (w3_4 : (Lit.int .i64 a3_4).wf = true) (w3_5 : (Lit.int .u8 a3_5).wf = true) (w3_6 : (Lit.int .i64 a3_6).wf = true) (w3_7 : (Lit.int .u8 a3_7).wf = true)
    (htab : Lib.TabIs Tryz.prog w "internal/strconv.uint64pow10" .u64 Lib.pow10Tab) :
    Calls Tryz.prog 6 #[.slice a0 len0 cap0, .int .u8 a1, .agg #[.int .u8 a2_0, .int .i64 a2_1, .slice a2_2 len2_2 cap2_2, .int .i64 a2_3, .int .i64 a2_4], .agg #[.int .u8 a3_0, .int .i64 a3_1, .slice a3_2 len3_2 cap3_2, .int .i64 a3_3, .int .i64 a3_4, .int .u8 a3_5, .int .i64 a3_6, .int .u8 a3_7]] w fun e w' => e = .returned (.bool true) ∧ Below w.heap.size w w' := by
  have ht : Tab w.heap.size w := Lib.tabBelow_of_tabIs htab
  obtain ⟨hlen, _, hl, hby⟩ := row_lies w0
  exact (ends_ a0 a2_2 a3_2 len0 len2_2 len3_2 cap0 cap2_2 cap3_2 a1 (z0.take len0) ⟨a2_0, a2_1, z2_2.take len2_2, a2_3, a2_4⟩ ⟨⟨a3_0, a3_1, z3_2.take len3_2, a3_3, a3_4⟩, a3_5, a3_6, a3_7⟩ w ht (wf_u8 w1) hlen hl hby
    (fun h => pairs_ents w2_2 (by omega)) (fun h => pairs_ents w3_2 (by omega)) (pairs_fit w2_2) (pairs_fit w3_2) (wf_u8 w3_7)
    (fun b o h1 h2 e => Ents.lt (e ▸ pairs_ents w2_2 (by omega)) h2) (fun b o h1 h2 e => Ents.lt (e ▸ pairs_ents w3_2 (by omega)) h2)).mono fun e w' ⟨h1, h2⟩ => ⟨h1, h2.below (Nat.le_refl _) fun _ hf => hf.elim⟩

set_option maxRecDepth 100000 in
theorem lifted (os : Os) (started : os.Started) (H : Type) (enc : TypeId × Value → H) :
    ReturnsInHanded {} Tryz.checked os 6 .any (fun w args => (Rows.lensEndsSpec.pre enc Tryz.prog Tryz.f6 [] false w args ∧ laidMetH Tryz.prog Rows.lensEndsRow.laid w) ∧ sizedMet enc Tryz.prog Tryz.f6 (OpenSpec.ofChange Rows.lensEndsSpec) false w args) (Rows.lensEndsSpec.post enc Tryz.prog Tryz.f6 false true false false) := by
  refine returnsInHanded_of_change_and (C := Tryz.checked) (X := fun w _ => laidMetH Tryz.prog Rows.lensEndsRow.laid w) (fun _ _ _ hh h => h.of_heap hh) own started (by kernel_rfl) Tryz.func6
    (ChangeSpec.witness_shaped (enc := enc) (C := Tryz.checked) (os := os) (X := fun w _ => laidMetH Tryz.prog Rows.lensEndsRow.laid w) false (World.doorLaid Tryz.prog 400 os) #[.slice none 0 0, .int .u8 0, .agg #[.int .u8 0, .int .i64 0, .slice none 0 0, .int .i64 0, .int .i64 0], .agg #[.int .u8 0, .int .i64 0, .slice none 0 0, .int .i64 0, .int .i64 0, .int .u8 0, .int .i64 0, .int .u8 0]] 8 rfl (World.shaped_of_RefB (by kernel_rfl) (by kernel_rfl)) (by kernel_rfl) (by kernel_rfl) (by kernel_rfl) (door_met os _)) ?_
  intro W base args ds gs before hval0 hW _ _ hL _
  have hval : ∀ (j : Nat) t v, Tryz.f6.params[j]? = some t → args[j]? = some v → Value.okWide Tryz.prog W .any base t v := hval0
  have hW' := hW
  obtain ⟨p, q, hA0, hV, rfl, hfz, hnd⟩ := hW
  have hA : DataW.TrodAll enc Tryz.prog W 0 (fun _ => true) true Tryz.f6.params.toList args.toList ds p := hA0
  rw [Tryz.params6] at hA hval
  obtain ⟨v0, vs0, d0, ds0, p0, q0, hargs, rfl, rfl, h0, r0⟩ := trodAll_cons hA
  obtain ⟨v1, vs1, d1, ds1, p1, q1, rfl, rfl, rfl, h1, r1⟩ := trodAll_cons r0
  obtain ⟨v2, vs2, d2, ds2, p2, q2, rfl, rfl, rfl, h2, r2⟩ := trodAll_cons r1
  obtain ⟨v3, vs3, d3, ds3, p3, q3, rfl, rfl, rfl, h3, r3⟩ := trodAll_cons r2
  obtain ⟨rfl, rfl, rfl⟩ := trodAll_nil r3
  obtain rfl : args = #[v0, v1, v2, v3] := by cases args; simp_all
  obtain ⟨rfl, rfl⟩ := trodVars_none hV
  obtain ⟨a0, len0, cap0, rfl⟩ := okWide_slice Tryz.underlying29 (hval 0 29 v0 rfl rfl)
  have k0 := h0
  have lt0 : ∀ x ∈ p0, x.block < W.heap.size := by obtain ⟨m, hm⟩ := k0; exact DataW.trod_lt m _ _ _ hm
  obtain ⟨z0, w0⟩ : ∃ zs, IsRow .u8 W a0 len0 cap0 zs := by
    obtain ⟨fuel, hf⟩ := h0
    exact open_row Tryz.underlying29 Tryz.underlying5 (by kernel_rfl) hf
  obtain ⟨a1, rfl, rfl, rfl, w1⟩ := open_int Tryz.underlying5 (hval 1 5 v1 rfl rfl) h1
  obtain ⟨cs2, rfl, hs2⟩ := okWide_struct Tryz.underlying43 (hval 2 43 v2 rfl rfl)
  have k2 := h2
  have lt2 : ∀ x ∈ p2, x.block < W.heap.size := by obtain ⟨m, hm⟩ := k2; exact DataW.trod_lt m _ _ _ hm
  obtain ⟨l2⟩ := cs2
  obtain ⟨c2_0, c2_1, c2_2, c2_3, c2_4, rfl⟩ := len5 (l := l2) (hs2.trans (by kernel_rfl))
  have g2 : ∃ fuel x, DataW.trod enc Tryz.prog W 0 (fun _ => true) true fuel 43 [c2_0, c2_1, c2_2, c2_3, c2_4] = some x := by obtain ⟨m, hm⟩ := k2; exact ⟨m, _, by simpa [Value.cells] using hm⟩
  have g2_0 : ∃ fuel x, DataW.trod enc Tryz.prog W 0 (fun _ => true) true fuel 40 [c2_0] = some x := open_field Tryz.underlying43 g2 0 _ rfl 0 1 rfl (by kernel_rfl)
  have g2_1 : ∃ fuel x, DataW.trod enc Tryz.prog W 0 (fun _ => true) true fuel 3 [c2_1] = some x := open_field Tryz.underlying43 g2 1 _ rfl 1 1 rfl (by kernel_rfl)
  have g2_2 : ∃ fuel x, DataW.trod enc Tryz.prog W 0 (fun _ => true) true fuel 41 [c2_2] = some x := open_field Tryz.underlying43 g2 2 _ rfl 2 1 rfl (by kernel_rfl)
  have g2_3 : ∃ fuel x, DataW.trod enc Tryz.prog W 0 (fun _ => true) true fuel 3 [c2_3] = some x := open_field Tryz.underlying43 g2 3 _ rfl 3 1 rfl (by kernel_rfl)
  have g2_4 : ∃ fuel x, DataW.trod enc Tryz.prog W 0 (fun _ => true) true fuel 3 [c2_4] = some x := open_field Tryz.underlying43 g2 4 _ rfl 4 1 rfl (by kernel_rfl)
  obtain ⟨a2_0, rfl, w2_0⟩ := leaf_int Tryz.underlying40 g2_0
  obtain ⟨a2_1, rfl, w2_1⟩ := leaf_int Tryz.underlying3 g2_1
  obtain ⟨a2_2, len2_2, cap2_2, rfl⟩ := leaf_slice Tryz.underlying41 g2_2
  obtain ⟨z2_2, w2_2⟩ : ∃ zs, IsPairs .i64 .i64 W a2_2 len2_2 cap2_2 zs := by
    obtain ⟨fuel, x, hf⟩ := g2_2
    exact open_pairs Tryz.underlying41 Tryz.underlying87 Tryz.underlying3 Tryz.underlying3 (by kernel_rfl) rfl rfl (by kernel_rfl) (by kernel_rfl) hf
  obtain ⟨a2_3, rfl, w2_3⟩ := leaf_int Tryz.underlying3 g2_3
  obtain ⟨a2_4, rfl, w2_4⟩ := leaf_int Tryz.underlying3 g2_4
  obtain ⟨cs3, rfl, hs3⟩ := okWide_struct Tryz.underlying45 (hval 3 45 v3 rfl rfl)
  have k3 := h3
  have lt3 : ∀ x ∈ p3, x.block < W.heap.size := by obtain ⟨m, hm⟩ := k3; exact DataW.trod_lt m _ _ _ hm
  obtain ⟨l3⟩ := cs3
  obtain ⟨c3_0, c3_1, c3_2, c3_3, c3_4, c3_5, c3_6, c3_7, rfl⟩ := len8 (l := l3) (hs3.trans (by kernel_rfl))
  have g3 : ∃ fuel x, DataW.trod enc Tryz.prog W 0 (fun _ => true) true fuel 45 [c3_0, c3_1, c3_2, c3_3, c3_4, c3_5, c3_6, c3_7] = some x := by obtain ⟨m, hm⟩ := k3; exact ⟨m, _, by simpa [Value.cells] using hm⟩
  have g3_0 : ∃ fuel x, DataW.trod enc Tryz.prog W 0 (fun _ => true) true fuel 43 [c3_0, c3_1, c3_2, c3_3, c3_4] = some x := open_field Tryz.underlying45 g3 0 _ rfl 0 5 rfl (by kernel_rfl)
  have g3_0_0 : ∃ fuel x, DataW.trod enc Tryz.prog W 0 (fun _ => true) true fuel 40 [c3_0] = some x := open_field Tryz.underlying43 g3_0 0 _ rfl 0 1 rfl (by kernel_rfl)
  have g3_0_1 : ∃ fuel x, DataW.trod enc Tryz.prog W 0 (fun _ => true) true fuel 3 [c3_1] = some x := open_field Tryz.underlying43 g3_0 1 _ rfl 1 1 rfl (by kernel_rfl)
  have g3_0_2 : ∃ fuel x, DataW.trod enc Tryz.prog W 0 (fun _ => true) true fuel 41 [c3_2] = some x := open_field Tryz.underlying43 g3_0 2 _ rfl 2 1 rfl (by kernel_rfl)
  have g3_0_3 : ∃ fuel x, DataW.trod enc Tryz.prog W 0 (fun _ => true) true fuel 3 [c3_3] = some x := open_field Tryz.underlying43 g3_0 3 _ rfl 3 1 rfl (by kernel_rfl)
  have g3_0_4 : ∃ fuel x, DataW.trod enc Tryz.prog W 0 (fun _ => true) true fuel 3 [c3_4] = some x := open_field Tryz.underlying43 g3_0 4 _ rfl 4 1 rfl (by kernel_rfl)
  have g3_1 : ∃ fuel x, DataW.trod enc Tryz.prog W 0 (fun _ => true) true fuel 40 [c3_5] = some x := open_field Tryz.underlying45 g3 1 _ rfl 5 1 rfl (by kernel_rfl)
  have g3_2 : ∃ fuel x, DataW.trod enc Tryz.prog W 0 (fun _ => true) true fuel 3 [c3_6] = some x := open_field Tryz.underlying45 g3 2 _ rfl 6 1 rfl (by kernel_rfl)
  have g3_3 : ∃ fuel x, DataW.trod enc Tryz.prog W 0 (fun _ => true) true fuel 5 [c3_7] = some x := open_field Tryz.underlying45 g3 3 _ rfl 7 1 rfl (by kernel_rfl)
  obtain ⟨a3_0, rfl, w3_0⟩ := leaf_int Tryz.underlying40 g3_0_0
  obtain ⟨a3_1, rfl, w3_1⟩ := leaf_int Tryz.underlying3 g3_0_1
  obtain ⟨a3_2, len3_2, cap3_2, rfl⟩ := leaf_slice Tryz.underlying41 g3_0_2
  obtain ⟨z3_2, w3_2⟩ : ∃ zs, IsPairs .i64 .i64 W a3_2 len3_2 cap3_2 zs := by
    obtain ⟨fuel, x, hf⟩ := g3_0_2
    exact open_pairs Tryz.underlying41 Tryz.underlying87 Tryz.underlying3 Tryz.underlying3 (by kernel_rfl) rfl rfl (by kernel_rfl) (by kernel_rfl) hf
  obtain ⟨a3_3, rfl, w3_3⟩ := leaf_int Tryz.underlying3 g3_0_3
  obtain ⟨a3_4, rfl, w3_4⟩ := leaf_int Tryz.underlying3 g3_0_4
  obtain ⟨a3_5, rfl, w3_5⟩ := leaf_int Tryz.underlying40 g3_1
  obtain ⟨a3_6, rfl, w3_6⟩ := leaf_int Tryz.underlying3 g3_2
  obtain ⟨a3_7, rfl, w3_7⟩ := leaf_int Tryz.underlying5 g3_3
  clear hA0 hval0
  have htab := of_laid hL
  refine (walk a0 len0 cap0 z0 a1 a2_0 a2_1 a2_2 len2_2 cap2_2 z2_2 a2_3 a2_4 a3_0 a3_1 a3_2 len3_2 cap3_2 z3_2 a3_3 a3_4 a3_5 a3_6 a3_7 W w0 w1 w2_0 w2_1 w2_2 w2_3 w2_4 w3_0 w3_1 w3_2 w3_3 w3_4 w3_5 w3_6 w3_7 htab).mono fun e W' ⟨he, bel⟩ => ?_
  subst he
  exact ⟨_, rfl, _, _, _, [], _, [], hW', trodAll_mk1 (shut_bool Tryz.underlying4 _), (trodAll_cons_mk (Below.trod laidOut (by kernel_rfl) (of_decide_eq_true (by kernel_rfl)) k0 bel lt0) (trodAll_cons_mk (shut_int Tryz.underlying5 w1) (trodAll_cons_mk (Below.trod laidOut (by kernel_rfl) (of_decide_eq_true (by kernel_rfl)) k2 bel lt2) (trodAll_cons_mk (Below.trod laidOut (by kernel_rfl) (of_decide_eq_true (by kernel_rfl)) k3 bel lt3) trodAll_mk0)))), rfl, bel.frame _, fun h => by cases h⟩

theorem over : Rows.lensEndsRow.holds Tryz.pinned (OpenSpec.ofChange Rows.lensEndsSpec) :=
  OpenClaim.holds_of_wide 6 Tryz.f6 rfl rfl rfl rfl rfl rfl rfl ⟨rfl, rfl, rfl, rfl, rfl⟩ rfl rfl rfl rfl rfl (by kernel_rfl) Tryz.func6 (by kernel_rfl)
    (of_decide_eq_true (by kernel_rfl)) (by unfold Func.isWrapper; first | (rw [if_pos (by decide +kernel)]; kernel_rfl) | (rw [if_neg (by decide +kernel)]; exact ⟨rfl, rfl⟩))
    (fun os started H enc _ => lifted os started H enc)

/-- The row's statement. -/
theorem said : Rows.LensEndsSaid := over
end Go.Proofs.YtgaofnmgdefdcaaGreatDoor.lensEnds
namespace Go.Proofs.YtgaofnmgdefdcaaGreatDoor
open Go
/-- The statement, as given: the card. -/
theorem lensEnds_holds : Rows.LensEndsCardSaid :=
  Claim7.holds_tied_plain_at .later [] [.data, .data, .data] true (true, "c509e5a3588d1c0172cb8ba5d4acbebb2c2cecae6b40abe70424d5f5d3e82fb4") false
    lensEnds.said (fun _ h => by cases h) (by kernel_rfl) (fun _ h => by cases h) lensEnds_row_tie rfl ⟨rfl, rfl⟩ (by kernel_rfl) rfl
    (fun f fn hf hfn => by
      obtain rfl : f = 6 := Option.some.inj ((show Tryz.prog.funcNamed "scriptorium/scriptoriumlaw11.LensEnds" = some 6 by kernel_rfl).symm.trans hf) |>.symm
      obtain rfl : fn = Tryz.f6 := (Option.some.inj (Tryz.func6.symm.trans hfn)).symm
      exact ⟨by kernel_rfl, fun j t ht => by
        rw [Tryz.params6] at ht
        have hm : t ∈ [29, 5, 43, 45] := by simpa using Array.mem_of_getElem? ht
        have hall : ([29, 5, 43, 45].all fun u => !Tryz.prog.wantsStandIn u) = true := by kernel_rfl
        exact (show Tryz.prog.wantsStandIn t = false by simpa using List.all_eq_true.1 hall t hm)⟩)
    (by kernel_rfl)
#print axioms lensEnds_holds
end Go.Proofs.YtgaofnmgdefdcaaGreatDoor
