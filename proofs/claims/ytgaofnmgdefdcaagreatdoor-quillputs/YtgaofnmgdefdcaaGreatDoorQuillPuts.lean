
/- The statement QuillPuts (P10.1: any numbers and bytes, in any ways, one behind the other: the row of bits, the blocks; what can't be put), as its card, holds for every input: the Go function answers true, and its arguments read as before. No conditions beyond the card's own. -/
import Derived.Test.YtgaofnmgdefdcaaGreatDoorRows
import Derived.WalkKit
import Derived.ProofKit
import Derived.OpenShut
import Derived.ShutString
import Derived.ChangeMaps5
import Derived.ChangeOld
import Derived.Below
import Derived.Test.YtgaofnmgdefdcaaGreatDoorJAnyOrdQpU
import Derived.LaidMore
import Derived.Stop.Joined
import Derived.Stop.LaidErr
import Derived.SevenTiedAt
import Derived.Lib.LaidTab
import Derived.Test.YtgaofnmgdefdcaaGreatDoorTie
import Derived.Test.YtgaofnmgdefdcaaGreatDoorCards
import Derived.Deep.Slices
import Derived.Deep.SlicePairs
namespace Go.Proofs.YtgaofnmgdefdcaaGreatDoor.quillPuts
open Go.ChangeShapes Go.WideShapes Go.ChangeAt Go.RowKit Go.Deep
open Go.ChangeMaps (open_string shut_string)
open Go.Proofs.YtgaofnmgdefdcaaGreatDoor.Gen Go.Proofs.YtgaofnmgdefdcaaGreatDoor.Hr Go.Proofs.YtgaofnmgdefdcaaGreatDoor.Hn Go.Proofs.YtgaofnmgdefdcaaGreatDoor.Ds Go.Proofs.YtgaofnmgdefdcaaGreatDoor.Ky Go.Proofs.YtgaofnmgdefdcaaGreatDoor.Qc Go.Proofs.YtgaofnmgdefdcaaGreatDoor.Qu Go.Proofs.YtgaofnmgdefdcaaGreatDoor.Qn Go.Proofs.YtgaofnmgdefdcaaGreatDoor.Qm
set_option linter.unusedVariables false

theorem own : ownKnob Tryz.prog.godebug = none := by kernel_rfl
theorem laidOut : laidOutB Tryz.prog = true := by kernel_rfl

/-- What the walk is told of a slice of integers that came in: it is nil, or a row of cells that hold zs, each of which fits. -/
def IsRow (k : IntKind) (w : World) (a : Option Addr) (len cap : Nat) (zs : List Int) : Prop :=
  (a = none ∧ len = 0 ∧ cap = 0 ∧ zs = []) ∨
  ∃ x, a = some x ∧ len ≤ cap ∧ cap ≤ maxLen ∧ zs.length = cap ∧ (∀ i, i < zs.length → w.cell? (x.add i) = some (.int k (zs.getD i 0))) ∧ ∀ n ∈ zs, (Lit.int k n).wf = true
/-- And of a slice of such slices: it is nil, or each of its cells holds one. -/
def IsRows (k : IntKind) (w : World) (a : Option Addr) (len cap : Nat) : Prop :=
  (a = none ∧ len = 0 ∧ cap = 0) ∨
  ∃ x, a = some x ∧ len ≤ cap ∧ cap ≤ maxLen ∧ ∀ i, i < len → ∃ b n c zs, w.cell? (x.add i) = some (.slice b n c) ∧ IsRow k w b n c zs
/-- And of a slice of structs of two integers. -/
def IsPairs (k0 k1 : IntKind) (w : World) (a : Option Addr) (len cap : Nat) (zs : List (Int × Int)) : Prop :=
  (a = none ∧ len = 0 ∧ cap = 0 ∧ zs = []) ∨
  ∃ x, a = some x ∧ len ≤ cap ∧ cap ≤ maxLen ∧ zs.length = cap ∧ ∀ i, i < zs.length → w.cell? (x.add (i * 2)) = some (.int k0 (zs.getD i (0, 0)).1) ∧ w.cell? (x.add (i * 2 + 1)) = some (.int k1 (zs.getD i (0, 0)).2) ∧ (Lit.int k0 (zs.getD i (0, 0)).1).wf = true ∧ (Lit.int k1 (zs.getD i (0, 0)).2).wf = true
section
variable {H : Type} {enc : TypeId × Value → H} {W : World}
theorem open_pairs {t e : TypeId} {k0 k1 : IntKind} {f0 f1 : Field} {fuel : Nat} {a : Option Addr} {len cap : Nat} {x : DataW H × List MemPlace} (ht : Tryz.prog.underlying t = some (.slice e)) (he : Tryz.prog.underlying e = some (.struct #[f0, f1])) (h0 : Tryz.prog.underlying f0.type = some (.int k0)) (h1 : Tryz.prog.underlying f1.type = some (.int k1))
    (ce : Tryz.prog.cellsOf e = 2) (o0 : f0.offset = 0) (o1 : f1.offset = 1) (c0 : Tryz.prog.cellsOf f0.type = 1) (c1 : Tryz.prog.cellsOf f1.type = 1)
    (hf : DataW.trod enc Tryz.prog W 0 (fun _ => true) true fuel t (Value.slice a len cap).cells.toList = some x) : ∃ zs, IsPairs k0 k1 W a len cap zs := by
  rcases open_slice_pairs ht he ce o0 o1 c0 c1 hf with ⟨hcs, _⟩ | ⟨y, l, c, m, n, V0, V1, D0, D1, P0, P1, hcs, _, hl, hm, hmm, _, hi⟩
  · simp [Value.cells] at hcs
    obtain ⟨rfl, rfl, rfl⟩ := hcs
    exact ⟨[], .inl ⟨rfl, rfl, rfl, rfl⟩⟩
  · simp [Value.cells] at hcs
    obtain ⟨rfl, rfl, rfl⟩ := hcs
    simp only [if_true] at hmm
    refine ⟨(List.range cap).map fun i => (intOf (V0 i), intOf (V1 i)), .inr ⟨y, rfl, hl, hm, by simp, fun i hil => ?_⟩⟩
    have hic : i < cap := by simpa using hil
    obtain ⟨g0, g1, g2, g3⟩ := hi i (by omega)
    obtain ⟨n0, e0, _, w0⟩ := DataW.trod_int h0 g2
    obtain ⟨n1, e1, _, w1⟩ := DataW.trod_int h1 g3
    injection e0 with e0
    injection e1 with e1
    rw [e0] at g0
    rw [e1] at g1
    have hz : ((List.range cap).map fun i => (intOf (V0 i), intOf (V1 i))).getD i (0, 0) = (n0, n1) := by
      simp [List.getD_eq_getElem?_getD, hic, e0, e1, intOf]
    rw [hz]
    exact ⟨g0, g1, w0, w1⟩
theorem open_row {t e : TypeId} {k : IntKind} {fuel : Nat} {a : Option Addr} {len cap : Nat} {x : DataW H × List MemPlace} (ht : Tryz.prog.underlying t = some (.slice e)) (he : Tryz.prog.underlying e = some (.int k)) (h1 : Tryz.prog.cellsOf e = 1)
    (hf : DataW.trod enc Tryz.prog W 0 (fun _ => true) true fuel t (Value.slice a len cap).cells.toList = some x) : ∃ zs, IsRow k W a len cap zs := by
  rcases open_ints ht he h1 hf with ⟨hcs, _⟩ | ⟨x, l, c, zs, hcs, _, hl, hm, hz, _, hcell, hwz⟩
  · simp [Value.cells] at hcs
    obtain ⟨rfl, rfl, rfl⟩ := hcs
    exact ⟨[], .inl ⟨rfl, rfl, rfl, rfl⟩⟩
  · simp [Value.cells] at hcs
    obtain ⟨rfl, rfl, rfl⟩ := hcs
    exact ⟨zs, .inr ⟨_, rfl, hl, hm, by simpa using hz, hcell, hwz⟩⟩
theorem open_rows {t e g : TypeId} {k : IntKind} {fuel : Nat} {a : Option Addr} {len cap : Nat} {x : DataW H × List MemPlace} (ht : Tryz.prog.underlying t = some (.slice e)) (he : Tryz.prog.underlying e = some (.slice g)) (hg : Tryz.prog.underlying g = some (.int k)) (h1 : Tryz.prog.cellsOf e = 1) (h2 : Tryz.prog.cellsOf g = 1)
    (hf : DataW.trod enc Tryz.prog W 0 (fun _ => true) true fuel t (Value.slice a len cap).cells.toList = some x) : IsRows k W a len cap := by
  rcases open_slice ht hf with ⟨hcs, _⟩ | ⟨x, l, c, m, n, D, Pl, hcs, _, hl, hm, hmm, _, hi⟩
  · simp [Value.cells] at hcs
    obtain ⟨rfl, rfl, rfl⟩ := hcs
    exact .inl ⟨rfl, rfl, rfl⟩
  · simp [Value.cells] at hcs
    obtain ⟨rfl, rfl, rfl⟩ := hcs
    refine .inr ⟨x, rfl, hl, hm, fun i hil => ?_⟩
    simp only [if_true] at hmm
    obtain ⟨cs, hc, htr⟩ := hi i (by omega)
    rw [h1, Nat.mul_one] at hc
    obtain ⟨_, hlen, hat⟩ := World.cells?_some hc
    have h0 := hat 0 (by omega)
    have ha0 : (x.add i).add 0 = x.add i := by rw [Go.Deep.add_add]; rfl
    rw [ha0] at h0
    rcases open_ints he hg h2 htr with ⟨hcs, _⟩ | ⟨y, l', c', zs, hcs, _, hl', hm', hz, _, hcell, hwz⟩
    · subst hcs
      exact ⟨none, 0, 0, [], by simpa using h0, .inl ⟨rfl, rfl, rfl, rfl⟩⟩
    · subst hcs
      exact ⟨some y, l', c', zs, by simpa using h0, .inr ⟨y, rfl, hl', hm', by simpa using hz, hcell, hwz⟩⟩
end
theorem len5 {l : List Value} (h : l.length = 5) : ∃ c0 c1 c2 c3 c4, l = [c0, c1, c2, c3, c4] := by
  match l, h with
  | [c0, c1, c2, c3, c4], _ => exact ⟨_, _, _, _, _, rfl⟩
theorem len7 {l : List Value} (h : l.length = 7) : ∃ c0 c1 c2 c3 c4 c5 c6, l = [c0, c1, c2, c3, c4, c5, c6] := by
  match l, h with
  | [c0, c1, c2, c3, c4, c5, c6], _ => exact ⟨_, _, _, _, _, _, _, rfl⟩
section
variable {H : Type} {enc : TypeId × Value → H} {W : World}
/-- What is told of a field's cells. -/
theorem open_field {t : TypeId} {fs : Array Field} {cs : List Value} (ht : Tryz.prog.underlying t = some (.struct fs)) (h : ∃ fuel x, DataW.trod enc Tryz.prog W 0 (fun _ => true) true fuel t cs = some x) (j : Nat) (f : Field) (hj : fs[j]? = some f) (k m : Nat) (ho : f.offset = k) (hc : Tryz.prog.cellsOf f.type = m) :
    ∃ fuel x, DataW.trod enc Tryz.prog W 0 (fun _ => true) true fuel f.type ((cs.drop k).take m) = some x := by
  obtain ⟨fuel, x, h⟩ := h
  obtain ⟨xs, n, _, _, _, hl, hg⟩ := DataW.trod_struct ht h
  have h1 := hg j f hj
  rw [ho, hc] at h1
  have hjl : j < xs.length := by rw [hl]; exact (Array.getElem?_eq_some_iff.1 hj).1
  rw [List.getElem?_eq_getElem hjl] at h1
  exact ⟨n, _, h1⟩
/-- What is told of an array's cells. -/
theorem open_elem {t e : TypeId} {n : Nat} {cs : List Value} (ht : Tryz.prog.underlying t = some (.array n e)) (ce : Tryz.prog.cellsOf e = 1) (h : ∃ fuel x, DataW.trod enc Tryz.prog W 0 (fun _ => true) true fuel t cs = some x) (j : Nat) (hj : j < n) :
    ∃ fuel x, DataW.trod enc Tryz.prog W 0 (fun _ => true) true fuel e ((cs.drop j).take 1) = some x := by
  obtain ⟨fuel, x, hf⟩ := h
  obtain ⟨xs, m, _, _, _, hx, hi⟩ := DataW.trod_array ht hf
  have h1 := hi j hj
  rw [List.getElem?_eq_getElem (by omega), ce, Nat.mul_one] at h1
  exact ⟨m, _, h1⟩
theorem leaf_int {t : TypeId} {k : IntKind} {v : Value} (ht : Tryz.prog.underlying t = some (.int k)) (h : ∃ fuel x, DataW.trod enc Tryz.prog W 0 (fun _ => true) true fuel t [v] = some x) : ∃ z, v = .int k z ∧ (Lit.int k z).wf = true := by
  obtain ⟨fuel, x, h⟩ := h
  obtain ⟨z, e1, _, wz⟩ := DataW.trod_int ht h
  exact ⟨z, by injection e1, wz⟩
theorem leaf_bool {t : TypeId} {v : Value} (ht : Tryz.prog.underlying t = some .bool) (h : ∃ fuel x, DataW.trod enc Tryz.prog W 0 (fun _ => true) true fuel t [v] = some x) : ∃ z, v = .bool z := by
  obtain ⟨fuel, x, h⟩ := h
  obtain ⟨z, e1, _⟩ := DataW.trod_bool ht h
  exact ⟨z, by injection e1⟩
theorem leaf_slice {t e : TypeId} {v : Value} (ht : Tryz.prog.underlying t = some (.slice e)) (h : ∃ fuel x, DataW.trod enc Tryz.prog W 0 (fun _ => true) true fuel t [v] = some x) : ∃ a n c, v = .slice a n c := by
  obtain ⟨fuel, x, h⟩ := h
  rcases DataW.trod_slice ht h with ⟨e1, _⟩ | ⟨a, l, c, _, _, _, _, e1, _⟩
  · exact ⟨none, 0, 0, by injection e1⟩
  · exact ⟨some a, l, c, by injection e1⟩
end
/-- And of a slice of these structs: it is nil, or its cells hold their fields. -/
def IsSt0 (w : World) (a : Option Addr) (len cap : Nat) : Prop :=
  (a = none ∧ len = 0 ∧ cap = 0) ∨
  ∃ x, a = some x ∧ len ≤ cap ∧ cap ≤ maxLen ∧ ∀ i, i < len → ∃ (a0 : Int) (a1 : Int) (a2 : Int) (a3 : Int) (a4 : Option Addr) (n4 k4 : Nat) (z4 : List Int) (a5 : Int) (a6 : Bool), w.cell? (x.add (i * 7 + 0)) = some (.int .u8 a0) ∧ w.cell? (x.add (i * 7 + 1)) = some (.int .u8 a1) ∧ w.cell? (x.add (i * 7 + 2)) = some (.int .u16 a2) ∧ w.cell? (x.add (i * 7 + 3)) = some (.int .i16 a3) ∧ w.cell? (x.add (i * 7 + 4)) = some (.slice a4 n4 k4) ∧ w.cell? (x.add (i * 7 + 5)) = some (.int .u8 a5) ∧ w.cell? (x.add (i * 7 + 6)) = some (.bool a6) ∧ (Lit.int .u8 a0).wf = true ∧ (Lit.int .u8 a1).wf = true ∧ (Lit.int .u16 a2).wf = true ∧ (Lit.int .i16 a3).wf = true ∧ IsRow .u8 w a4 n4 k4 z4 ∧ (Lit.int .u8 a5).wf = true
theorem open_st0 {H : Type} {enc : TypeId × Value → H} {W : World} {fuel : Nat} {a : Option Addr} {len cap : Nat} {x : DataW H × List MemPlace}
    (hf : DataW.trod enc Tryz.prog W 0 (fun _ => true) true fuel 22 (Value.slice a len cap).cells.toList = some x) : IsSt0 W a len cap := by
  rcases open_slice Tryz.underlying22 hf with ⟨hcs, _⟩ | ⟨x, l, c, m, n, D, Pl, hcs, _, hl, hm, hmm, _, hi⟩
  · simp [Value.cells] at hcs
    obtain ⟨rfl, rfl, rfl⟩ := hcs
    exact .inl ⟨rfl, rfl, rfl⟩
  · simp [Value.cells] at hcs
    obtain ⟨rfl, rfl, rfl⟩ := hcs
    refine .inr ⟨x, rfl, hl, hm, fun i hil => ?_⟩
    simp only [if_true] at hmm
    obtain ⟨cs, hc, htr⟩ := hi i (by omega)
    rw [show Tryz.prog.cellsOf 37 = 7 from by kernel_rfl] at hc
    obtain ⟨_, hlen, hat⟩ := World.cells?_some hc
    obtain ⟨c0, c1, c2, c3, c4, c5, c6, rfl⟩ := len7 (l := cs) (by simpa using hlen)
    have g : ∃ fuel x, DataW.trod enc Tryz.prog W 0 (fun _ => true) true fuel 37 [c0, c1, c2, c3, c4, c5, c6] = some x := ⟨_, _, htr⟩
    have g_0 : ∃ fuel x, DataW.trod enc Tryz.prog W 0 (fun _ => true) true fuel 5 [c0] = some x := open_field Tryz.underlying37 g 0 _ rfl 0 1 rfl (by kernel_rfl)
    have g_1 : ∃ fuel x, DataW.trod enc Tryz.prog W 0 (fun _ => true) true fuel 5 [c1] = some x := open_field Tryz.underlying37 g 1 _ rfl 1 1 rfl (by kernel_rfl)
    have g_2 : ∃ fuel x, DataW.trod enc Tryz.prog W 0 (fun _ => true) true fuel 34 [c2] = some x := open_field Tryz.underlying37 g 2 _ rfl 2 1 rfl (by kernel_rfl)
    have g_3 : ∃ fuel x, DataW.trod enc Tryz.prog W 0 (fun _ => true) true fuel 35 [c3] = some x := open_field Tryz.underlying37 g 3 _ rfl 3 1 rfl (by kernel_rfl)
    have g_4 : ∃ fuel x, DataW.trod enc Tryz.prog W 0 (fun _ => true) true fuel 29 [c4] = some x := open_field Tryz.underlying37 g 4 _ rfl 4 1 rfl (by kernel_rfl)
    have g_5 : ∃ fuel x, DataW.trod enc Tryz.prog W 0 (fun _ => true) true fuel 5 [c5] = some x := open_field Tryz.underlying37 g 5 _ rfl 5 1 rfl (by kernel_rfl)
    have g_6 : ∃ fuel x, DataW.trod enc Tryz.prog W 0 (fun _ => true) true fuel 4 [c6] = some x := open_field Tryz.underlying37 g 6 _ rfl 6 1 rfl (by kernel_rfl)
    obtain ⟨a0, rfl, w0⟩ := leaf_int Tryz.underlying5 g_0
    obtain ⟨a1, rfl, w1⟩ := leaf_int Tryz.underlying5 g_1
    obtain ⟨a2, rfl, w2⟩ := leaf_int Tryz.underlying34 g_2
    obtain ⟨a3, rfl, w3⟩ := leaf_int Tryz.underlying35 g_3
    obtain ⟨a4, n4, k4, rfl⟩ := leaf_slice Tryz.underlying29 g_4
    obtain ⟨z4, w4⟩ : ∃ zs, IsRow .u8 W a4 n4 k4 zs := by
      obtain ⟨fuel, x, hf⟩ := g_4
      exact open_row Tryz.underlying29 Tryz.underlying5 (by kernel_rfl) hf
    obtain ⟨a5, rfl, w5⟩ := leaf_int Tryz.underlying5 g_5
    obtain ⟨a6, rfl⟩ := leaf_bool Tryz.underlying4 g_6
    refine ⟨a0, a1, a2, a3, a4, n4, k4, z4, a5, a6, ?_, ?_, ?_, ?_, ?_, ?_, ?_, w0, w1, w2, w3, w4, w5⟩
    · have h := hat 0 (by omega)
      rw [Go.Deep.add_add] at h
      simpa using h
    · have h := hat 1 (by omega)
      rw [Go.Deep.add_add] at h
      simpa using h
    · have h := hat 2 (by omega)
      rw [Go.Deep.add_add] at h
      simpa using h
    · have h := hat 3 (by omega)
      rw [Go.Deep.add_add] at h
      simpa using h
    · have h := hat 4 (by omega)
      rw [Go.Deep.add_add] at h
      simpa using h
    · have h := hat 5 (by omega)
      rw [Go.Deep.add_add] at h
      simpa using h
    · have h := hat 6 (by omega)
      rw [Go.Deep.add_add] at h
      simpa using h
/-- And of a slice of these structs: it is nil, or its cells hold their fields. -/
def IsSt1 (w : World) (a : Option Addr) (len cap : Nat) : Prop :=
  (a = none ∧ len = 0 ∧ cap = 0) ∨
  ∃ x, a = some x ∧ len ≤ cap ∧ cap ≤ maxLen ∧ ∀ i, i < len → ∃ (a0 : Int) (a1 : Int) (a2 : Int) (a3 : Option Addr) (n3 k3 : Nat) (z3 : List Int) (a4 : Bool), w.cell? (x.add (i * 5 + 0)) = some (.int .u8 a0) ∧ w.cell? (x.add (i * 5 + 1)) = some (.int .i64 a1) ∧ w.cell? (x.add (i * 5 + 2)) = some (.int .u8 a2) ∧ w.cell? (x.add (i * 5 + 3)) = some (.slice a3 n3 k3) ∧ w.cell? (x.add (i * 5 + 4)) = some (.bool a4) ∧ (Lit.int .u8 a0).wf = true ∧ (Lit.int .i64 a1).wf = true ∧ (Lit.int .u8 a2).wf = true ∧ IsRow .u8 w a3 n3 k3 z3
theorem open_st1 {H : Type} {enc : TypeId × Value → H} {W : World} {fuel : Nat} {a : Option Addr} {len cap : Nat} {x : DataW H × List MemPlace}
    (hf : DataW.trod enc Tryz.prog W 0 (fun _ => true) true fuel 23 (Value.slice a len cap).cells.toList = some x) : IsSt1 W a len cap := by
  rcases open_slice Tryz.underlying23 hf with ⟨hcs, _⟩ | ⟨x, l, c, m, n, D, Pl, hcs, _, hl, hm, hmm, _, hi⟩
  · simp [Value.cells] at hcs
    obtain ⟨rfl, rfl, rfl⟩ := hcs
    exact .inl ⟨rfl, rfl, rfl⟩
  · simp [Value.cells] at hcs
    obtain ⟨rfl, rfl, rfl⟩ := hcs
    refine .inr ⟨x, rfl, hl, hm, fun i hil => ?_⟩
    simp only [if_true] at hmm
    obtain ⟨cs, hc, htr⟩ := hi i (by omega)
    rw [show Tryz.prog.cellsOf 33 = 5 from by kernel_rfl] at hc
    obtain ⟨_, hlen, hat⟩ := World.cells?_some hc
    obtain ⟨c0, c1, c2, c3, c4, rfl⟩ := len5 (l := cs) (by simpa using hlen)
    have g : ∃ fuel x, DataW.trod enc Tryz.prog W 0 (fun _ => true) true fuel 33 [c0, c1, c2, c3, c4] = some x := ⟨_, _, htr⟩
    have g_0 : ∃ fuel x, DataW.trod enc Tryz.prog W 0 (fun _ => true) true fuel 5 [c0] = some x := open_field Tryz.underlying33 g 0 _ rfl 0 1 rfl (by kernel_rfl)
    have g_1 : ∃ fuel x, DataW.trod enc Tryz.prog W 0 (fun _ => true) true fuel 3 [c1] = some x := open_field Tryz.underlying33 g 1 _ rfl 1 1 rfl (by kernel_rfl)
    have g_2 : ∃ fuel x, DataW.trod enc Tryz.prog W 0 (fun _ => true) true fuel 5 [c2] = some x := open_field Tryz.underlying33 g 2 _ rfl 2 1 rfl (by kernel_rfl)
    have g_3 : ∃ fuel x, DataW.trod enc Tryz.prog W 0 (fun _ => true) true fuel 29 [c3] = some x := open_field Tryz.underlying33 g 3 _ rfl 3 1 rfl (by kernel_rfl)
    have g_4 : ∃ fuel x, DataW.trod enc Tryz.prog W 0 (fun _ => true) true fuel 4 [c4] = some x := open_field Tryz.underlying33 g 4 _ rfl 4 1 rfl (by kernel_rfl)
    obtain ⟨a0, rfl, w0⟩ := leaf_int Tryz.underlying5 g_0
    obtain ⟨a1, rfl, w1⟩ := leaf_int Tryz.underlying3 g_1
    obtain ⟨a2, rfl, w2⟩ := leaf_int Tryz.underlying5 g_2
    obtain ⟨a3, n3, k3, rfl⟩ := leaf_slice Tryz.underlying29 g_3
    obtain ⟨z3, w3⟩ : ∃ zs, IsRow .u8 W a3 n3 k3 zs := by
      obtain ⟨fuel, x, hf⟩ := g_3
      exact open_row Tryz.underlying29 Tryz.underlying5 (by kernel_rfl) hf
    obtain ⟨a4, rfl⟩ := leaf_bool Tryz.underlying4 g_4
    refine ⟨a0, a1, a2, a3, n3, k3, z3, a4, ?_, ?_, ?_, ?_, ?_, w0, w1, w2, w3⟩
    · have h := hat 0 (by omega)
      rw [Go.Deep.add_add] at h
      simpa using h
    · have h := hat 1 (by omega)
      rw [Go.Deep.add_add] at h
      simpa using h
    · have h := hat 2 (by omega)
      rw [Go.Deep.add_add] at h
      simpa using h
    · have h := hat 3 (by omega)
      rw [Go.Deep.add_add] at h
      simpa using h
    · have h := hat 4 (by omega)
      rw [Go.Deep.add_add] at h
      simpa using h
theorem gT : Tryz.prog.globalNamed "internal/strconv.uint64pow10" = some 1 := by kernel_rfl
theorem gTT : (Tryz.prog.globals[1]?).map (·.type) = some 205 := by kernel_rfl
theorem door_met (os : Os) (args : Array Value) : laidMetH Tryz.prog Rows.quillPutsRow.laid ((World.doorLaid Tryz.prog 400 os).forCall (fun _ _ => 0) ⟨#[], args, []⟩).memory :=
  laidMetH_of_parts3 (fuel := 8) (laidMet_of_run' 8 (by kernel_rfl) (by kernel_rfl)) (by kernel_rfl) (by kernel_rfl)
theorem of_laid {W : World} (h : laidMetH Tryz.prog Rows.quillPutsRow.laid W) : Lib.TabIs Tryz.prog W "internal/strconv.uint64pow10" .u64 Lib.pow10Tab := by
  rw [MakeChecks.laidMetH_plain _ _ _ (by kernel_rfl)] at h
  exact Lib.tabIs_of_head gT gTT Tryz.underlying205 Tryz.underlying69 (by kernel_rfl) (by kernel_rfl) (h.tail.tail : laidMet Tryz.prog (("internal/strconv.uint64pow10", Lib.tabData .u64 Lib.pow10Tab) :: []) W)
theorem wf_i64 {x : Int} (h : (Lit.int .i64 x).wf = true) : -9223372036854775808 ≤ x ∧ x ≤ 9223372036854775807 := by
  have hm : IntKind.i64.min = -9223372036854775808 ∧ IntKind.i64.max = 9223372036854775807 := by decide
  simp [Lit.wf, hm.1, hm.2] at h
  omega
theorem wf_u8 {x : Int} (h : (Lit.int .u8 x).wf = true) : 0 ≤ x ∧ x < 256 := by
  have hm : IntKind.u8.min = 0 ∧ IntKind.u8.max = 255 := by decide
  simp [Lit.wf, hm.1, hm.2] at h
  omega
theorem wf_u16 {x : Int} (h : (Lit.int .u16 x).wf = true) : 0 ≤ x ∧ x < 65536 := by
  have hm : IntKind.u16.min = 0 ∧ IntKind.u16.max = 65535 := by decide
  simp [Lit.wf, hm.1, hm.2] at h
  omega
theorem wf_i16 {x : Int} (h : (Lit.int .i16 x).wf = true) : -32768 ≤ x ∧ x ≤ 32767 := by
  have hm : IntKind.i16.min = -32768 ∧ IntKind.i16.max = 32767 := by decide
  simp [Lit.wf, hm.1, hm.2] at h
  omega
theorem pick {α : Type} (v : α) {n : Nat} {P : Nat → α → Prop} (h : ∀ i, i < n → ∃ a, P i a) : ∃ f : Nat → α, ∀ i, i < n → P i (f i) :=
  ⟨fun i => if hi : i < n then Classical.choose (h i hi) else v, fun i hi => by simp only [dif_pos hi]; exact Classical.choose_spec (h i hi)⟩
/-- An address with a cell has no spot, and lies below. -/
theorem at_cell {w : World} {b o : Nat} {sp : Option Nat} {v : Value} (h : w.cell? ((⟨b, o, sp⟩ : Addr).add 0) = some v) : sp = none ∧ b < w.heap.size := by
  have hsp : sp = none := by simpa [Addr.add] using World.cell?_spot h
  subst hsp
  refine ⟨rfl, ?_⟩
  rw [add_none] at h
  rcases Nat.lt_or_ge b w.heap.size with hlt | hge
  · exact hlt
  · simp [World.cell?, Array.getElem?_eq_none hge] at h
theorem acts_in {w : World} {A : Option Addr} {n c : Nat} (h : IsSt1 w A n c) : ∃ fs b o, Acts w A n fs b o := by
  rcases h with ⟨rfl, rfl, rfl⟩ | ⟨⟨b, o, sp⟩, rfl, _, _, hi⟩
  · exact ⟨fun _ => ⟨0, 0, 0, none, 0, 0, false, []⟩, 0, 0, ⟨fun i h => by omega, fun h => by omega, fun i h => by omega⟩⟩
  · have hx : 0 < n → sp = none ∧ b < w.heap.size := fun h => by
      obtain ⟨_, _, _, _, _, _, _, _, g0, _⟩ := hi 0 h
      exact at_cell g0
    obtain ⟨fs, hfs⟩ := pick (⟨0, 0, 0, none, 0, 0, false, []⟩ : Ac) (n := n) (P := fun i a => Ac.ok a w ∧ ∀ j, j < 5 → w.cell? ((⟨b, o, sp⟩ : Addr).add (i * 5 + j)) = a.v[j]?) (fun i h => by
      obtain ⟨a0, a1, a2, a3, n3, k3, z3, a4, g0, g1, g2, g3, g4, h0, h1, h2, h3⟩ := hi i h
      obtain ⟨hlen, _, hl, hby⟩ := row_lies h3
      refine ⟨⟨a0, a1, a2, a3, n3, k3, a4, z3.take n3⟩, ⟨wf_u8 h0, wf_i64 h1, wf_u8 h2, hlen, fun e => ?_, hl, hby⟩, fun j hj => ?_⟩
      · rcases h3 with ⟨_, _, h, _⟩ | ⟨x, h, _⟩
        · exact h
        · simp only at e
          rw [h] at e
          cases e
      · have hjj : j = 0 ∨ j = 1 ∨ j = 2 ∨ j = 3 ∨ j = 4 := by omega
        rcases hjj with rfl | rfl | rfl | rfl | rfl
        · rw [g0]; rfl
        · rw [g1]; rfl
        · rw [g2]; rfl
        · rw [g3]; rfl
        · rw [g4]; rfl)
    refine ⟨fs, b, o, fun i h => (hfs i h).1, fun h => ?_, fun i h j hj => ?_⟩
    · obtain ⟨rfl, h2⟩ := hx h
      exact ⟨rfl, h2⟩
    · obtain ⟨rfl, h2⟩ := hx (by omega)
      have := (hfs i h).2 j hj
      rw [add_none] at this
      rw [Nat.add_assoc]
      exact this
theorem ways_in {w : World} {A : Option Addr} {n c : Nat} (h : IsSt0 w A n c) : ∃ fs fa fc b o, Ways w A n fs fa fc b o := by
  rcases h with ⟨rfl, rfl, rfl⟩ | ⟨⟨b, o, sp⟩, rfl, _, _, hi⟩
  · exact ⟨fun _ => ⟨0, 0, 0, 0, 0, 0, false⟩, fun _ => none, fun _ => 0, 0, 0, ⟨fun i h => by omega, fun h => by omega, fun i h => by omega⟩⟩
  · have hx : 0 < n → sp = none ∧ b < w.heap.size := fun h => by
      obtain ⟨_, _, _, _, _, _, _, _, _, _, g0, _⟩ := hi 0 h
      exact at_cell g0
    obtain ⟨fs, hfs⟩ := pick ((⟨0, 0, 0, 0, 0, 0, false⟩, none, 0) : Sm × Option Addr × Nat) (n := n) (P := fun i a => a.1.ok ∧ ∀ j, j < 7 → w.cell? ((⟨b, o, sp⟩ : Addr).add (i * 7 + j)) = (a.1.v a.2.1 a.2.2)[j]?) (fun i h => by
      obtain ⟨a0, a1, a2, a3, a4, n4, k4, z4, a5, a6, g0, g1, g2, g3, g4, g5, g6, h0, h1, h2, h3, h4, h5⟩ := hi i h
      refine ⟨(⟨a0, a1, a2, a3, n4, a5, a6⟩, a4, k4), ⟨wf_u8 h0, wf_u8 h1, wf_u16 h2, wf_i16 h3, wf_u8 h5⟩, fun j hj => ?_⟩
      have hjj : j = 0 ∨ j = 1 ∨ j = 2 ∨ j = 3 ∨ j = 4 ∨ j = 5 ∨ j = 6 := by omega
      rcases hjj with rfl | rfl | rfl | rfl | rfl | rfl | rfl
      · rw [g0]; rfl
      · rw [g1]; rfl
      · rw [g2]; rfl
      · rw [g3]; rfl
      · rw [g4]; rfl
      · rw [g5]; rfl
      · rw [g6]; rfl)
    refine ⟨fun i => (fs i).1, fun i => (fs i).2.1, fun i => (fs i).2.2, b, o, fun i h => (hfs i h).1, fun h => ?_, fun i h j hj => ?_⟩
    · obtain ⟨rfl, h2⟩ := hx h
      exact ⟨rfl, h2⟩
    · obtain ⟨rfl, h2⟩ := hx (by omega)
      have := (hfs i h).2 j hj
      rw [add_none] at this
      rw [Nat.add_assoc]
      exact this
theorem walk (a0 : Option Addr) (len0 cap0 : Nat) (a1 : Option Addr) (len1 cap1 : Nat) (w : World) (w0 : IsSt0 w a0 len0 cap0) (w1 : IsSt1 w a1 len1 cap1)
    (htab : Lib.TabIs Tryz.prog w "internal/strconv.uint64pow10" .u64 Lib.pow10Tab) :
    Calls Tryz.prog 3 #[.slice a0 len0 cap0, .slice a1 len1 cap1] w fun e w' => e = .returned (.bool true) ∧ Below w.heap.size w w' := by
  have ht : Tab w.heap.size w := Lib.tabBelow_of_tabIs htab
  obtain ⟨fw, fa, fc, b2, o2, h2⟩ := ways_in w0
  obtain ⟨fs, b1, o1, h1⟩ := acts_in w1
  exact (puts_ fs fw fa fc a1 a0 len1 len0 cap1 cap0 b1 b2 o1 o2 w ht h1 h2).mono fun e w' ⟨h1, h2⟩ => ⟨h1, h2.below (Nat.le_refl _) fun _ hf => hf.elim⟩

set_option maxRecDepth 100000 in
theorem lifted (os : Os) (started : os.Started) (H : Type) (enc : TypeId × Value → H) :
    ReturnsInHanded {} Tryz.checked os 3 .any (fun w args => (Rows.quillPutsSpec.pre enc Tryz.prog Tryz.f3 [] false w args ∧ laidMetH Tryz.prog Rows.quillPutsRow.laid w) ∧ sizedMet enc Tryz.prog Tryz.f3 (OpenSpec.ofChange Rows.quillPutsSpec) false w args) (Rows.quillPutsSpec.post enc Tryz.prog Tryz.f3 false true false false) := by
  refine returnsInHanded_of_change_and (C := Tryz.checked) (X := fun w _ => laidMetH Tryz.prog Rows.quillPutsRow.laid w) (fun _ _ _ hh h => h.of_heap hh) own started (by kernel_rfl) Tryz.func3
    (ChangeSpec.witness_shaped (enc := enc) (C := Tryz.checked) (os := os) (X := fun w _ => laidMetH Tryz.prog Rows.quillPutsRow.laid w) false (World.doorLaid Tryz.prog 400 os) #[.slice none 0 0, .slice none 0 0] 8 rfl (World.shaped_of_RefB (by kernel_rfl) (by kernel_rfl)) (by kernel_rfl) (by kernel_rfl) (by kernel_rfl) (door_met os _)) ?_
  intro W base args ds gs before hval0 hW _ _ hL _
  have hval : ∀ (j : Nat) t v, Tryz.f3.params[j]? = some t → args[j]? = some v → Value.okWide Tryz.prog W .any base t v := hval0
  have hW' := hW
  obtain ⟨p, q, hA0, hV, rfl, hfz, hnd⟩ := hW
  have hA : DataW.TrodAll enc Tryz.prog W 0 (fun _ => true) true Tryz.f3.params.toList args.toList ds p := hA0
  rw [Tryz.params3] at hA hval
  obtain ⟨v0, vs0, d0, ds0, p0, q0, hargs, rfl, rfl, h0, r0⟩ := trodAll_cons hA
  obtain ⟨v1, vs1, d1, ds1, p1, q1, rfl, rfl, rfl, h1, r1⟩ := trodAll_cons r0
  obtain ⟨rfl, rfl, rfl⟩ := trodAll_nil r1
  obtain rfl : args = #[v0, v1] := by cases args; simp_all
  obtain ⟨rfl, rfl⟩ := trodVars_none hV
  obtain ⟨a0, len0, cap0, rfl⟩ := okWide_slice Tryz.underlying22 (hval 0 22 v0 rfl rfl)
  have k0 := h0
  have lt0 : ∀ x ∈ p0, x.block < W.heap.size := by obtain ⟨m, hm⟩ := k0; exact DataW.trod_lt m _ _ _ hm
  have w0 : IsSt0 W a0 len0 cap0 := by
    obtain ⟨fuel, hf⟩ := h0
    exact open_st0 hf
  obtain ⟨a1, len1, cap1, rfl⟩ := okWide_slice Tryz.underlying23 (hval 1 23 v1 rfl rfl)
  have k1 := h1
  have lt1 : ∀ x ∈ p1, x.block < W.heap.size := by obtain ⟨m, hm⟩ := k1; exact DataW.trod_lt m _ _ _ hm
  have w1 : IsSt1 W a1 len1 cap1 := by
    obtain ⟨fuel, hf⟩ := h1
    exact open_st1 hf
  clear hA0 hval0
  have htab := of_laid hL
  refine (walk a0 len0 cap0 a1 len1 cap1 W w0 w1 htab).mono fun e W' ⟨he, bel⟩ => ?_
  subst he
  exact ⟨_, rfl, _, _, _, [], _, [], hW', trodAll_mk1 (shut_bool Tryz.underlying4 _), (trodAll_cons_mk (Below.trod laidOut (by kernel_rfl) (of_decide_eq_true (by kernel_rfl)) k0 bel lt0) (trodAll_cons_mk (Below.trod laidOut (by kernel_rfl) (of_decide_eq_true (by kernel_rfl)) k1 bel lt1) trodAll_mk0)), rfl, bel.frame _, fun h => by cases h⟩

theorem over : Rows.quillPutsRow.holds Tryz.pinned (OpenSpec.ofChange Rows.quillPutsSpec) :=
  OpenClaim.holds_of_wide 3 Tryz.f3 rfl rfl rfl rfl rfl rfl rfl ⟨rfl, rfl, rfl, rfl, rfl⟩ rfl rfl rfl rfl rfl (by kernel_rfl) Tryz.func3 (by kernel_rfl)
    (of_decide_eq_true (by kernel_rfl)) (by unfold Func.isWrapper; first | (rw [if_pos (by decide +kernel)]; kernel_rfl) | (rw [if_neg (by decide +kernel)]; exact ⟨rfl, rfl⟩))
    (fun os started H enc _ => lifted os started H enc)

/-- The row's statement. -/
theorem said : Rows.QuillPutsSaid := over
end Go.Proofs.YtgaofnmgdefdcaaGreatDoor.quillPuts
namespace Go.Proofs.YtgaofnmgdefdcaaGreatDoor
open Go
/-- The statement, as given: the card. -/
theorem quillPuts_holds : Rows.QuillPutsCardSaid :=
  Claim7.holds_tied_plain_at .later [] [.data, .data, .data] true (true, "c509e5a3588d1c0172cb8ba5d4acbebb2c2cecae6b40abe70424d5f5d3e82fb4") false
    quillPuts.said (fun _ h => by cases h) (by kernel_rfl) (fun _ h => by cases h) quillPuts_row_tie rfl ⟨rfl, rfl⟩ (by kernel_rfl) rfl
    (fun f fn hf hfn => by
      obtain rfl : f = 3 := Option.some.inj ((show Tryz.prog.funcNamed "scriptorium/scriptoriumlaw10.QuillPuts" = some 3 by kernel_rfl).symm.trans hf) |>.symm
      obtain rfl : fn = Tryz.f3 := (Option.some.inj (Tryz.func3.symm.trans hfn)).symm
      exact ⟨by kernel_rfl, fun j t ht => by
        rw [Tryz.params3] at ht
        have hm : t ∈ [22, 23] := by simpa using Array.mem_of_getElem? ht
        have hall : ([22, 23].all fun u => !Tryz.prog.wantsStandIn u) = true := by kernel_rfl
        exact (show Tryz.prog.wantsStandIn t = false by simpa using List.all_eq_true.1 hall t hm)⟩)
    (by kernel_rfl)
#print axioms quillPuts_holds
end Go.Proofs.YtgaofnmgdefdcaaGreatDoor
