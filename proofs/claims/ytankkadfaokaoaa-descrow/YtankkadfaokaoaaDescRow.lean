/- The statement DescRow (P9.2, without the document's answer: ways one behind the other are taken one by one) holds for every input: the Go function answers true, and its arguments read as before. No conditions beyond the row's own. -/
import Derived.Test.YtankkadfaokaoaaRows
import Derived.WalkKit
import Derived.ProofKit
import Derived.OpenShut
import Derived.ShutString
import Derived.ChangeOld
import Derived.Below
import Derived.Test.YtankkadfaokaoaaDsLRw
import Derived.Deep.Slices
import Derived.Deep.SlicePairs
namespace Go.Proofs.Ytankkadfaokaoaa.descRow
open Go.ChangeShapes Go.WideShapes Go.ChangeAt Go.RowKit Go.Deep
open Go.Proofs.Ytankkadfaokaoaa.Gen Go.Proofs.Ytankkadfaokaoaa.Ds
set_option linter.unusedVariables false

theorem own : ownKnob Try.prog.godebug = none := by kernel_rfl
theorem laidOut : laidOutB Try.prog = true := by kernel_rfl

/-- What the walk is told of a slice of integers that came in: it is nil, or a row of cells that hold zs, each of which fits. -/
def IsRow (k : IntKind) (w : World) (a : Option Addr) (len cap : Nat) (zs : List Int) : Prop :=
  (a = none ∧ len = 0 ∧ cap = 0 ∧ zs = []) ∨
  ∃ x, a = some x ∧ len ≤ cap ∧ cap ≤ maxLen ∧ zs.length = cap ∧ (∀ i, i < zs.length → w.cell? (x.add i) = some (.int k (zs.getD i 0))) ∧ ∀ n ∈ zs, (Lit.int k n).wf = true
/-- And of a slice of such slices: it is nil, or each of its cells holds one. -/
def IsRows (k : IntKind) (w : World) (a : Option Addr) (len cap : Nat) : Prop :=
  (a = none ∧ len = 0 ∧ cap = 0) ∨
  ∃ x, a = some x ∧ len ≤ cap ∧ cap ≤ maxLen ∧ ∀ i, i < len → ∃ b n c zs, w.cell? (x.add i) = some (.slice b n c) ∧ IsRow k w b n c zs
/-- And of a slice of structs of two integers. -/
def IsPairs (k0 k1 : IntKind) (w : World) (a : Option Addr) (len cap : Nat) (zs : List (Int × Int)) : Prop :=
  (a = none ∧ len = 0 ∧ cap = 0 ∧ zs = []) ∨
  ∃ x, a = some x ∧ len ≤ cap ∧ cap ≤ maxLen ∧ zs.length = cap ∧ ∀ i, i < zs.length → w.cell? (x.add (i * 2)) = some (.int k0 (zs.getD i (0, 0)).1) ∧ w.cell? (x.add (i * 2 + 1)) = some (.int k1 (zs.getD i (0, 0)).2) ∧ (Lit.int k0 (zs.getD i (0, 0)).1).wf = true ∧ (Lit.int k1 (zs.getD i (0, 0)).2).wf = true
section
variable {H : Type} {enc : TypeId × Value → H} {W : World}
theorem open_pairs {t e : TypeId} {k0 k1 : IntKind} {f0 f1 : Field} {fuel : Nat} {a : Option Addr} {len cap : Nat} {x : DataW H × List MemPlace} (ht : Try.prog.underlying t = some (.slice e)) (he : Try.prog.underlying e = some (.struct #[f0, f1])) (h0 : Try.prog.underlying f0.type = some (.int k0)) (h1 : Try.prog.underlying f1.type = some (.int k1))
    (ce : Try.prog.cellsOf e = 2) (o0 : f0.offset = 0) (o1 : f1.offset = 1) (c0 : Try.prog.cellsOf f0.type = 1) (c1 : Try.prog.cellsOf f1.type = 1)
    (hf : DataW.trod enc Try.prog W 0 (fun _ => true) true fuel t (Value.slice a len cap).cells.toList = some x) : ∃ zs, IsPairs k0 k1 W a len cap zs := by
  rcases open_slice_pairs ht he ce o0 o1 c0 c1 hf with ⟨hcs, _⟩ | ⟨y, l, c, m, n, V0, V1, D0, D1, P0, P1, hcs, _, hl, hm, hmm, _, hi⟩
  · simp [Value.cells] at hcs
    obtain ⟨rfl, rfl, rfl⟩ := hcs
    exact ⟨[], .inl ⟨rfl, rfl, rfl, rfl⟩⟩
  · simp [Value.cells] at hcs
    obtain ⟨rfl, rfl, rfl⟩ := hcs
    simp only [if_true] at hmm
    refine ⟨(List.range cap).map fun i => (intOf (V0 i), intOf (V1 i)), .inr ⟨y, rfl, hl, hm, by simp, fun i hil => ?_⟩⟩
    have hic : i < cap := by simpa using hil
    obtain ⟨g0, g1, g2, g3⟩ := hi i (by omega)
    obtain ⟨n0, e0, _, w0⟩ := DataW.trod_int h0 g2
    obtain ⟨n1, e1, _, w1⟩ := DataW.trod_int h1 g3
    injection e0 with e0
    injection e1 with e1
    rw [e0] at g0
    rw [e1] at g1
    have hz : ((List.range cap).map fun i => (intOf (V0 i), intOf (V1 i))).getD i (0, 0) = (n0, n1) := by
      simp [List.getD_eq_getElem?_getD, hic, e0, e1, intOf]
    rw [hz]
    exact ⟨g0, g1, w0, w1⟩
theorem open_row {t e : TypeId} {k : IntKind} {fuel : Nat} {a : Option Addr} {len cap : Nat} {x : DataW H × List MemPlace} (ht : Try.prog.underlying t = some (.slice e)) (he : Try.prog.underlying e = some (.int k)) (h1 : Try.prog.cellsOf e = 1)
    (hf : DataW.trod enc Try.prog W 0 (fun _ => true) true fuel t (Value.slice a len cap).cells.toList = some x) : ∃ zs, IsRow k W a len cap zs := by
  rcases open_ints ht he h1 hf with ⟨hcs, _⟩ | ⟨x, l, c, zs, hcs, _, hl, hm, hz, _, hcell, hwz⟩
  · simp [Value.cells] at hcs
    obtain ⟨rfl, rfl, rfl⟩ := hcs
    exact ⟨[], .inl ⟨rfl, rfl, rfl, rfl⟩⟩
  · simp [Value.cells] at hcs
    obtain ⟨rfl, rfl, rfl⟩ := hcs
    exact ⟨zs, .inr ⟨_, rfl, hl, hm, by simpa using hz, hcell, hwz⟩⟩
theorem open_rows {t e g : TypeId} {k : IntKind} {fuel : Nat} {a : Option Addr} {len cap : Nat} {x : DataW H × List MemPlace} (ht : Try.prog.underlying t = some (.slice e)) (he : Try.prog.underlying e = some (.slice g)) (hg : Try.prog.underlying g = some (.int k)) (h1 : Try.prog.cellsOf e = 1) (h2 : Try.prog.cellsOf g = 1)
    (hf : DataW.trod enc Try.prog W 0 (fun _ => true) true fuel t (Value.slice a len cap).cells.toList = some x) : IsRows k W a len cap := by
  rcases open_slice ht hf with ⟨hcs, _⟩ | ⟨x, l, c, m, n, D, Pl, hcs, _, hl, hm, hmm, _, hi⟩
  · simp [Value.cells] at hcs
    obtain ⟨rfl, rfl, rfl⟩ := hcs
    exact .inl ⟨rfl, rfl, rfl⟩
  · simp [Value.cells] at hcs
    obtain ⟨rfl, rfl, rfl⟩ := hcs
    refine .inr ⟨x, rfl, hl, hm, fun i hil => ?_⟩
    simp only [if_true] at hmm
    obtain ⟨cs, hc, htr⟩ := hi i (by omega)
    rw [h1, Nat.mul_one] at hc
    obtain ⟨_, hlen, hat⟩ := World.cells?_some hc
    have h0 := hat 0 (by omega)
    have ha0 : (x.add i).add 0 = x.add i := by rw [Go.Deep.add_add]; rfl
    rw [ha0] at h0
    rcases open_ints he hg h2 htr with ⟨hcs, _⟩ | ⟨y, l', c', zs, hcs, _, hl', hm', hz, _, hcell, hwz⟩
    · subst hcs
      exact ⟨none, 0, 0, [], by simpa using h0, .inl ⟨rfl, rfl, rfl, rfl⟩⟩
    · subst hcs
      exact ⟨some y, l', c', zs, by simpa using h0, .inr ⟨y, rfl, hl', hm', by simpa using hz, hcell, hwz⟩⟩
end
theorem len7 {l : List Value} (h : l.length = 7) : ∃ c0 c1 c2 c3 c4 c5 c6, l = [c0, c1, c2, c3, c4, c5, c6] := by
  match l, h with
  | [c0, c1, c2, c3, c4, c5, c6], _ => exact ⟨_, _, _, _, _, _, _, rfl⟩
section
variable {H : Type} {enc : TypeId × Value → H} {W : World}
/-- What is told of a field's cells. -/
theorem open_field {t : TypeId} {fs : Array Field} {cs : List Value} (ht : Try.prog.underlying t = some (.struct fs)) (h : ∃ fuel x, DataW.trod enc Try.prog W 0 (fun _ => true) true fuel t cs = some x) (j : Nat) (f : Field) (hj : fs[j]? = some f) (k m : Nat) (ho : f.offset = k) (hc : Try.prog.cellsOf f.type = m) :
    ∃ fuel x, DataW.trod enc Try.prog W 0 (fun _ => true) true fuel f.type ((cs.drop k).take m) = some x := by
  obtain ⟨fuel, x, h⟩ := h
  obtain ⟨xs, n, _, _, _, hl, hg⟩ := DataW.trod_struct ht h
  have h1 := hg j f hj
  rw [ho, hc] at h1
  have hjl : j < xs.length := by rw [hl]; exact (Array.getElem?_eq_some_iff.1 hj).1
  rw [List.getElem?_eq_getElem hjl] at h1
  exact ⟨n, _, h1⟩
theorem leaf_int {t : TypeId} {k : IntKind} {v : Value} (ht : Try.prog.underlying t = some (.int k)) (h : ∃ fuel x, DataW.trod enc Try.prog W 0 (fun _ => true) true fuel t [v] = some x) : ∃ z, v = .int k z ∧ (Lit.int k z).wf = true := by
  obtain ⟨fuel, x, h⟩ := h
  obtain ⟨z, e1, _, wz⟩ := DataW.trod_int ht h
  exact ⟨z, by injection e1, wz⟩
theorem leaf_bool {t : TypeId} {v : Value} (ht : Try.prog.underlying t = some .bool) (h : ∃ fuel x, DataW.trod enc Try.prog W 0 (fun _ => true) true fuel t [v] = some x) : ∃ z, v = .bool z := by
  obtain ⟨fuel, x, h⟩ := h
  obtain ⟨z, e1, _⟩ := DataW.trod_bool ht h
  exact ⟨z, by injection e1⟩
theorem leaf_slice {t e : TypeId} {v : Value} (ht : Try.prog.underlying t = some (.slice e)) (h : ∃ fuel x, DataW.trod enc Try.prog W 0 (fun _ => true) true fuel t [v] = some x) : ∃ a n c, v = .slice a n c := by
  obtain ⟨fuel, x, h⟩ := h
  rcases DataW.trod_slice ht h with ⟨e1, _⟩ | ⟨a, l, c, _, _, _, _, e1, _⟩
  · exact ⟨none, 0, 0, by injection e1⟩
  · exact ⟨some a, l, c, by injection e1⟩
end
/-- And of a slice of these structs: it is nil, or its cells hold their fields. -/
def IsSt0 (w : World) (a : Option Addr) (len cap : Nat) : Prop :=
  (a = none ∧ len = 0 ∧ cap = 0) ∨
  ∃ x, a = some x ∧ len ≤ cap ∧ cap ≤ maxLen ∧ ∀ i, i < len → ∃ (a0 : Int) (a1 : Int) (a2 : Int) (a3 : Int) (a4 : Option Addr) (n4 k4 : Nat) (a5 : Int) (a6 : Bool), w.cell? (x.add (i * 7 + 0)) = some (.int .u8 a0) ∧ w.cell? (x.add (i * 7 + 1)) = some (.int .u8 a1) ∧ w.cell? (x.add (i * 7 + 2)) = some (.int .u16 a2) ∧ w.cell? (x.add (i * 7 + 3)) = some (.int .i16 a3) ∧ w.cell? (x.add (i * 7 + 4)) = some (.slice a4 n4 k4) ∧ w.cell? (x.add (i * 7 + 5)) = some (.int .u8 a5) ∧ w.cell? (x.add (i * 7 + 6)) = some (.bool a6) ∧ (Lit.int .u8 a0).wf = true ∧ (Lit.int .u8 a1).wf = true ∧ (Lit.int .u16 a2).wf = true ∧ (Lit.int .i16 a3).wf = true ∧ (Lit.int .u8 a5).wf = true
theorem open_st0 {H : Type} {enc : TypeId × Value → H} {W : World} {fuel : Nat} {a : Option Addr} {len cap : Nat} {x : DataW H × List MemPlace}
    (hf : DataW.trod enc Try.prog W 0 (fun _ => true) true fuel 68 (Value.slice a len cap).cells.toList = some x) : IsSt0 W a len cap := by
  rcases open_slice Try.underlying68 hf with ⟨hcs, _⟩ | ⟨x, l, c, m, n, D, Pl, hcs, _, hl, hm, hmm, _, hi⟩
  · simp [Value.cells] at hcs
    obtain ⟨rfl, rfl, rfl⟩ := hcs
    exact .inl ⟨rfl, rfl, rfl⟩
  · simp [Value.cells] at hcs
    obtain ⟨rfl, rfl, rfl⟩ := hcs
    refine .inr ⟨x, rfl, hl, hm, fun i hil => ?_⟩
    simp only [if_true] at hmm
    obtain ⟨cs, hc, htr⟩ := hi i (by omega)
    rw [show Try.prog.cellsOf 26 = 7 from by kernel_rfl] at hc
    obtain ⟨_, hlen, hat⟩ := World.cells?_some hc
    obtain ⟨c0, c1, c2, c3, c4, c5, c6, rfl⟩ := len7 (l := cs) (by simpa using hlen)
    have g : ∃ fuel x, DataW.trod enc Try.prog W 0 (fun _ => true) true fuel 26 [c0, c1, c2, c3, c4, c5, c6] = some x := ⟨_, _, htr⟩
    have g_0 : ∃ fuel x, DataW.trod enc Try.prog W 0 (fun _ => true) true fuel 5 [c0] = some x := open_field Try.underlying26 g 0 _ rfl 0 1 rfl (by kernel_rfl)
    have g_1 : ∃ fuel x, DataW.trod enc Try.prog W 0 (fun _ => true) true fuel 5 [c1] = some x := open_field Try.underlying26 g 1 _ rfl 1 1 rfl (by kernel_rfl)
    have g_2 : ∃ fuel x, DataW.trod enc Try.prog W 0 (fun _ => true) true fuel 22 [c2] = some x := open_field Try.underlying26 g 2 _ rfl 2 1 rfl (by kernel_rfl)
    have g_3 : ∃ fuel x, DataW.trod enc Try.prog W 0 (fun _ => true) true fuel 23 [c3] = some x := open_field Try.underlying26 g 3 _ rfl 3 1 rfl (by kernel_rfl)
    have g_4 : ∃ fuel x, DataW.trod enc Try.prog W 0 (fun _ => true) true fuel 24 [c4] = some x := open_field Try.underlying26 g 4 _ rfl 4 1 rfl (by kernel_rfl)
    have g_5 : ∃ fuel x, DataW.trod enc Try.prog W 0 (fun _ => true) true fuel 5 [c5] = some x := open_field Try.underlying26 g 5 _ rfl 5 1 rfl (by kernel_rfl)
    have g_6 : ∃ fuel x, DataW.trod enc Try.prog W 0 (fun _ => true) true fuel 4 [c6] = some x := open_field Try.underlying26 g 6 _ rfl 6 1 rfl (by kernel_rfl)
    obtain ⟨a0, rfl, w0⟩ := leaf_int Try.underlying5 g_0
    obtain ⟨a1, rfl, w1⟩ := leaf_int Try.underlying5 g_1
    obtain ⟨a2, rfl, w2⟩ := leaf_int Try.underlying22 g_2
    obtain ⟨a3, rfl, w3⟩ := leaf_int Try.underlying23 g_3
    obtain ⟨a4, n4, k4, rfl⟩ := leaf_slice Try.underlying24 g_4
    obtain ⟨a5, rfl, w5⟩ := leaf_int Try.underlying5 g_5
    obtain ⟨a6, rfl⟩ := leaf_bool Try.underlying4 g_6
    refine ⟨a0, a1, a2, a3, a4, n4, k4, a5, a6, ?_, ?_, ?_, ?_, ?_, ?_, ?_, w0, w1, w2, w3, w5⟩
    · have h := hat 0 (by omega)
      rw [Go.Deep.add_add] at h
      simpa using h
    · have h := hat 1 (by omega)
      rw [Go.Deep.add_add] at h
      simpa using h
    · have h := hat 2 (by omega)
      rw [Go.Deep.add_add] at h
      simpa using h
    · have h := hat 3 (by omega)
      rw [Go.Deep.add_add] at h
      simpa using h
    · have h := hat 4 (by omega)
      rw [Go.Deep.add_add] at h
      simpa using h
    · have h := hat 5 (by omega)
      rw [Go.Deep.add_add] at h
      simpa using h
    · have h := hat 6 (by omega)
      rw [Go.Deep.add_add] at h
      simpa using h
theorem small_ok {K bi B le S : Int} {stop : Bool} {n : Nat} (h0 : (Lit.int .u8 K).wf = true) (h1 : (Lit.int .u8 bi).wf = true) (h2 : (Lit.int .u16 B).wf = true) (h3 : (Lit.int .i16 le).wf = true) (h5 : (Lit.int .u8 S).wf = true) : (⟨K, bi, B, le, n, S, stop⟩ : Sm).ok := by
  have m8 : IntKind.u8.min = 0 ∧ IntKind.u8.max = 255 := by decide
  have m16 : IntKind.u16.min = 0 ∧ IntKind.u16.max = 65535 := by decide
  have i16 : IntKind.i16.min = -32768 ∧ IntKind.i16.max = 32767 := by decide
  simp [Lit.wf, m8.1, m8.2] at h0 h1 h5
  simp [Lit.wf, m16.1, m16.2] at h2
  simp [Lit.wf, i16.1, i16.2] at h3
  exact ⟨by show 0 ≤ K ∧ K < 256; omega, by show 0 ≤ bi ∧ bi < 256; omega, by show 0 ≤ B ∧ B < 65536; omega, by show -32768 ≤ le ∧ le ≤ 32767; omega, by show 0 ≤ S ∧ S < 256; omega⟩
def vSl : Value → Option Addr × Nat × Nat
  | .slice a n c => (a, n, c)
  | _ => (none, 0, 0)
def vBo : Value → Bool
  | .bool b => b
  | _ => false
/-- What lies in a cell. -/
def inCell (w : World) (x : Addr) (i j : Nat) : Value := (w.cell? (x.add (i * 7 + j))).getD undef
def smOf (w : World) (x : Addr) (i : Nat) : Sm := ⟨intOf (inCell w x i 0), intOf (inCell w x i 1), intOf (inCell w x i 2), intOf (inCell w x i 3), (vSl (inCell w x i 4)).2.1, intOf (inCell w x i 5), vBo (inCell w x i 6)⟩
set_option maxHeartbeats 16000000 in
set_option maxRecDepth 100000 in
theorem walk (a0 : Option Addr) (len0 cap0 : Nat) (w : World) (w0 : IsSt0 w a0 len0 cap0) :
    Calls Try.prog 7 #[.slice a0 len0 cap0] w fun e w' => e = .returned (.bool true) ∧ Below w.heap.size w w' := by
  have hpost : ∀ (r : Ending) (w' : World), (r = .returned (.bool true) ∧ Keeps (fun _ => False) w w') → r = .returned (.bool true) ∧ Below w.heap.size w w' := fun r w' ⟨h1, h2⟩ => ⟨h1, h2.below (Nat.le_refl _) (fun _ h => h.elim)⟩
  rcases w0 with ⟨rfl, rfl, rfl⟩ | ⟨x, rfl, _, _, hi⟩
  · exact (row_ (fun _ => ⟨0, 0, 0, 0, 0, 0, false⟩) (fun _ => none) (fun _ => 0) none 0 0 0 0 w (fun i h => by omega) (fun h => by omega) (fun i h => by omega)).mono hpost
  · have hsm : ∀ i, i < len0 → (smOf w x i).ok ∧ ∀ j, j < 7 → w.cell? (x.add (i * 7 + j)) = ((smOf w x i).v (vSl (inCell w x i 4)).1 (vSl (inCell w x i 4)).2.2)[j]? := by
      intro i h
      obtain ⟨b0, b1, b2, b3, b4, m4, k4, b5, b6, g0, g1, g2, g3, g4, g5, g6, h0, h1, h2, h3, h5⟩ := hi i h
      have e0 : inCell w x i 0 = .int .u8 b0 := by unfold inCell; rw [g0]; rfl
      have e1 : inCell w x i 1 = .int .u8 b1 := by unfold inCell; rw [g1]; rfl
      have e2 : inCell w x i 2 = .int .u16 b2 := by unfold inCell; rw [g2]; rfl
      have e3 : inCell w x i 3 = .int .i16 b3 := by unfold inCell; rw [g3]; rfl
      have e4 : inCell w x i 4 = .slice b4 m4 k4 := by unfold inCell; rw [g4]; rfl
      have e5 : inCell w x i 5 = .int .u8 b5 := by unfold inCell; rw [g5]; rfl
      have e6 : inCell w x i 6 = .bool b6 := by unfold inCell; rw [g6]; rfl
      have es : smOf w x i = ⟨b0, b1, b2, b3, m4, b5, b6⟩ := by simp [smOf, e0, e1, e2, e3, e4, e5, e6, intOf, vSl, vBo]
      rw [es, e4]
      refine ⟨small_ok h0 h1 h2 h3 h5, fun j hj => ?_⟩
      have hjj : j = 0 ∨ j = 1 ∨ j = 2 ∨ j = 3 ∨ j = 4 ∨ j = 5 ∨ j = 6 := by omega
      rcases hjj with rfl | rfl | rfl | rfl | rfl | rfl | rfl
      · rw [g0]; rfl
      · rw [g1]; rfl
      · rw [g2]; rfl
      · rw [g3]; rfl
      · rw [g4]; rfl
      · rw [g5]; rfl
      · rw [g6]; rfl
    obtain ⟨b, o, sp⟩ := x
    have hx : 0 < len0 → sp = none ∧ b < w.heap.size := by
      intro h
      obtain ⟨b0, _, _, _, _, _, _, _, _, g0, _⟩ := hi 0 h
      have hsp : sp = none := by simpa [Addr.add] using World.cell?_spot g0
      subst hsp
      refine ⟨rfl, ?_⟩
      rw [add_none] at g0
      rcases Nat.lt_or_ge b w.heap.size with hlt | hge
      · exact hlt
      · simp [World.cell?, Array.getElem?_eq_none hge] at g0
    refine (row_ (smOf w ⟨b, o, sp⟩) (fun i => (vSl (inCell w ⟨b, o, sp⟩ i 4)).1) (fun i => (vSl (inCell w ⟨b, o, sp⟩ i 4)).2.2) (some ⟨b, o, sp⟩) len0 cap0 b o w (fun i h => (hsm i h).1) (fun h => ?_) (fun i h j hj => ?_)).mono hpost
    · obtain ⟨rfl, h2⟩ := hx h
      exact ⟨rfl, h2⟩
    · obtain ⟨rfl, h2⟩ := hx (by omega)
      have := (hsm i h).2 j hj
      rw [add_none] at this
      rw [Nat.add_assoc]
      exact this

set_option maxRecDepth 100000 in
theorem lifted (os : Os) (started : os.Started) (H : Type) (enc : TypeId × Value → H) :
    ReturnsInHanded {} Try.checked os 7 .any (Rows.descRowSpec.pre6 enc Try.prog Try.f7 Rows.descRowRow.domain false) (Rows.descRowSpec.post enc Try.prog Try.f7 false true false false) := by
  refine returnsInHanded_of_change (C := Try.checked) own started (by kernel_rfl) Try.func7
    (ChangeSpec.witness6 (enc := enc) (C := Try.checked) false ⟨#[], #[.slice none 0 0], []⟩ 8 (by kernel_rfl) (by kernel_rfl) (by kernel_rfl) (by kernel_rfl)) ?_
  intro W base args ds gs before hval0 hW hcnd _
  have hval : ∀ (j : Nat) t v, Try.f7.params[j]? = some t → args[j]? = some v → Value.okWide Try.prog W .any base t v := hval0
  have hW' := hW
  obtain ⟨p, q, hA0, hV, rfl, hfz, hnd⟩ := hW
  have hA : DataW.TrodAll enc Try.prog W 0 (fun _ => true) true Try.f7.params.toList args.toList ds p := hA0
  rw [Try.params7] at hA hval
  obtain ⟨v0, vs0, d0, ds0, p0, q0, hargs, rfl, rfl, h0, r0⟩ := trodAll_cons hA
  obtain ⟨rfl, rfl, rfl⟩ := trodAll_nil r0
  obtain rfl : args = #[v0] := by cases args; simp_all
  obtain ⟨rfl, rfl⟩ := trodVars_none hV
  obtain ⟨a0, len0, cap0, rfl⟩ := okWide_slice Try.underlying68 (hval 0 68 v0 rfl rfl)
  have k0 := h0
  have lt0 : ∀ x ∈ p0, x.block < W.heap.size := by obtain ⟨m, hm⟩ := k0; exact DataW.trod_lt m _ _ _ hm
  have w0 : IsSt0 W a0 len0 cap0 := by
    obtain ⟨fuel, hf⟩ := h0
    exact open_st0 hf
  clear hA0 hval0
  refine (walk a0 len0 cap0 W w0).mono fun e W' ⟨he, bel⟩ => ?_
  subst he
  exact ⟨_, rfl, _, _, _, [], _, [], hW', trodAll_mk1 (shut_bool Try.underlying4 _), (trodAll_cons_mk (Below.trod laidOut (by kernel_rfl) (of_decide_eq_true (by kernel_rfl)) k0 bel lt0) trodAll_mk0), rfl, bel.frame _, fun h => by cases h⟩

theorem over : Rows.descRowRow.holds Try.pinned (OpenSpec.ofChange Rows.descRowSpec) :=
  OpenClaim.holds_of_wide 7 Try.f7 rfl rfl rfl rfl rfl rfl rfl ⟨rfl, rfl, rfl, rfl, rfl⟩ rfl rfl rfl rfl rfl (by kernel_rfl) Try.func7 (by kernel_rfl)
    (of_decide_eq_true (by kernel_rfl)) (by unfold Func.isWrapper; first | (rw [if_pos (by decide +kernel)]; kernel_rfl) | (rw [if_neg (by decide +kernel)]; exact ⟨rfl, rfl⟩))
    (fun os started H enc _ => lifted os started H enc)

/-- The statement, as given. -/
theorem proved : Rows.DescRowSaid :=
  over
end Go.Proofs.Ytankkadfaokaoaa.descRow
namespace Go.Proofs.Ytankkadfaokaoaa
/-- The statement, as given. -/
theorem descRow_holds : Rows.DescRowSaid := descRow.proved
#print axioms descRow_holds
end Go.Proofs.Ytankkadfaokaoaa
