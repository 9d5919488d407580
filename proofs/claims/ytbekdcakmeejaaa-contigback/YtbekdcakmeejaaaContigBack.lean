
/- The statement ContigBack (P12.1: contigs that may be, as a text, and back; found by their names; their letters) holds for every input: the Go function answers true, and its arguments read as before. No conditions beyond the row's own. -/
import Derived.Test.YtbekdcakmeejaaaRows
import Derived.WalkKit
import Derived.ProofKit
import Derived.OpenShut
import Derived.ShutString
import Derived.ChangeMaps5
import Derived.ChangeOld
import Derived.Below
import Derived.Test.YtbekdcakmeejaaaCtLBk
import Derived.Deep.Slices
import Derived.Deep.SlicePairs
namespace Go.Proofs.Ytbekdcakmeejaaa.contigBack
open Go.ChangeShapes Go.WideShapes Go.ChangeAt Go.RowKit Go.Deep
open Go.ChangeMaps (open_string shut_string)
open Go.Proofs.Ytbekdcakmeejaaa.Gen
set_option linter.unusedVariables false

theorem own : ownKnob Try.prog.godebug = none := by kernel_rfl
theorem laidOut : laidOutB Try.prog = true := by kernel_rfl

/-- What the walk is told of a slice of integers that came in: it is nil, or a row of cells that hold zs, each of which fits. -/
def IsRow (k : IntKind) (w : World) (a : Option Addr) (len cap : Nat) (zs : List Int) : Prop :=
  (a = none ∧ len = 0 ∧ cap = 0 ∧ zs = []) ∨
  ∃ x, a = some x ∧ len ≤ cap ∧ cap ≤ maxLen ∧ zs.length = cap ∧ (∀ i, i < zs.length → w.cell? (x.add i) = some (.int k (zs.getD i 0))) ∧ ∀ n ∈ zs, (Lit.int k n).wf = true
/-- And of a slice of such slices: it is nil, or each of its cells holds one. -/
def IsRows (k : IntKind) (w : World) (a : Option Addr) (len cap : Nat) : Prop :=
  (a = none ∧ len = 0 ∧ cap = 0) ∨
  ∃ x, a = some x ∧ len ≤ cap ∧ cap ≤ maxLen ∧ ∀ i, i < len → ∃ b n c zs, w.cell? (x.add i) = some (.slice b n c) ∧ IsRow k w b n c zs
/-- And of a slice of structs of two integers. -/
def IsPairs (k0 k1 : IntKind) (w : World) (a : Option Addr) (len cap : Nat) (zs : List (Int × Int)) : Prop :=
  (a = none ∧ len = 0 ∧ cap = 0 ∧ zs = []) ∨
  ∃ x, a = some x ∧ len ≤ cap ∧ cap ≤ maxLen ∧ zs.length = cap ∧ ∀ i, i < zs.length → w.cell? (x.add (i * 2)) = some (.int k0 (zs.getD i (0, 0)).1) ∧ w.cell? (x.add (i * 2 + 1)) = some (.int k1 (zs.getD i (0, 0)).2) ∧ (Lit.int k0 (zs.getD i (0, 0)).1).wf = true ∧ (Lit.int k1 (zs.getD i (0, 0)).2).wf = true
section
variable {H : Type} {enc : TypeId × Value → H} {W : World}
theorem open_pairs {t e : TypeId} {k0 k1 : IntKind} {f0 f1 : Field} {fuel : Nat} {a : Option Addr} {len cap : Nat} {x : DataW H × List MemPlace} (ht : Try.prog.underlying t = some (.slice e)) (he : Try.prog.underlying e = some (.struct #[f0, f1])) (h0 : Try.prog.underlying f0.type = some (.int k0)) (h1 : Try.prog.underlying f1.type = some (.int k1))
    (ce : Try.prog.cellsOf e = 2) (o0 : f0.offset = 0) (o1 : f1.offset = 1) (c0 : Try.prog.cellsOf f0.type = 1) (c1 : Try.prog.cellsOf f1.type = 1)
    (hf : DataW.trod enc Try.prog W 0 (fun _ => true) true fuel t (Value.slice a len cap).cells.toList = some x) : ∃ zs, IsPairs k0 k1 W a len cap zs := by
  rcases open_slice_pairs ht he ce o0 o1 c0 c1 hf with ⟨hcs, _⟩ | ⟨y, l, c, m, n, V0, V1, D0, D1, P0, P1, hcs, _, hl, hm, hmm, _, hi⟩
  · simp [Value.cells] at hcs
    obtain ⟨rfl, rfl, rfl⟩ := hcs
    exact ⟨[], .inl ⟨rfl, rfl, rfl, rfl⟩⟩
  · simp [Value.cells] at hcs
    obtain ⟨rfl, rfl, rfl⟩ := hcs
    simp only [if_true] at hmm
    refine ⟨(List.range cap).map fun i => (intOf (V0 i), intOf (V1 i)), .inr ⟨y, rfl, hl, hm, by simp, fun i hil => ?_⟩⟩
    have hic : i < cap := by simpa using hil
    obtain ⟨g0, g1, g2, g3⟩ := hi i (by omega)
    obtain ⟨n0, e0, _, w0⟩ := DataW.trod_int h0 g2
    obtain ⟨n1, e1, _, w1⟩ := DataW.trod_int h1 g3
    injection e0 with e0
    injection e1 with e1
    rw [e0] at g0
    rw [e1] at g1
    have hz : ((List.range cap).map fun i => (intOf (V0 i), intOf (V1 i))).getD i (0, 0) = (n0, n1) := by
      simp [List.getD_eq_getElem?_getD, hic, e0, e1, intOf]
    rw [hz]
    exact ⟨g0, g1, w0, w1⟩
theorem open_row {t e : TypeId} {k : IntKind} {fuel : Nat} {a : Option Addr} {len cap : Nat} {x : DataW H × List MemPlace} (ht : Try.prog.underlying t = some (.slice e)) (he : Try.prog.underlying e = some (.int k)) (h1 : Try.prog.cellsOf e = 1)
    (hf : DataW.trod enc Try.prog W 0 (fun _ => true) true fuel t (Value.slice a len cap).cells.toList = some x) : ∃ zs, IsRow k W a len cap zs := by
  rcases open_ints ht he h1 hf with ⟨hcs, _⟩ | ⟨x, l, c, zs, hcs, _, hl, hm, hz, _, hcell, hwz⟩
  · simp [Value.cells] at hcs
    obtain ⟨rfl, rfl, rfl⟩ := hcs
    exact ⟨[], .inl ⟨rfl, rfl, rfl, rfl⟩⟩
  · simp [Value.cells] at hcs
    obtain ⟨rfl, rfl, rfl⟩ := hcs
    exact ⟨zs, .inr ⟨_, rfl, hl, hm, by simpa using hz, hcell, hwz⟩⟩
theorem open_rows {t e g : TypeId} {k : IntKind} {fuel : Nat} {a : Option Addr} {len cap : Nat} {x : DataW H × List MemPlace} (ht : Try.prog.underlying t = some (.slice e)) (he : Try.prog.underlying e = some (.slice g)) (hg : Try.prog.underlying g = some (.int k)) (h1 : Try.prog.cellsOf e = 1) (h2 : Try.prog.cellsOf g = 1)
    (hf : DataW.trod enc Try.prog W 0 (fun _ => true) true fuel t (Value.slice a len cap).cells.toList = some x) : IsRows k W a len cap := by
  rcases open_slice ht hf with ⟨hcs, _⟩ | ⟨x, l, c, m, n, D, Pl, hcs, _, hl, hm, hmm, _, hi⟩
  · simp [Value.cells] at hcs
    obtain ⟨rfl, rfl, rfl⟩ := hcs
    exact .inl ⟨rfl, rfl, rfl⟩
  · simp [Value.cells] at hcs
    obtain ⟨rfl, rfl, rfl⟩ := hcs
    refine .inr ⟨x, rfl, hl, hm, fun i hil => ?_⟩
    simp only [if_true] at hmm
    obtain ⟨cs, hc, htr⟩ := hi i (by omega)
    rw [h1, Nat.mul_one] at hc
    obtain ⟨_, hlen, hat⟩ := World.cells?_some hc
    have h0 := hat 0 (by omega)
    have ha0 : (x.add i).add 0 = x.add i := by rw [Go.Deep.add_add]; rfl
    rw [ha0] at h0
    rcases open_ints he hg h2 htr with ⟨hcs, _⟩ | ⟨y, l', c', zs, hcs, _, hl', hm', hz, _, hcell, hwz⟩
    · subst hcs
      exact ⟨none, 0, 0, [], by simpa using h0, .inl ⟨rfl, rfl, rfl, rfl⟩⟩
    · subst hcs
      exact ⟨some y, l', c', zs, by simpa using h0, .inr ⟨y, rfl, hl', hm', by simpa using hz, hcell, hwz⟩⟩
end
theorem len6 {l : List Value} (h : l.length = 6) : ∃ c0 c1 c2 c3 c4 c5, l = [c0, c1, c2, c3, c4, c5] := by
  match l, h with
  | [c0, c1, c2, c3, c4, c5], _ => exact ⟨_, _, _, _, _, _, rfl⟩
section
variable {H : Type} {enc : TypeId × Value → H} {W : World}
/-- What is told of a field's cells. -/
theorem open_field {t : TypeId} {fs : Array Field} {cs : List Value} (ht : Try.prog.underlying t = some (.struct fs)) (h : ∃ fuel x, DataW.trod enc Try.prog W 0 (fun _ => true) true fuel t cs = some x) (j : Nat) (f : Field) (hj : fs[j]? = some f) (k m : Nat) (ho : f.offset = k) (hc : Try.prog.cellsOf f.type = m) :
    ∃ fuel x, DataW.trod enc Try.prog W 0 (fun _ => true) true fuel f.type ((cs.drop k).take m) = some x := by
  obtain ⟨fuel, x, h⟩ := h
  obtain ⟨xs, n, _, _, _, hl, hg⟩ := DataW.trod_struct ht h
  have h1 := hg j f hj
  rw [ho, hc] at h1
  have hjl : j < xs.length := by rw [hl]; exact (Array.getElem?_eq_some_iff.1 hj).1
  rw [List.getElem?_eq_getElem hjl] at h1
  exact ⟨n, _, h1⟩
/-- What is told of an array's cells. -/
theorem open_elem {t e : TypeId} {n : Nat} {cs : List Value} (ht : Try.prog.underlying t = some (.array n e)) (ce : Try.prog.cellsOf e = 1) (h : ∃ fuel x, DataW.trod enc Try.prog W 0 (fun _ => true) true fuel t cs = some x) (j : Nat) (hj : j < n) :
    ∃ fuel x, DataW.trod enc Try.prog W 0 (fun _ => true) true fuel e ((cs.drop j).take 1) = some x := by
  obtain ⟨fuel, x, hf⟩ := h
  obtain ⟨xs, m, _, _, _, hx, hi⟩ := DataW.trod_array ht hf
  have h1 := hi j hj
  rw [List.getElem?_eq_getElem (by omega), ce, Nat.mul_one] at h1
  exact ⟨m, _, h1⟩
theorem leaf_int {t : TypeId} {k : IntKind} {v : Value} (ht : Try.prog.underlying t = some (.int k)) (h : ∃ fuel x, DataW.trod enc Try.prog W 0 (fun _ => true) true fuel t [v] = some x) : ∃ z, v = .int k z ∧ (Lit.int k z).wf = true := by
  obtain ⟨fuel, x, h⟩ := h
  obtain ⟨z, e1, _, wz⟩ := DataW.trod_int ht h
  exact ⟨z, by injection e1, wz⟩
theorem leaf_bool {t : TypeId} {v : Value} (ht : Try.prog.underlying t = some .bool) (h : ∃ fuel x, DataW.trod enc Try.prog W 0 (fun _ => true) true fuel t [v] = some x) : ∃ z, v = .bool z := by
  obtain ⟨fuel, x, h⟩ := h
  obtain ⟨z, e1, _⟩ := DataW.trod_bool ht h
  exact ⟨z, by injection e1⟩
theorem leaf_slice {t e : TypeId} {v : Value} (ht : Try.prog.underlying t = some (.slice e)) (h : ∃ fuel x, DataW.trod enc Try.prog W 0 (fun _ => true) true fuel t [v] = some x) : ∃ a n c, v = .slice a n c := by
  obtain ⟨fuel, x, h⟩ := h
  rcases DataW.trod_slice ht h with ⟨e1, _⟩ | ⟨a, l, c, _, _, _, _, e1, _⟩
  · exact ⟨none, 0, 0, by injection e1⟩
  · exact ⟨some a, l, c, by injection e1⟩
end
theorem nat8 {x : Int} (h : (Lit.int .u8 x).wf = true) : ∃ n : Nat, x = (n : Int) ∧ n < 256 := by
  have hm : IntKind.u8.min = 0 ∧ IntKind.u8.max = 255 := by decide
  simp [Lit.wf, hm.1, hm.2] at h
  exact ⟨x.toNat, by omega, by omega⟩
theorem nat16 {x : Int} (h : (Lit.int .u16 x).wf = true) : ∃ n : Nat, x = (n : Int) ∧ n < 65536 := by
  have hm : IntKind.u16.min = 0 ∧ IntKind.u16.max = 65535 := by decide
  simp [Lit.wf, hm.1, hm.2] at h
  exact ⟨x.toNat, by omega, by omega⟩
theorem nat32 {x : Int} (h : (Lit.int .u32 x).wf = true) : ∃ n : Nat, x = (n : Int) ∧ n < 4294967296 := by
  have hm : IntKind.u32.min = 0 ∧ IntKind.u32.max = 4294967295 := by decide
  simp [Lit.wf, hm.1, hm.2] at h
  exact ⟨x.toNat, by omega, by omega⟩
theorem wf_i64 {x : Int} (h : (Lit.int .i64 x).wf = true) : -9223372036854775808 ≤ x ∧ x ≤ 9223372036854775807 := by
  have hm : IntKind.i64.min = -9223372036854775808 ∧ IntKind.i64.max = 9223372036854775807 := by decide
  simp [Lit.wf, hm.1, hm.2] at h
  omega
theorem walk (a0_0 : Int) (a0_1 : Int) (a0_2 : Int) (a0_3 : Int) (a0_4 : Int) (a0_5 : Int) (a1 : ByteArray) (a2 : Int) (a3 : Int) (w : World) (w0_0 : (Lit.int .u8 a0_0).wf = true) (w0_1 : (Lit.int .u8 a0_1).wf = true) (w0_2 : (Lit.int .u8 a0_2).wf = true) (w0_3 : (Lit.int .u8 a0_3).wf = true) (w0_4 : (Lit.int .u8 a0_4).wf = true) (w0_5 : (Lit.int .u32 a0_5).wf = true) (w1 : a1.size ≤ maxLen) (w2 : (Lit.int .i64 a2).wf = true) (w3 : (Lit.int .i64 a3).wf = true) :
    Calls Try.prog 3 #[.agg #[.int .u8 a0_0, .int .u8 a0_1, .int .u8 a0_2, .int .u8 a0_3, .int .u8 a0_4, .int .u32 a0_5], .string a1, .int .i64 a2, .int .i64 a3] w fun e w' => e = .returned (.bool true) ∧ Below w.heap.size w w' := by
  obtain ⟨K, rfl, hK⟩ := nat8 w0_0
  obtain ⟨l0, rfl, hl0⟩ := nat8 w0_1
  obtain ⟨l1, rfl, hl1⟩ := nat8 w0_2
  obtain ⟨l2, rfl, hl2⟩ := nat8 w0_3
  obtain ⟨l3, rfl, hl3⟩ := nat8 w0_4
  obtain ⟨sd, rfl, hsd⟩ := nat32 w0_5
  exact (Ct.back_ ⟨K, l0, l1, l2, l3, sd⟩ a1 a2 a3 w ⟨hK, hl0, hl1, hl2, hl3, hsd⟩ w1 (wf_i64 w2) (wf_i64 w3)).mono fun e w' h => ⟨h.1, h.2.below (Nat.le_refl _) (fun _ hf => hf.elim)⟩

set_option maxRecDepth 100000 in
theorem lifted (os : Os) (started : os.Started) (H : Type) (enc : TypeId × Value → H) :
    ReturnsInHanded {} Try.checked os 3 .any (Rows.contigBackSpec.pre6 enc Try.prog Try.f3 Rows.contigBackRow.domain false) (Rows.contigBackSpec.post enc Try.prog Try.f3 false true false false) := by
  refine returnsInHanded_of_change (C := Try.checked) own started (by kernel_rfl) Try.func3
    (ChangeSpec.witness6 (enc := enc) (C := Try.checked) false ⟨#[], #[.agg #[.int .u8 0, .int .u8 0, .int .u8 0, .int .u8 0, .int .u8 0, .int .u32 0], .string ByteArray.empty, .int .i64 0, .int .i64 0], []⟩ 8 (by kernel_rfl) (by kernel_rfl) (by kernel_rfl) (by kernel_rfl)) ?_
  intro W base args ds gs before hval0 hW hcnd _
  have hval : ∀ (j : Nat) t v, Try.f3.params[j]? = some t → args[j]? = some v → Value.okWide Try.prog W .any base t v := hval0
  have hW' := hW
  obtain ⟨p, q, hA0, hV, rfl, hfz, hnd⟩ := hW
  have hA : DataW.TrodAll enc Try.prog W 0 (fun _ => true) true Try.f3.params.toList args.toList ds p := hA0
  rw [Try.params3] at hA hval
  obtain ⟨v0, vs0, d0, ds0, p0, q0, hargs, rfl, rfl, h0, r0⟩ := trodAll_cons hA
  obtain ⟨v1, vs1, d1, ds1, p1, q1, rfl, rfl, rfl, h1, r1⟩ := trodAll_cons r0
  obtain ⟨v2, vs2, d2, ds2, p2, q2, rfl, rfl, rfl, h2, r2⟩ := trodAll_cons r1
  obtain ⟨v3, vs3, d3, ds3, p3, q3, rfl, rfl, rfl, h3, r3⟩ := trodAll_cons r2
  obtain ⟨rfl, rfl, rfl⟩ := trodAll_nil r3
  obtain rfl : args = #[v0, v1, v2, v3] := by cases args; simp_all
  obtain ⟨rfl, rfl⟩ := trodVars_none hV
  obtain ⟨cs0, rfl, hs0⟩ := okWide_struct Try.underlying25 (hval 0 25 v0 rfl rfl)
  have k0 := h0
  have lt0 : ∀ x ∈ p0, x.block < W.heap.size := by obtain ⟨m, hm⟩ := k0; exact DataW.trod_lt m _ _ _ hm
  obtain ⟨l0⟩ := cs0
  obtain ⟨c0_0, c0_1, c0_2, c0_3, c0_4, c0_5, rfl⟩ := len6 (l := l0) (hs0.trans (by kernel_rfl))
  have g0 : ∃ fuel x, DataW.trod enc Try.prog W 0 (fun _ => true) true fuel 25 [c0_0, c0_1, c0_2, c0_3, c0_4, c0_5] = some x := by obtain ⟨m, hm⟩ := k0; exact ⟨m, _, by simpa [Value.cells] using hm⟩
  have g0_0 : ∃ fuel x, DataW.trod enc Try.prog W 0 (fun _ => true) true fuel 5 [c0_0] = some x := open_field Try.underlying25 g0 0 _ rfl 0 1 rfl (by kernel_rfl)
  have g0_1 : ∃ fuel x, DataW.trod enc Try.prog W 0 (fun _ => true) true fuel 22 [c0_1, c0_2, c0_3, c0_4] = some x := open_field Try.underlying25 g0 1 _ rfl 1 4 rfl (by kernel_rfl)
  have g0_2 : ∃ fuel x, DataW.trod enc Try.prog W 0 (fun _ => true) true fuel 23 [c0_5] = some x := open_field Try.underlying25 g0 2 _ rfl 5 1 rfl (by kernel_rfl)
  obtain ⟨a0_0, rfl, w0_0⟩ := leaf_int Try.underlying5 g0_0
  have g0_1_0 : ∃ fuel x, DataW.trod enc Try.prog W 0 (fun _ => true) true fuel 5 [c0_1] = some x := open_elem Try.underlying22 (by kernel_rfl) g0_1 0 (by decide)
  obtain ⟨a0_1, rfl, w0_1⟩ := leaf_int Try.underlying5 g0_1_0
  have g0_1_1 : ∃ fuel x, DataW.trod enc Try.prog W 0 (fun _ => true) true fuel 5 [c0_2] = some x := open_elem Try.underlying22 (by kernel_rfl) g0_1 1 (by decide)
  obtain ⟨a0_2, rfl, w0_2⟩ := leaf_int Try.underlying5 g0_1_1
  have g0_1_2 : ∃ fuel x, DataW.trod enc Try.prog W 0 (fun _ => true) true fuel 5 [c0_3] = some x := open_elem Try.underlying22 (by kernel_rfl) g0_1 2 (by decide)
  obtain ⟨a0_3, rfl, w0_3⟩ := leaf_int Try.underlying5 g0_1_2
  have g0_1_3 : ∃ fuel x, DataW.trod enc Try.prog W 0 (fun _ => true) true fuel 5 [c0_4] = some x := open_elem Try.underlying22 (by kernel_rfl) g0_1 3 (by decide)
  obtain ⟨a0_4, rfl, w0_4⟩ := leaf_int Try.underlying5 g0_1_3
  obtain ⟨a0_5, rfl, w0_5⟩ := leaf_int Try.underlying23 g0_2
  obtain ⟨a1, rfl, rfl, rfl, w1⟩ := open_string Try.underlying9 (hval 1 9 v1 rfl rfl) h1
  obtain ⟨a2, rfl, rfl, rfl, w2⟩ := open_int Try.underlying3 (hval 2 3 v2 rfl rfl) h2
  obtain ⟨a3, rfl, rfl, rfl, w3⟩ := open_int Try.underlying3 (hval 3 3 v3 rfl rfl) h3
  clear hA0 hval0
  refine (walk a0_0 a0_1 a0_2 a0_3 a0_4 a0_5 a1 a2 a3 W w0_0 w0_1 w0_2 w0_3 w0_4 w0_5 w1 w2 w3).mono fun e W' ⟨he, bel⟩ => ?_
  subst he
  exact ⟨_, rfl, _, _, _, [], _, [], hW', trodAll_mk1 (shut_bool Try.underlying4 _), (trodAll_cons_mk (Below.trod laidOut (by kernel_rfl) (of_decide_eq_true (by kernel_rfl)) k0 bel lt0) (trodAll_cons_mk (shut_string Try.underlying9 w1) (trodAll_cons_mk (shut_int Try.underlying3 w2) (trodAll_cons_mk (shut_int Try.underlying3 w3) trodAll_mk0)))), rfl, bel.frame _, fun h => by cases h⟩

theorem over : Rows.contigBackRow.holds Try.pinned (OpenSpec.ofChange Rows.contigBackSpec) :=
  OpenClaim.holds_of_wide 3 Try.f3 rfl rfl rfl rfl rfl rfl rfl ⟨rfl, rfl, rfl, rfl, rfl⟩ rfl rfl rfl rfl rfl (by kernel_rfl) Try.func3 (by kernel_rfl)
    (of_decide_eq_true (by kernel_rfl)) (by unfold Func.isWrapper; first | (rw [if_pos (by decide +kernel)]; kernel_rfl) | (rw [if_neg (by decide +kernel)]; exact ⟨rfl, rfl⟩))
    (fun os started H enc _ => lifted os started H enc)

/-- The statement, as given. -/
theorem proved : Rows.ContigBackSaid :=
  over
end Go.Proofs.Ytbekdcakmeejaaa.contigBack
namespace Go.Proofs.Ytbekdcakmeejaaa
/-- The statement, as given. -/
theorem contigBack_holds : Rows.ContigBackSaid := contigBack.proved
#print axioms contigBack_holds
end Go.Proofs.Ytbekdcakmeejaaa
